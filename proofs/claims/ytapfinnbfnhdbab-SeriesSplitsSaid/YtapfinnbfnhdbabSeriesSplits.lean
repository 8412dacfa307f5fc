/-
  The law SeriesSplits holds: for every input it returns true and leaves its arguments as they were. 
-/
import Derived.Test.YtapfinnbfnhdbabRows
import Derived.Test.YtapfinnbfnhdbabSerPW
import Derived.WalkKit
namespace Go.Proofs.Ytapfinnbfnhdbab
namespace seriesSplits
open Go.ChangeShapes Go.WideShapes Go.ChangeAt Go.RowKit
open Ser
set_option linter.unusedVariables false

set_option maxHeartbeats 40000000 in
set_option maxRecDepth 1000000 in
theorem walk (v0 : Value) (a : List St) (v1 : Value) (b : List St) (f t m : Int) (w : World) (Ra : Rd w v0 a) (Rb : Rd w v1 b) :
    Calls Try.prog 10 #[v0, v1, .agg #[.int .i64 f, .int .i64 t], .int .i64 m] w fun e w' => e = .returned (.bool true) ∧ Below w.heap.size w w' := by
  have hs0 : a.length ≤ 600 → a.length ≤ 2000000 := by omega
  have HB := Lib.hid (b_new w (.cells #[.int .i64 f, .int .i64 t] 35))
  by_cases q1 : a.length ≤ 600
  · skip
    by_cases q2 : b.length ≤ 600
    · skip
      by_cases q3 : f ≤ m
      · skip
        by_cases q4 : m ≤ t
        · skip
          have RA := Lib.hid Ra
          have RB := Lib.hid Rb
          obtain ⟨pa, ca, rfl, _, _, _⟩ := Ra
          obtain ⟨pb, cb, rfl, _, _, _⟩ := Rb
          have sz0 : w.heap.size < (w.alloc (.cells #[.int .i64 f, .int .i64 t] 35)).heap.size := by simp
          have k00 : (w.alloc (.cells #[.int .i64 f, .int .i64 t] 35)).cell? ⟨w.heap.size, 0, none⟩ = some (.int .i64 f) := by simp
          have k10 : (w.alloc (.cells #[.int .i64 f, .int .i64 t] 35)).cell? ⟨w.heap.size, 1, none⟩ = some (.int .i64 t) := by simp
          have G0 := Lib.hid (b_new w (.cells #[.int .i64 f, .int .i64 t] 35))
          go_enter Try.func10, Try.ntmps10
          go_wp2_with fail
          by_cases z1 : enE a f t = 0
          · skip
            have C := Lib.hid (energy_any _ a f t _ (by omega) (RA.out.below G0.out))
            rw [z1] at C
            obtain ⟨Vu5, hVu5⟩ : ∃ x, enV a f t = x := ⟨_, rfl⟩
            rw [hVu5] at C
            have HVu5 := Lib.hid hVu5
            have Zz1 := Lib.hid z1
            clear hVu5 z1
            refine C.out.mono ?_
            rintro e u5 ⟨rfl, gu5⟩
            clear C
            have szu5 : w.heap.size < u5.heap.size := Nat.lt_of_lt_of_le sz0 gu5.size
            have k0u5 : u5.cell? ⟨w.heap.size, 0, none⟩ = some (.int .i64 f) := by rw [(bcell gu5).1 _ _ sz0]; exact k00
            have k1u5 : u5.cell? ⟨w.heap.size, 1, none⟩ = some (.int .i64 t) := by rw [(bcell gu5).1 _ _ sz0]; exact k10
            have Gu5 := Lib.hid (b2 G0.out gu5)
            clear k00 k10 gu5
            go_wp2_with fail
            by_cases z2 : enE a f m = 0
            · skip
              have C := Lib.hid (energy_any _ a f m _ (by omega) (RA.out.below Gu5.out))
              rw [z2] at C
              obtain ⟨Vu6, hVu6⟩ : ∃ x, enV a f m = x := ⟨_, rfl⟩
              rw [hVu6] at C
              have HVu6 := Lib.hid hVu6
              have Zz2 := Lib.hid z2
              clear hVu6 z2
              refine C.out.mono ?_
              rintro e u6 ⟨rfl, gu6⟩
              clear C
              have szu6 : w.heap.size < u6.heap.size := Nat.lt_of_lt_of_le szu5 gu6.size
              have k0u6 : u6.cell? ⟨w.heap.size, 0, none⟩ = some (.int .i64 f) := by rw [(bcell gu6).1 _ _ szu5]; exact k0u5
              have k1u6 : u6.cell? ⟨w.heap.size, 1, none⟩ = some (.int .i64 t) := by rw [(bcell gu6).1 _ _ szu5]; exact k1u5
              have Gu6 := Lib.hid (b2 Gu5.out gu6)
              clear k0u5 k1u5 gu6
              go_wp2_with fail
              by_cases z3 : enE a m t = 0
              · skip
                have C := Lib.hid (energy_any _ a m t _ (by omega) (RA.out.below Gu6.out))
                rw [z3] at C
                obtain ⟨Vu7, hVu7⟩ : ∃ x, enV a m t = x := ⟨_, rfl⟩
                rw [hVu7] at C
                have HVu7 := Lib.hid hVu7
                have Zz3 := Lib.hid z3
                clear hVu7 z3
                refine C.out.mono ?_
                rintro e u7 ⟨rfl, gu7⟩
                clear C
                have szu7 : w.heap.size < u7.heap.size := Nat.lt_of_lt_of_le szu6 gu7.size
                have k0u7 : u7.cell? ⟨w.heap.size, 0, none⟩ = some (.int .i64 f) := by rw [(bcell gu7).1 _ _ szu6]; exact k0u6
                have k1u7 : u7.cell? ⟨w.heap.size, 1, none⟩ = some (.int .i64 t) := by rw [(bcell gu7).1 _ _ szu6]; exact k1u6
                have Gu7 := Lib.hid (b2 Gu6.out gu7)
                clear k0u6 k1u6 gu7
                obtain ⟨p1, p2, p3⟩ := en_split Zz1.out Zz2.out Zz3.out
                rw [HVu6.out, HVu7.out, HVu5.out] at p1
                rw [HVu5.out] at p2 p3
                go_wp2_with fail
                by_cases zh : addE a b = 0
                · skip
                  have C := Lib.hid (add_any _ _ a b _ (by omega) (by omega) (RA.out.below Gu7.out) (RB.out.below Gu7.out))
                  rw [zh] at C
                  have ZH := Lib.hid zh
                  clear zh
                  refine C.out.mono ?_
                  rintro e u8 ⟨ru8, rfl, rdu8, gu8⟩
                  clear C
                  have RDu8 := Lib.hid rdu8
                  clear rdu8
                  have szu8 : w.heap.size < u8.heap.size := Nat.lt_of_lt_of_le szu7 gu8.size
                  have k0u8 : u8.cell? ⟨w.heap.size, 0, none⟩ = some (.int .i64 f) := by rw [(bcell gu8).1 _ _ szu7]; exact k0u7
                  have k1u8 : u8.cell? ⟨w.heap.size, 1, none⟩ = some (.int .i64 t) := by rw [(bcell gu8).1 _ _ szu7]; exact k1u7
                  have Gu8 := Lib.hid (b2 Gu7.out gu8)
                  clear k0u7 k1u7 gu8
                  go_wp2_with fail
                  by_cases z4 : enE b f t = 0
                  · skip
                    have C := Lib.hid (energy_any _ b f t _ (by omega) (RB.out.below Gu8.out))
                    rw [z4] at C
                    obtain ⟨Vu9, hVu9⟩ : ∃ x, enV b f t = x := ⟨_, rfl⟩
                    rw [hVu9] at C
                    have HVu9 := Lib.hid hVu9
                    have Zz4 := Lib.hid z4
                    clear hVu9 z4
                    refine C.out.mono ?_
                    rintro e u9 ⟨rfl, gu9⟩
                    clear C
                    have Hbu9 := Lib.hid gu9
                    have szu9 : w.heap.size < u9.heap.size := Nat.lt_of_lt_of_le szu8 gu9.size
                    have k0u9 : u9.cell? ⟨w.heap.size, 0, none⟩ = some (.int .i64 f) := by rw [(bcell gu9).1 _ _ szu8]; exact k0u8
                    have k1u9 : u9.cell? ⟨w.heap.size, 1, none⟩ = some (.int .i64 t) := by rw [(bcell gu9).1 _ _ szu8]; exact k1u8
                    have Gu9 := Lib.hid (b2 Gu8.out gu9)
                    clear k0u8 k1u8 gu9
                    go_wp2_with fail
                    by_cases z5 : enE (addL a b) f t = 0
                    · skip
                      have C := Lib.hid (energy_any _ (addL a b) f t _ (addL_len a b) (RDu8.out.below (Hbu9.out)))
                      rw [z5] at C
                      obtain ⟨Vu10, hVu10⟩ : ∃ x, enV (addL a b) f t = x := ⟨_, rfl⟩
                      rw [hVu10] at C
                      have HVu10 := Lib.hid hVu10
                      have Zz5 := Lib.hid z5
                      clear hVu10 z5
                      refine C.out.mono ?_
                      rintro e u10 ⟨rfl, gu10⟩
                      clear C
                      have szu10 : w.heap.size < u10.heap.size := Nat.lt_of_lt_of_le szu9 gu10.size
                      have k0u10 : u10.cell? ⟨w.heap.size, 0, none⟩ = some (.int .i64 f) := by rw [(bcell gu10).1 _ _ szu9]; exact k0u9
                      have k1u10 : u10.cell? ⟨w.heap.size, 1, none⟩ = some (.int .i64 t) := by rw [(bcell gu10).1 _ _ szu9]; exact k1u9
                      have Gu10 := Lib.hid (b2 Gu9.out gu10)
                      clear k0u9 k1u9 gu10
                      obtain ⟨q1, q2, q3⟩ := en_add ZH.out Zz1.out Zz4.out Zz5.out
                      rw [HVu5.out, HVu9.out, HVu10.out] at q1
                      rw [HVu10.out] at q2 q3
                      go_wp2_with fail
                      refine (example_any _).mono ?_
                      rintro e wx ⟨rfl, gx⟩
                      go_wp2_with fail
                      go_ret
                      exact ⟨rfl, b2 Gu10.out gx⟩
                    · skip
                      have C := Lib.hid (energy_any _ (addL a b) f t _ (addL_len a b) (RDu8.out.below (Hbu9.out)))
                      obtain ⟨Eu11, hEu11⟩ : ∃ x, enE (addL a b) f t = x := ⟨_, rfl⟩
                      obtain ⟨Vu11, hVu11⟩ : ∃ x, enV (addL a b) f t = x := ⟨_, rfl⟩
                      rw [hVu11, hEu11] at C
                      rw [hEu11] at z5
                      have eu11 : (Eu11 == 0) = false := by simpa using z5
                      have nu11 : (Eu11 != 0) = true := by simpa using z5
                      clear hVu11 hEu11 z5
                      refine C.out.mono ?_
                      rintro e u11 ⟨rfl, gu11⟩
                      clear C
                      have szu11 : w.heap.size < u11.heap.size := Nat.lt_of_lt_of_le szu9 gu11.size
                      have k0u11 : u11.cell? ⟨w.heap.size, 0, none⟩ = some (.int .i64 f) := by rw [(bcell gu11).1 _ _ szu9]; exact k0u9
                      have k1u11 : u11.cell? ⟨w.heap.size, 1, none⟩ = some (.int .i64 t) := by rw [(bcell gu11).1 _ _ szu9]; exact k1u9
                      have Gu11 := Lib.hid (b2 Gu9.out gu11)
                      clear k0u9 k1u9 gu11
                      go_wp2_with fail
                      refine (example_any _).mono ?_
                      rintro e wx ⟨rfl, gx⟩
                      go_wp2_with fail
                      go_ret
                      exact ⟨rfl, b2 Gu11.out gx⟩
                  · skip
                    have C := Lib.hid (energy_any _ b f t _ (by omega) (RB.out.below Gu8.out))
                    obtain ⟨Eu12, hEu12⟩ : ∃ x, enE b f t = x := ⟨_, rfl⟩
                    obtain ⟨Vu12, hVu12⟩ : ∃ x, enV b f t = x := ⟨_, rfl⟩
                    rw [hVu12, hEu12] at C
                    rw [hEu12] at z4
                    have eu12 : (Eu12 == 0) = false := by simpa using z4
                    have nu12 : (Eu12 != 0) = true := by simpa using z4
                    clear hVu12 hEu12 z4
                    refine C.out.mono ?_
                    rintro e u12 ⟨rfl, gu12⟩
                    clear C
                    have Hbu12 := Lib.hid gu12
                    have szu12 : w.heap.size < u12.heap.size := Nat.lt_of_lt_of_le szu8 gu12.size
                    have k0u12 : u12.cell? ⟨w.heap.size, 0, none⟩ = some (.int .i64 f) := by rw [(bcell gu12).1 _ _ szu8]; exact k0u8
                    have k1u12 : u12.cell? ⟨w.heap.size, 1, none⟩ = some (.int .i64 t) := by rw [(bcell gu12).1 _ _ szu8]; exact k1u8
                    have Gu12 := Lib.hid (b2 Gu8.out gu12)
                    clear k0u8 k1u8 gu12
                    go_wp2_with fail
                    by_cases z5 : enE (addL a b) f t = 0
                    · skip
                      have C := Lib.hid (energy_any _ (addL a b) f t _ (addL_len a b) (RDu8.out.below (Hbu12.out)))
                      rw [z5] at C
                      obtain ⟨Vu13, hVu13⟩ : ∃ x, enV (addL a b) f t = x := ⟨_, rfl⟩
                      rw [hVu13] at C
                      have HVu13 := Lib.hid hVu13
                      have Zz5 := Lib.hid z5
                      clear hVu13 z5
                      refine C.out.mono ?_
                      rintro e u13 ⟨rfl, gu13⟩
                      clear C
                      have szu13 : w.heap.size < u13.heap.size := Nat.lt_of_lt_of_le szu12 gu13.size
                      have k0u13 : u13.cell? ⟨w.heap.size, 0, none⟩ = some (.int .i64 f) := by rw [(bcell gu13).1 _ _ szu12]; exact k0u12
                      have k1u13 : u13.cell? ⟨w.heap.size, 1, none⟩ = some (.int .i64 t) := by rw [(bcell gu13).1 _ _ szu12]; exact k1u12
                      have Gu13 := Lib.hid (b2 Gu12.out gu13)
                      clear k0u12 k1u12 gu13
                      go_wp2_with fail
                      refine (example_any _).mono ?_
                      rintro e wx ⟨rfl, gx⟩
                      go_wp2_with fail
                      go_ret
                      exact ⟨rfl, b2 Gu13.out gx⟩
                    · skip
                      have C := Lib.hid (energy_any _ (addL a b) f t _ (addL_len a b) (RDu8.out.below (Hbu12.out)))
                      obtain ⟨Eu14, hEu14⟩ : ∃ x, enE (addL a b) f t = x := ⟨_, rfl⟩
                      obtain ⟨Vu14, hVu14⟩ : ∃ x, enV (addL a b) f t = x := ⟨_, rfl⟩
                      rw [hVu14, hEu14] at C
                      rw [hEu14] at z5
                      have eu14 : (Eu14 == 0) = false := by simpa using z5
                      have nu14 : (Eu14 != 0) = true := by simpa using z5
                      clear hVu14 hEu14 z5
                      refine C.out.mono ?_
                      rintro e u14 ⟨rfl, gu14⟩
                      clear C
                      have szu14 : w.heap.size < u14.heap.size := Nat.lt_of_lt_of_le szu12 gu14.size
                      have k0u14 : u14.cell? ⟨w.heap.size, 0, none⟩ = some (.int .i64 f) := by rw [(bcell gu14).1 _ _ szu12]; exact k0u12
                      have k1u14 : u14.cell? ⟨w.heap.size, 1, none⟩ = some (.int .i64 t) := by rw [(bcell gu14).1 _ _ szu12]; exact k1u12
                      have Gu14 := Lib.hid (b2 Gu12.out gu14)
                      clear k0u12 k1u12 gu14
                      go_wp2_with fail
                      refine (example_any _).mono ?_
                      rintro e wx ⟨rfl, gx⟩
                      go_wp2_with fail
                      go_ret
                      exact ⟨rfl, b2 Gu14.out gx⟩
                · skip
                  have C := Lib.hid (add_any _ _ a b _ (by omega) (by omega) (RA.out.below Gu7.out) (RB.out.below Gu7.out))
                  obtain ⟨EE, hEE⟩ : ∃ x, addE a b = x := ⟨_, rfl⟩
                  rw [hEE] at C zh
                  have eEE : (EE == 0) = false := by simpa using zh
                  have nEE : (EE != 0) = true := by simpa using zh
                  clear hEE zh
                  refine C.out.mono ?_
                  rintro e u15 ⟨ru15, rfl, rdu15, gu15⟩
                  clear C
                  have RDu15 := Lib.hid rdu15
                  clear rdu15
                  have szu15 : w.heap.size < u15.heap.size := Nat.lt_of_lt_of_le szu7 gu15.size
                  have k0u15 : u15.cell? ⟨w.heap.size, 0, none⟩ = some (.int .i64 f) := by rw [(bcell gu15).1 _ _ szu7]; exact k0u7
                  have k1u15 : u15.cell? ⟨w.heap.size, 1, none⟩ = some (.int .i64 t) := by rw [(bcell gu15).1 _ _ szu7]; exact k1u7
                  have Gu15 := Lib.hid (b2 Gu7.out gu15)
                  clear k0u7 k1u7 gu15
                  go_wp2_with fail
                  refine (example_any _).mono ?_
                  rintro e wx ⟨rfl, gx⟩
                  go_wp2_with fail
                  go_ret
                  exact ⟨rfl, b2 Gu15.out gx⟩
              · skip
                have C := Lib.hid (energy_any _ a m t _ (by omega) (RA.out.below Gu6.out))
                obtain ⟨Eu16, hEu16⟩ : ∃ x, enE a m t = x := ⟨_, rfl⟩
                obtain ⟨Vu16, hVu16⟩ : ∃ x, enV a m t = x := ⟨_, rfl⟩
                rw [hVu16, hEu16] at C
                rw [hEu16] at z3
                have eu16 : (Eu16 == 0) = false := by simpa using z3
                have nu16 : (Eu16 != 0) = true := by simpa using z3
                clear hVu16 hEu16 z3
                refine C.out.mono ?_
                rintro e u16 ⟨rfl, gu16⟩
                clear C
                have szu16 : w.heap.size < u16.heap.size := Nat.lt_of_lt_of_le szu6 gu16.size
                have k0u16 : u16.cell? ⟨w.heap.size, 0, none⟩ = some (.int .i64 f) := by rw [(bcell gu16).1 _ _ szu6]; exact k0u6
                have k1u16 : u16.cell? ⟨w.heap.size, 1, none⟩ = some (.int .i64 t) := by rw [(bcell gu16).1 _ _ szu6]; exact k1u6
                have Gu16 := Lib.hid (b2 Gu6.out gu16)
                clear k0u6 k1u6 gu16
                go_wp2_with fail
                by_cases zh : addE a b = 0
                · skip
                  have C := Lib.hid (add_any _ _ a b _ (by omega) (by omega) (RA.out.below Gu16.out) (RB.out.below Gu16.out))
                  rw [zh] at C
                  have ZH := Lib.hid zh
                  clear zh
                  refine C.out.mono ?_
                  rintro e u17 ⟨ru17, rfl, rdu17, gu17⟩
                  clear C
                  have RDu17 := Lib.hid rdu17
                  clear rdu17
                  have szu17 : w.heap.size < u17.heap.size := Nat.lt_of_lt_of_le szu16 gu17.size
                  have k0u17 : u17.cell? ⟨w.heap.size, 0, none⟩ = some (.int .i64 f) := by rw [(bcell gu17).1 _ _ szu16]; exact k0u16
                  have k1u17 : u17.cell? ⟨w.heap.size, 1, none⟩ = some (.int .i64 t) := by rw [(bcell gu17).1 _ _ szu16]; exact k1u16
                  have Gu17 := Lib.hid (b2 Gu16.out gu17)
                  clear k0u16 k1u16 gu17
                  go_wp2_with fail
                  by_cases z4 : enE b f t = 0
                  · skip
                    have C := Lib.hid (energy_any _ b f t _ (by omega) (RB.out.below Gu17.out))
                    rw [z4] at C
                    obtain ⟨Vu18, hVu18⟩ : ∃ x, enV b f t = x := ⟨_, rfl⟩
                    rw [hVu18] at C
                    have HVu18 := Lib.hid hVu18
                    have Zz4 := Lib.hid z4
                    clear hVu18 z4
                    refine C.out.mono ?_
                    rintro e u18 ⟨rfl, gu18⟩
                    clear C
                    have Hbu18 := Lib.hid gu18
                    have szu18 : w.heap.size < u18.heap.size := Nat.lt_of_lt_of_le szu17 gu18.size
                    have k0u18 : u18.cell? ⟨w.heap.size, 0, none⟩ = some (.int .i64 f) := by rw [(bcell gu18).1 _ _ szu17]; exact k0u17
                    have k1u18 : u18.cell? ⟨w.heap.size, 1, none⟩ = some (.int .i64 t) := by rw [(bcell gu18).1 _ _ szu17]; exact k1u17
                    have Gu18 := Lib.hid (b2 Gu17.out gu18)
                    clear k0u17 k1u17 gu18
                    go_wp2_with fail
                    by_cases z5 : enE (addL a b) f t = 0
                    · skip
                      have C := Lib.hid (energy_any _ (addL a b) f t _ (addL_len a b) (RDu17.out.below (Hbu18.out)))
                      rw [z5] at C
                      obtain ⟨Vu19, hVu19⟩ : ∃ x, enV (addL a b) f t = x := ⟨_, rfl⟩
                      rw [hVu19] at C
                      have HVu19 := Lib.hid hVu19
                      have Zz5 := Lib.hid z5
                      clear hVu19 z5
                      refine C.out.mono ?_
                      rintro e u19 ⟨rfl, gu19⟩
                      clear C
                      have szu19 : w.heap.size < u19.heap.size := Nat.lt_of_lt_of_le szu18 gu19.size
                      have k0u19 : u19.cell? ⟨w.heap.size, 0, none⟩ = some (.int .i64 f) := by rw [(bcell gu19).1 _ _ szu18]; exact k0u18
                      have k1u19 : u19.cell? ⟨w.heap.size, 1, none⟩ = some (.int .i64 t) := by rw [(bcell gu19).1 _ _ szu18]; exact k1u18
                      have Gu19 := Lib.hid (b2 Gu18.out gu19)
                      clear k0u18 k1u18 gu19
                      obtain ⟨q1, q2, q3⟩ := en_add ZH.out Zz1.out Zz4.out Zz5.out
                      rw [HVu5.out, HVu18.out, HVu19.out] at q1
                      rw [HVu19.out] at q2 q3
                      go_wp2_with fail
                      refine (example_any _).mono ?_
                      rintro e wx ⟨rfl, gx⟩
                      go_wp2_with fail
                      go_ret
                      exact ⟨rfl, b2 Gu19.out gx⟩
                    · skip
                      have C := Lib.hid (energy_any _ (addL a b) f t _ (addL_len a b) (RDu17.out.below (Hbu18.out)))
                      obtain ⟨Eu20, hEu20⟩ : ∃ x, enE (addL a b) f t = x := ⟨_, rfl⟩
                      obtain ⟨Vu20, hVu20⟩ : ∃ x, enV (addL a b) f t = x := ⟨_, rfl⟩
                      rw [hVu20, hEu20] at C
                      rw [hEu20] at z5
                      have eu20 : (Eu20 == 0) = false := by simpa using z5
                      have nu20 : (Eu20 != 0) = true := by simpa using z5
                      clear hVu20 hEu20 z5
                      refine C.out.mono ?_
                      rintro e u20 ⟨rfl, gu20⟩
                      clear C
                      have szu20 : w.heap.size < u20.heap.size := Nat.lt_of_lt_of_le szu18 gu20.size
                      have k0u20 : u20.cell? ⟨w.heap.size, 0, none⟩ = some (.int .i64 f) := by rw [(bcell gu20).1 _ _ szu18]; exact k0u18
                      have k1u20 : u20.cell? ⟨w.heap.size, 1, none⟩ = some (.int .i64 t) := by rw [(bcell gu20).1 _ _ szu18]; exact k1u18
                      have Gu20 := Lib.hid (b2 Gu18.out gu20)
                      clear k0u18 k1u18 gu20
                      go_wp2_with fail
                      refine (example_any _).mono ?_
                      rintro e wx ⟨rfl, gx⟩
                      go_wp2_with fail
                      go_ret
                      exact ⟨rfl, b2 Gu20.out gx⟩
                  · skip
                    have C := Lib.hid (energy_any _ b f t _ (by omega) (RB.out.below Gu17.out))
                    obtain ⟨Eu21, hEu21⟩ : ∃ x, enE b f t = x := ⟨_, rfl⟩
                    obtain ⟨Vu21, hVu21⟩ : ∃ x, enV b f t = x := ⟨_, rfl⟩
                    rw [hVu21, hEu21] at C
                    rw [hEu21] at z4
                    have eu21 : (Eu21 == 0) = false := by simpa using z4
                    have nu21 : (Eu21 != 0) = true := by simpa using z4
                    clear hVu21 hEu21 z4
                    refine C.out.mono ?_
                    rintro e u21 ⟨rfl, gu21⟩
                    clear C
                    have Hbu21 := Lib.hid gu21
                    have szu21 : w.heap.size < u21.heap.size := Nat.lt_of_lt_of_le szu17 gu21.size
                    have k0u21 : u21.cell? ⟨w.heap.size, 0, none⟩ = some (.int .i64 f) := by rw [(bcell gu21).1 _ _ szu17]; exact k0u17
                    have k1u21 : u21.cell? ⟨w.heap.size, 1, none⟩ = some (.int .i64 t) := by rw [(bcell gu21).1 _ _ szu17]; exact k1u17
                    have Gu21 := Lib.hid (b2 Gu17.out gu21)
                    clear k0u17 k1u17 gu21
                    go_wp2_with fail
                    by_cases z5 : enE (addL a b) f t = 0
                    · skip
                      have C := Lib.hid (energy_any _ (addL a b) f t _ (addL_len a b) (RDu17.out.below (Hbu21.out)))
                      rw [z5] at C
                      obtain ⟨Vu22, hVu22⟩ : ∃ x, enV (addL a b) f t = x := ⟨_, rfl⟩
                      rw [hVu22] at C
                      have HVu22 := Lib.hid hVu22
                      have Zz5 := Lib.hid z5
                      clear hVu22 z5
                      refine C.out.mono ?_
                      rintro e u22 ⟨rfl, gu22⟩
                      clear C
                      have szu22 : w.heap.size < u22.heap.size := Nat.lt_of_lt_of_le szu21 gu22.size
                      have k0u22 : u22.cell? ⟨w.heap.size, 0, none⟩ = some (.int .i64 f) := by rw [(bcell gu22).1 _ _ szu21]; exact k0u21
                      have k1u22 : u22.cell? ⟨w.heap.size, 1, none⟩ = some (.int .i64 t) := by rw [(bcell gu22).1 _ _ szu21]; exact k1u21
                      have Gu22 := Lib.hid (b2 Gu21.out gu22)
                      clear k0u21 k1u21 gu22
                      go_wp2_with fail
                      refine (example_any _).mono ?_
                      rintro e wx ⟨rfl, gx⟩
                      go_wp2_with fail
                      go_ret
                      exact ⟨rfl, b2 Gu22.out gx⟩
                    · skip
                      have C := Lib.hid (energy_any _ (addL a b) f t _ (addL_len a b) (RDu17.out.below (Hbu21.out)))
                      obtain ⟨Eu23, hEu23⟩ : ∃ x, enE (addL a b) f t = x := ⟨_, rfl⟩
                      obtain ⟨Vu23, hVu23⟩ : ∃ x, enV (addL a b) f t = x := ⟨_, rfl⟩
                      rw [hVu23, hEu23] at C
                      rw [hEu23] at z5
                      have eu23 : (Eu23 == 0) = false := by simpa using z5
                      have nu23 : (Eu23 != 0) = true := by simpa using z5
                      clear hVu23 hEu23 z5
                      refine C.out.mono ?_
                      rintro e u23 ⟨rfl, gu23⟩
                      clear C
                      have szu23 : w.heap.size < u23.heap.size := Nat.lt_of_lt_of_le szu21 gu23.size
                      have k0u23 : u23.cell? ⟨w.heap.size, 0, none⟩ = some (.int .i64 f) := by rw [(bcell gu23).1 _ _ szu21]; exact k0u21
                      have k1u23 : u23.cell? ⟨w.heap.size, 1, none⟩ = some (.int .i64 t) := by rw [(bcell gu23).1 _ _ szu21]; exact k1u21
                      have Gu23 := Lib.hid (b2 Gu21.out gu23)
                      clear k0u21 k1u21 gu23
                      go_wp2_with fail
                      refine (example_any _).mono ?_
                      rintro e wx ⟨rfl, gx⟩
                      go_wp2_with fail
                      go_ret
                      exact ⟨rfl, b2 Gu23.out gx⟩
                · skip
                  have C := Lib.hid (add_any _ _ a b _ (by omega) (by omega) (RA.out.below Gu16.out) (RB.out.below Gu16.out))
                  obtain ⟨EE, hEE⟩ : ∃ x, addE a b = x := ⟨_, rfl⟩
                  rw [hEE] at C zh
                  have eEE : (EE == 0) = false := by simpa using zh
                  have nEE : (EE != 0) = true := by simpa using zh
                  clear hEE zh
                  refine C.out.mono ?_
                  rintro e u24 ⟨ru24, rfl, rdu24, gu24⟩
                  clear C
                  have RDu24 := Lib.hid rdu24
                  clear rdu24
                  have szu24 : w.heap.size < u24.heap.size := Nat.lt_of_lt_of_le szu16 gu24.size
                  have k0u24 : u24.cell? ⟨w.heap.size, 0, none⟩ = some (.int .i64 f) := by rw [(bcell gu24).1 _ _ szu16]; exact k0u16
                  have k1u24 : u24.cell? ⟨w.heap.size, 1, none⟩ = some (.int .i64 t) := by rw [(bcell gu24).1 _ _ szu16]; exact k1u16
                  have Gu24 := Lib.hid (b2 Gu16.out gu24)
                  clear k0u16 k1u16 gu24
                  go_wp2_with fail
                  refine (example_any _).mono ?_
                  rintro e wx ⟨rfl, gx⟩
                  go_wp2_with fail
                  go_ret
                  exact ⟨rfl, b2 Gu24.out gx⟩
            · skip
              have C := Lib.hid (energy_any _ a f m _ (by omega) (RA.out.below Gu5.out))
              obtain ⟨Eu25, hEu25⟩ : ∃ x, enE a f m = x := ⟨_, rfl⟩
              obtain ⟨Vu25, hVu25⟩ : ∃ x, enV a f m = x := ⟨_, rfl⟩
              rw [hVu25, hEu25] at C
              rw [hEu25] at z2
              have eu25 : (Eu25 == 0) = false := by simpa using z2
              have nu25 : (Eu25 != 0) = true := by simpa using z2
              clear hVu25 hEu25 z2
              refine C.out.mono ?_
              rintro e u25 ⟨rfl, gu25⟩
              clear C
              have szu25 : w.heap.size < u25.heap.size := Nat.lt_of_lt_of_le szu5 gu25.size
              have k0u25 : u25.cell? ⟨w.heap.size, 0, none⟩ = some (.int .i64 f) := by rw [(bcell gu25).1 _ _ szu5]; exact k0u5
              have k1u25 : u25.cell? ⟨w.heap.size, 1, none⟩ = some (.int .i64 t) := by rw [(bcell gu25).1 _ _ szu5]; exact k1u5
              have Gu25 := Lib.hid (b2 Gu5.out gu25)
              clear k0u5 k1u5 gu25
              go_wp2_with fail
              refine (energy_any _ a m t _ (by omega) (RA.out.below Gu25.out)).mono ?_
              rintro e u26 ⟨rfl, gu26⟩
              obtain ⟨Vu26, hVu26⟩ : ∃ x, enV a m t = x := ⟨_, rfl⟩
              obtain ⟨Eu26, hEu26⟩ : ∃ x, enE a m t = x := ⟨_, rfl⟩
              rw [hVu26, hEu26]
              clear hVu26 hEu26
              have szu26 : w.heap.size < u26.heap.size := Nat.lt_of_lt_of_le szu25 gu26.size
              have k0u26 : u26.cell? ⟨w.heap.size, 0, none⟩ = some (.int .i64 f) := by rw [(bcell gu26).1 _ _ szu25]; exact k0u25
              have k1u26 : u26.cell? ⟨w.heap.size, 1, none⟩ = some (.int .i64 t) := by rw [(bcell gu26).1 _ _ szu25]; exact k1u25
              have Gu26 := Lib.hid (b2 Gu25.out gu26)
              clear k0u25 k1u25 gu26
              go_wp2_with fail
              by_cases zh : addE a b = 0
              · skip
                have C := Lib.hid (add_any _ _ a b _ (by omega) (by omega) (RA.out.below Gu26.out) (RB.out.below Gu26.out))
                rw [zh] at C
                have ZH := Lib.hid zh
                clear zh
                refine C.out.mono ?_
                rintro e u27 ⟨ru27, rfl, rdu27, gu27⟩
                clear C
                have RDu27 := Lib.hid rdu27
                clear rdu27
                have szu27 : w.heap.size < u27.heap.size := Nat.lt_of_lt_of_le szu26 gu27.size
                have k0u27 : u27.cell? ⟨w.heap.size, 0, none⟩ = some (.int .i64 f) := by rw [(bcell gu27).1 _ _ szu26]; exact k0u26
                have k1u27 : u27.cell? ⟨w.heap.size, 1, none⟩ = some (.int .i64 t) := by rw [(bcell gu27).1 _ _ szu26]; exact k1u26
                have Gu27 := Lib.hid (b2 Gu26.out gu27)
                clear k0u26 k1u26 gu27
                go_wp2_with fail
                by_cases z4 : enE b f t = 0
                · skip
                  have C := Lib.hid (energy_any _ b f t _ (by omega) (RB.out.below Gu27.out))
                  rw [z4] at C
                  obtain ⟨Vu28, hVu28⟩ : ∃ x, enV b f t = x := ⟨_, rfl⟩
                  rw [hVu28] at C
                  have HVu28 := Lib.hid hVu28
                  have Zz4 := Lib.hid z4
                  clear hVu28 z4
                  refine C.out.mono ?_
                  rintro e u28 ⟨rfl, gu28⟩
                  clear C
                  have Hbu28 := Lib.hid gu28
                  have szu28 : w.heap.size < u28.heap.size := Nat.lt_of_lt_of_le szu27 gu28.size
                  have k0u28 : u28.cell? ⟨w.heap.size, 0, none⟩ = some (.int .i64 f) := by rw [(bcell gu28).1 _ _ szu27]; exact k0u27
                  have k1u28 : u28.cell? ⟨w.heap.size, 1, none⟩ = some (.int .i64 t) := by rw [(bcell gu28).1 _ _ szu27]; exact k1u27
                  have Gu28 := Lib.hid (b2 Gu27.out gu28)
                  clear k0u27 k1u27 gu28
                  go_wp2_with fail
                  by_cases z5 : enE (addL a b) f t = 0
                  · skip
                    have C := Lib.hid (energy_any _ (addL a b) f t _ (addL_len a b) (RDu27.out.below (Hbu28.out)))
                    rw [z5] at C
                    obtain ⟨Vu29, hVu29⟩ : ∃ x, enV (addL a b) f t = x := ⟨_, rfl⟩
                    rw [hVu29] at C
                    have HVu29 := Lib.hid hVu29
                    have Zz5 := Lib.hid z5
                    clear hVu29 z5
                    refine C.out.mono ?_
                    rintro e u29 ⟨rfl, gu29⟩
                    clear C
                    have szu29 : w.heap.size < u29.heap.size := Nat.lt_of_lt_of_le szu28 gu29.size
                    have k0u29 : u29.cell? ⟨w.heap.size, 0, none⟩ = some (.int .i64 f) := by rw [(bcell gu29).1 _ _ szu28]; exact k0u28
                    have k1u29 : u29.cell? ⟨w.heap.size, 1, none⟩ = some (.int .i64 t) := by rw [(bcell gu29).1 _ _ szu28]; exact k1u28
                    have Gu29 := Lib.hid (b2 Gu28.out gu29)
                    clear k0u28 k1u28 gu29
                    obtain ⟨q1, q2, q3⟩ := en_add ZH.out Zz1.out Zz4.out Zz5.out
                    rw [HVu5.out, HVu28.out, HVu29.out] at q1
                    rw [HVu29.out] at q2 q3
                    go_wp2_with fail
                    refine (example_any _).mono ?_
                    rintro e wx ⟨rfl, gx⟩
                    go_wp2_with fail
                    go_ret
                    exact ⟨rfl, b2 Gu29.out gx⟩
                  · skip
                    have C := Lib.hid (energy_any _ (addL a b) f t _ (addL_len a b) (RDu27.out.below (Hbu28.out)))
                    obtain ⟨Eu30, hEu30⟩ : ∃ x, enE (addL a b) f t = x := ⟨_, rfl⟩
                    obtain ⟨Vu30, hVu30⟩ : ∃ x, enV (addL a b) f t = x := ⟨_, rfl⟩
                    rw [hVu30, hEu30] at C
                    rw [hEu30] at z5
                    have eu30 : (Eu30 == 0) = false := by simpa using z5
                    have nu30 : (Eu30 != 0) = true := by simpa using z5
                    clear hVu30 hEu30 z5
                    refine C.out.mono ?_
                    rintro e u30 ⟨rfl, gu30⟩
                    clear C
                    have szu30 : w.heap.size < u30.heap.size := Nat.lt_of_lt_of_le szu28 gu30.size
                    have k0u30 : u30.cell? ⟨w.heap.size, 0, none⟩ = some (.int .i64 f) := by rw [(bcell gu30).1 _ _ szu28]; exact k0u28
                    have k1u30 : u30.cell? ⟨w.heap.size, 1, none⟩ = some (.int .i64 t) := by rw [(bcell gu30).1 _ _ szu28]; exact k1u28
                    have Gu30 := Lib.hid (b2 Gu28.out gu30)
                    clear k0u28 k1u28 gu30
                    go_wp2_with fail
                    refine (example_any _).mono ?_
                    rintro e wx ⟨rfl, gx⟩
                    go_wp2_with fail
                    go_ret
                    exact ⟨rfl, b2 Gu30.out gx⟩
                · skip
                  have C := Lib.hid (energy_any _ b f t _ (by omega) (RB.out.below Gu27.out))
                  obtain ⟨Eu31, hEu31⟩ : ∃ x, enE b f t = x := ⟨_, rfl⟩
                  obtain ⟨Vu31, hVu31⟩ : ∃ x, enV b f t = x := ⟨_, rfl⟩
                  rw [hVu31, hEu31] at C
                  rw [hEu31] at z4
                  have eu31 : (Eu31 == 0) = false := by simpa using z4
                  have nu31 : (Eu31 != 0) = true := by simpa using z4
                  clear hVu31 hEu31 z4
                  refine C.out.mono ?_
                  rintro e u31 ⟨rfl, gu31⟩
                  clear C
                  have Hbu31 := Lib.hid gu31
                  have szu31 : w.heap.size < u31.heap.size := Nat.lt_of_lt_of_le szu27 gu31.size
                  have k0u31 : u31.cell? ⟨w.heap.size, 0, none⟩ = some (.int .i64 f) := by rw [(bcell gu31).1 _ _ szu27]; exact k0u27
                  have k1u31 : u31.cell? ⟨w.heap.size, 1, none⟩ = some (.int .i64 t) := by rw [(bcell gu31).1 _ _ szu27]; exact k1u27
                  have Gu31 := Lib.hid (b2 Gu27.out gu31)
                  clear k0u27 k1u27 gu31
                  go_wp2_with fail
                  by_cases z5 : enE (addL a b) f t = 0
                  · skip
                    have C := Lib.hid (energy_any _ (addL a b) f t _ (addL_len a b) (RDu27.out.below (Hbu31.out)))
                    rw [z5] at C
                    obtain ⟨Vu32, hVu32⟩ : ∃ x, enV (addL a b) f t = x := ⟨_, rfl⟩
                    rw [hVu32] at C
                    have HVu32 := Lib.hid hVu32
                    have Zz5 := Lib.hid z5
                    clear hVu32 z5
                    refine C.out.mono ?_
                    rintro e u32 ⟨rfl, gu32⟩
                    clear C
                    have szu32 : w.heap.size < u32.heap.size := Nat.lt_of_lt_of_le szu31 gu32.size
                    have k0u32 : u32.cell? ⟨w.heap.size, 0, none⟩ = some (.int .i64 f) := by rw [(bcell gu32).1 _ _ szu31]; exact k0u31
                    have k1u32 : u32.cell? ⟨w.heap.size, 1, none⟩ = some (.int .i64 t) := by rw [(bcell gu32).1 _ _ szu31]; exact k1u31
                    have Gu32 := Lib.hid (b2 Gu31.out gu32)
                    clear k0u31 k1u31 gu32
                    go_wp2_with fail
                    refine (example_any _).mono ?_
                    rintro e wx ⟨rfl, gx⟩
                    go_wp2_with fail
                    go_ret
                    exact ⟨rfl, b2 Gu32.out gx⟩
                  · skip
                    have C := Lib.hid (energy_any _ (addL a b) f t _ (addL_len a b) (RDu27.out.below (Hbu31.out)))
                    obtain ⟨Eu33, hEu33⟩ : ∃ x, enE (addL a b) f t = x := ⟨_, rfl⟩
                    obtain ⟨Vu33, hVu33⟩ : ∃ x, enV (addL a b) f t = x := ⟨_, rfl⟩
                    rw [hVu33, hEu33] at C
                    rw [hEu33] at z5
                    have eu33 : (Eu33 == 0) = false := by simpa using z5
                    have nu33 : (Eu33 != 0) = true := by simpa using z5
                    clear hVu33 hEu33 z5
                    refine C.out.mono ?_
                    rintro e u33 ⟨rfl, gu33⟩
                    clear C
                    have szu33 : w.heap.size < u33.heap.size := Nat.lt_of_lt_of_le szu31 gu33.size
                    have k0u33 : u33.cell? ⟨w.heap.size, 0, none⟩ = some (.int .i64 f) := by rw [(bcell gu33).1 _ _ szu31]; exact k0u31
                    have k1u33 : u33.cell? ⟨w.heap.size, 1, none⟩ = some (.int .i64 t) := by rw [(bcell gu33).1 _ _ szu31]; exact k1u31
                    have Gu33 := Lib.hid (b2 Gu31.out gu33)
                    clear k0u31 k1u31 gu33
                    go_wp2_with fail
                    refine (example_any _).mono ?_
                    rintro e wx ⟨rfl, gx⟩
                    go_wp2_with fail
                    go_ret
                    exact ⟨rfl, b2 Gu33.out gx⟩
              · skip
                have C := Lib.hid (add_any _ _ a b _ (by omega) (by omega) (RA.out.below Gu26.out) (RB.out.below Gu26.out))
                obtain ⟨EE, hEE⟩ : ∃ x, addE a b = x := ⟨_, rfl⟩
                rw [hEE] at C zh
                have eEE : (EE == 0) = false := by simpa using zh
                have nEE : (EE != 0) = true := by simpa using zh
                clear hEE zh
                refine C.out.mono ?_
                rintro e u34 ⟨ru34, rfl, rdu34, gu34⟩
                clear C
                have RDu34 := Lib.hid rdu34
                clear rdu34
                have szu34 : w.heap.size < u34.heap.size := Nat.lt_of_lt_of_le szu26 gu34.size
                have k0u34 : u34.cell? ⟨w.heap.size, 0, none⟩ = some (.int .i64 f) := by rw [(bcell gu34).1 _ _ szu26]; exact k0u26
                have k1u34 : u34.cell? ⟨w.heap.size, 1, none⟩ = some (.int .i64 t) := by rw [(bcell gu34).1 _ _ szu26]; exact k1u26
                have Gu34 := Lib.hid (b2 Gu26.out gu34)
                clear k0u26 k1u26 gu34
                go_wp2_with fail
                refine (example_any _).mono ?_
                rintro e wx ⟨rfl, gx⟩
                go_wp2_with fail
                go_ret
                exact ⟨rfl, b2 Gu34.out gx⟩
          · skip
            have C := Lib.hid (energy_any _ a f t _ (by omega) (RA.out.below G0.out))
            obtain ⟨Eu35, hEu35⟩ : ∃ x, enE a f t = x := ⟨_, rfl⟩
            obtain ⟨Vu35, hVu35⟩ : ∃ x, enV a f t = x := ⟨_, rfl⟩
            rw [hVu35, hEu35] at C
            rw [hEu35] at z1
            have eu35 : (Eu35 == 0) = false := by simpa using z1
            have nu35 : (Eu35 != 0) = true := by simpa using z1
            clear hVu35 hEu35 z1
            refine C.out.mono ?_
            rintro e u35 ⟨rfl, gu35⟩
            clear C
            have szu35 : w.heap.size < u35.heap.size := Nat.lt_of_lt_of_le sz0 gu35.size
            have k0u35 : u35.cell? ⟨w.heap.size, 0, none⟩ = some (.int .i64 f) := by rw [(bcell gu35).1 _ _ sz0]; exact k00
            have k1u35 : u35.cell? ⟨w.heap.size, 1, none⟩ = some (.int .i64 t) := by rw [(bcell gu35).1 _ _ sz0]; exact k10
            have Gu35 := Lib.hid (b2 G0.out gu35)
            clear k00 k10 gu35
            go_wp2_with fail
            refine (energy_any _ a f m _ (by omega) (RA.out.below Gu35.out)).mono ?_
            rintro e u36 ⟨rfl, gu36⟩
            obtain ⟨Vu36, hVu36⟩ : ∃ x, enV a f m = x := ⟨_, rfl⟩
            obtain ⟨Eu36, hEu36⟩ : ∃ x, enE a f m = x := ⟨_, rfl⟩
            rw [hVu36, hEu36]
            clear hVu36 hEu36
            have szu36 : w.heap.size < u36.heap.size := Nat.lt_of_lt_of_le szu35 gu36.size
            have k0u36 : u36.cell? ⟨w.heap.size, 0, none⟩ = some (.int .i64 f) := by rw [(bcell gu36).1 _ _ szu35]; exact k0u35
            have k1u36 : u36.cell? ⟨w.heap.size, 1, none⟩ = some (.int .i64 t) := by rw [(bcell gu36).1 _ _ szu35]; exact k1u35
            have Gu36 := Lib.hid (b2 Gu35.out gu36)
            clear k0u35 k1u35 gu36
            go_wp2_with fail
            refine (energy_any _ a m t _ (by omega) (RA.out.below Gu36.out)).mono ?_
            rintro e u37 ⟨rfl, gu37⟩
            obtain ⟨Vu37, hVu37⟩ : ∃ x, enV a m t = x := ⟨_, rfl⟩
            obtain ⟨Eu37, hEu37⟩ : ∃ x, enE a m t = x := ⟨_, rfl⟩
            rw [hVu37, hEu37]
            clear hVu37 hEu37
            have szu37 : w.heap.size < u37.heap.size := Nat.lt_of_lt_of_le szu36 gu37.size
            have k0u37 : u37.cell? ⟨w.heap.size, 0, none⟩ = some (.int .i64 f) := by rw [(bcell gu37).1 _ _ szu36]; exact k0u36
            have k1u37 : u37.cell? ⟨w.heap.size, 1, none⟩ = some (.int .i64 t) := by rw [(bcell gu37).1 _ _ szu36]; exact k1u36
            have Gu37 := Lib.hid (b2 Gu36.out gu37)
            clear k0u36 k1u36 gu37
            go_wp2_with fail
            by_cases zh : addE a b = 0
            · skip
              have C := Lib.hid (add_any _ _ a b _ (by omega) (by omega) (RA.out.below Gu37.out) (RB.out.below Gu37.out))
              rw [zh] at C
              have ZH := Lib.hid zh
              clear zh
              refine C.out.mono ?_
              rintro e u38 ⟨ru38, rfl, rdu38, gu38⟩
              clear C
              have RDu38 := Lib.hid rdu38
              clear rdu38
              have szu38 : w.heap.size < u38.heap.size := Nat.lt_of_lt_of_le szu37 gu38.size
              have k0u38 : u38.cell? ⟨w.heap.size, 0, none⟩ = some (.int .i64 f) := by rw [(bcell gu38).1 _ _ szu37]; exact k0u37
              have k1u38 : u38.cell? ⟨w.heap.size, 1, none⟩ = some (.int .i64 t) := by rw [(bcell gu38).1 _ _ szu37]; exact k1u37
              have Gu38 := Lib.hid (b2 Gu37.out gu38)
              clear k0u37 k1u37 gu38
              go_wp2_with fail
              refine (example_any _).mono ?_
              rintro e wx ⟨rfl, gx⟩
              go_wp2_with fail
              go_ret
              exact ⟨rfl, b2 Gu38.out gx⟩
            · skip
              have C := Lib.hid (add_any _ _ a b _ (by omega) (by omega) (RA.out.below Gu37.out) (RB.out.below Gu37.out))
              obtain ⟨EE, hEE⟩ : ∃ x, addE a b = x := ⟨_, rfl⟩
              rw [hEE] at C zh
              have eEE : (EE == 0) = false := by simpa using zh
              have nEE : (EE != 0) = true := by simpa using zh
              clear hEE zh
              refine C.out.mono ?_
              rintro e u39 ⟨ru39, rfl, rdu39, gu39⟩
              clear C
              have RDu39 := Lib.hid rdu39
              clear rdu39
              have szu39 : w.heap.size < u39.heap.size := Nat.lt_of_lt_of_le szu37 gu39.size
              have k0u39 : u39.cell? ⟨w.heap.size, 0, none⟩ = some (.int .i64 f) := by rw [(bcell gu39).1 _ _ szu37]; exact k0u37
              have k1u39 : u39.cell? ⟨w.heap.size, 1, none⟩ = some (.int .i64 t) := by rw [(bcell gu39).1 _ _ szu37]; exact k1u37
              have Gu39 := Lib.hid (b2 Gu37.out gu39)
              clear k0u37 k1u37 gu39
              go_wp2_with fail
              refine (example_any _).mono ?_
              rintro e wx ⟨rfl, gx⟩
              go_wp2_with fail
              go_ret
              exact ⟨rfl, b2 Gu39.out gx⟩
        · have hb : t < m := by omega
          clear q4
          obtain ⟨pa, ca, rfl, _, _, _⟩ := Ra
          obtain ⟨pb, cb, rfl, _, _, _⟩ := Rb
          go_enter Try.func10, Try.ntmps10
          go_wp2_with fail
          refine (example_any _).mono ?_
          rintro e wx ⟨rfl, gx⟩
          go_wp2_with fail
          go_ret
          exact ⟨rfl, b2 HB.out gx⟩
      · have hb : m < f := by omega
        clear q3
        obtain ⟨pa, ca, rfl, _, _, _⟩ := Ra
        obtain ⟨pb, cb, rfl, _, _, _⟩ := Rb
        go_enter Try.func10, Try.ntmps10
        go_wp2_with fail
        refine (example_any _).mono ?_
        rintro e wx ⟨rfl, gx⟩
        go_wp2_with fail
        go_ret
        exact ⟨rfl, b2 HB.out gx⟩
    · have hb : 600 < b.length := by omega
      clear q2
      obtain ⟨pa, ca, rfl, _, _, _⟩ := Ra
      obtain ⟨pb, cb, rfl, _, _, _⟩ := Rb
      go_enter Try.func10, Try.ntmps10
      go_wp2_with fail
      refine (example_any _).mono ?_
      rintro e wx ⟨rfl, gx⟩
      go_wp2_with fail
      go_ret
      exact ⟨rfl, b2 HB.out gx⟩
  · have hb : 600 < a.length := by omega
    clear q1
    obtain ⟨pa, ca, rfl, _, _, _⟩ := Ra
    obtain ⟨pb, cb, rfl, _, _, _⟩ := Rb
    go_enter Try.func10, Try.ntmps10
    go_wp2_with fail
    refine (example_any _).mono ?_
    rintro e wx ⟨rfl, gx⟩
    go_wp2_with fail
    go_ret
    exact ⟨rfl, b2 HB.out gx⟩


set_option maxRecDepth 100000 in
theorem lifted (os : Os) (started : os.Started) (H : Type) (enc : TypeId × Value → H) :
    ReturnsInHanded {} Try.checked os 10 .any (Rows.seriesSplitsSpec.pre6 enc Try.prog Try.f10 Rows.seriesSplitsRow.domain false) (Rows.seriesSplitsSpec.post enc Try.prog Try.f10 false true false false) := by
  refine returnsInHanded_of_change (C := Try.checked) own started (by kernel_rfl) Try.func10
    (ChangeSpec.witness6 (enc := enc) (C := Try.checked) false ⟨#[], #[.slice none 0 0, .slice none 0 0, .agg #[.int .i64 0, .int .i64 0], .int .i64 0], []⟩ 8 (by kernel_rfl) (by kernel_rfl) (by kernel_rfl) (by kernel_rfl)) ?_
  intro W base args ds gs before hval0 hW hcnd _
  have hval : ∀ (j : Nat) t v, Try.f10.params[j]? = some t → args[j]? = some v → Value.okWide Try.prog W .any base t v := hval0
  have hW' := hW
  obtain ⟨p, q, hA0, hV, rfl, hfz, hnd⟩ := hW
  have hA : DataW.TrodAll enc Try.prog W 0 (fun _ => true) true Try.f10.params.toList args.toList ds p := hA0
  rw [Try.params10] at hA hval
  obtain ⟨v0, vs0, d0, ds0, p0, q0, hargs, rfl, rfl, h0, r0⟩ := trodAll_cons hA
  obtain ⟨v1, vs1, d1, ds1, p1, q1, rfl, rfl, rfl, h1, r1⟩ := trodAll_cons r0
  obtain ⟨v2, vs2, d2, ds2, p2, q2, rfl, rfl, rfl, h2, r2⟩ := trodAll_cons r1
  obtain ⟨v3, vs3, d3, ds3, p3, q3, rfl, rfl, rfl, h3, r3⟩ := trodAll_cons r2
  obtain ⟨rfl, rfl, rfl⟩ := trodAll_nil r3
  obtain rfl : args = #[v0, v1, v2, v3] := by cases args; simp_all
  obtain ⟨rfl, rfl⟩ := trodVars_none hV
  have k0' := h0
  have lt0 : ∀ x ∈ p0, x.block < W.heap.size := by obtain ⟨m, hm⟩ := k0'; exact DataW.trod_lt m _ _ _ hm
  have k1' := h1
  have lt1 : ∀ x ∈ p1, x.block < W.heap.size := by obtain ⟨m, hm⟩ := k1'; exact DataW.trod_lt m _ _ _ hm
  have k2' := h2
  have lt2 : ∀ x ∈ p2, x.block < W.heap.size := by obtain ⟨m, hm⟩ := k2'; exact DataW.trod_lt m _ _ _ hm
  have k3' := h3
  have lt3 : ∀ x ∈ p3, x.block < W.heap.size := by obtain ⟨m, hm⟩ := k3'; exact DataW.trod_lt m _ _ _ hm
  obtain ⟨a0, R0⟩ := steps_form (hval 0 22 v0 rfl rfl) h0
  obtain ⟨a1, R1⟩ := steps_form (hval 1 22 v1 rfl rfl) h1
  obtain ⟨f2, t2, rfl⟩ := span_form (hval 2 35 v2 rfl rfl) h2
  obtain ⟨n3, rfl, rfl, rfl, w3⟩ := open_int Try.underlying3 (hval 3 3 v3 rfl rfl) h3
  clear hA0 hval0
  simp only [List.append_nil] at hW'
  refine (walk v0 a0 v1 a1 f2 t2 n3 W R0 R1).mono fun e W' ⟨he, bel⟩ => ?_
  subst he
  exact ⟨_, rfl, _, _, _, [], _, [], hW', trodAll_mk1 (shut_bool Try.underlying4 _), (trodAll_cons_mk (Below.trod laidOut (by kernel_rfl) (of_decide_eq_true (by kernel_rfl)) k0' bel lt0) (trodAll_cons_mk (Below.trod laidOut (by kernel_rfl) (of_decide_eq_true (by kernel_rfl)) k1' bel lt1) (trodAll_cons_mk (Below.trod laidOut (by kernel_rfl) (of_decide_eq_true (by kernel_rfl)) k2' bel lt2) (trodAll_cons_mk (Below.trod laidOut (by kernel_rfl) (of_decide_eq_true (by kernel_rfl)) k3' bel lt3) trodAll_mk0)))), rfl, bel.frame _, fun h => by cases h⟩

theorem over : Rows.seriesSplitsRow.holds Try.pinned (OpenSpec.ofChange Rows.seriesSplitsSpec) :=
  OpenClaim.holds_of_wide 10 Try.f10 rfl rfl rfl rfl rfl rfl rfl ⟨rfl, rfl, rfl, rfl, rfl⟩ rfl rfl rfl rfl rfl (by kernel_rfl) Try.func10 (by kernel_rfl)
    (of_decide_eq_true (by kernel_rfl)) (by unfold Func.isWrapper; first | (rw [if_pos (by decide +kernel)]; kernel_rfl) | (rw [if_neg (by decide +kernel)]; exact ⟨rfl, rfl⟩))
    (fun os started H enc _ => lifted os started H enc)
end seriesSplits

theorem seriesSplits_holds : Rows.SeriesSplitsSaid := seriesSplits.over
#print axioms seriesSplits_holds
end Go.Proofs.Ytapfinnbfnhdbab
