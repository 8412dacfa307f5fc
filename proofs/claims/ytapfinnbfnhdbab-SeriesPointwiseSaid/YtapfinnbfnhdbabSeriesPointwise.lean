/-
  The law SeriesPointwise holds: for every input it returns true and leaves its arguments as they were. 
-/
import Derived.Test.YtapfinnbfnhdbabRows
import Derived.Test.YtapfinnbfnhdbabSerPW
import Derived.Deep.DeepCutAuto
import Derived.WalkKit
namespace Go.Proofs.Ytapfinnbfnhdbab
namespace seriesPointwise
open Go.ChangeShapes Go.WideShapes Go.ChangeAt Go.RowKit
open Ser
set_option linter.unusedVariables false

set_option maxHeartbeats 400000000 in
set_option maxRecDepth 1000000 in
theorem walk (v0 : Value) (a : List St) (v1 : Value) (b : List St) (f t m tt : Int) (w : World) (Ra : Rd w v0 a) (Rb : Rd w v1 b) :
    Calls Try.prog 9 #[v0, v1, .agg #[.int .i64 f, .int .i64 t], .int .i64 m, .int .i64 tt] w fun e w' => e = .returned (.bool true) ∧ Below w.heap.size w w' := by
  have HB := Lib.hid (b_new w (.cells #[.int .i64 f, .int .i64 t] 35))
  by_cases q1 : a.length ≤ 600
  · skip
    by_cases q2 : b.length ≤ 600
    · skip
      have RA := Lib.hid Ra
      have RB := Lib.hid Rb
      obtain ⟨pa, ca, rfl, _, _, _⟩ := Ra
      obtain ⟨pb, cb, rfl, _, _, _⟩ := Rb
      have sz0 : w.heap.size < (w.alloc (.cells #[.int .i64 f, .int .i64 t] 35)).heap.size := by simp
      have k00 : (w.alloc (.cells #[.int .i64 f, .int .i64 t] 35)).cell? ⟨w.heap.size, 0, none⟩ = some (.int .i64 f) := by simp
      have k10 : (w.alloc (.cells #[.int .i64 f, .int .i64 t] 35)).cell? ⟨w.heap.size, 1, none⟩ = some (.int .i64 t) := by simp
      have G0 := Lib.hid (b_new w (.cells #[.int .i64 f, .int .i64 t] 35))
      by_cases za : validE a = 0
      · skip
        by_cases zb : validE b = 0
        · skip
          have OA := Lib.hid ((ok_iff a).1 za)
          have OB := Lib.hid ((ok_iff b).1 zb)
          go_enter Try.func9, Try.ntmps9
          go_wp2_with fail
          have C := Lib.hid (valid_any _ a _ (by omega) (RA.out.below G0.out))
          rw [za] at C
          refine C.out.mono ?_
          rintro e ww3 ⟨rfl, gww3⟩
          clear C
          have szww3 : w.heap.size < ww3.heap.size := Nat.lt_of_lt_of_le sz0 gww3.size
          have k0ww3 : ww3.cell? ⟨w.heap.size, 0, none⟩ = some (.int .i64 f) := by rw [(bcell gww3).1 _ _ sz0]; exact k00
          have k1ww3 : ww3.cell? ⟨w.heap.size, 1, none⟩ = some (.int .i64 t) := by rw [(bcell gww3).1 _ _ sz0]; exact k10
          have Gww3 := Lib.hid (b2 G0.out gww3)
          clear k00 k10 gww3
          go_wp2_with fail
          have C := Lib.hid (valid_any _ b _ (by omega) (RB.out.below Gww3.out))
          rw [zb] at C
          refine C.out.mono ?_
          rintro e ww4 ⟨rfl, gww4⟩
          clear C
          have szww4 : w.heap.size < ww4.heap.size := Nat.lt_of_lt_of_le szww3 gww4.size
          have k0ww4 : ww4.cell? ⟨w.heap.size, 0, none⟩ = some (.int .i64 f) := by rw [(bcell gww4).1 _ _ szww3]; exact k0ww3
          have k1ww4 : ww4.cell? ⟨w.heap.size, 1, none⟩ = some (.int .i64 t) := by rw [(bcell gww4).1 _ _ szww3]; exact k1ww3
          have Gww4 := Lib.hid (b2 Gww3.out gww4)
          clear k0ww3 k1ww3 gww4
          go_wp2_with fail
          obtain ⟨x, hx⟩ : ∃ x, atL a tt = x := ⟨_, rfl⟩
          obtain ⟨y, hy⟩ : ∃ x, atL b tt = x := ⟨_, rfl⟩
          have bx := atL_bd a tt OA.out.all
          have by_ := atL_bd b tt OB.out.all
          rw [hx] at bx
          rw [hy] at by_
          obtain ⟨bx1, bx2⟩ := bx
          obtain ⟨by1, by2⟩ := by_
          have HX := Lib.hid hx
          have HY := Lib.hid hy
          clear hx hy
          refine (at_any _ a tt _ (by omega) (RA.out.below Gww4.out)).mono ?_
          rintro e ww5 ⟨x3, rfl, hx3, gww5⟩
          obtain rfl := ((hx3 OA.out.asc).trans HX.out).symm
          clear hx3
          have szww5 : w.heap.size < ww5.heap.size := Nat.lt_of_lt_of_le szww4 gww5.size
          have k0ww5 : ww5.cell? ⟨w.heap.size, 0, none⟩ = some (.int .i64 f) := by rw [(bcell gww5).1 _ _ szww4]; exact k0ww4
          have k1ww5 : ww5.cell? ⟨w.heap.size, 1, none⟩ = some (.int .i64 t) := by rw [(bcell gww5).1 _ _ szww4]; exact k1ww4
          have Gww5 := Lib.hid (b2 Gww4.out gww5)
          clear k0ww4 k1ww4 gww5
          go_wp2_with fail
          refine (at_any _ b tt _ (by omega) (RB.out.below Gww5.out)).mono ?_
          rintro e ww6 ⟨x4, rfl, hx4, gww6⟩
          obtain rfl := ((hx4 OB.out.asc).trans HY.out).symm
          clear hx4
          have szww6 : w.heap.size < ww6.heap.size := Nat.lt_of_lt_of_le szww5 gww6.size
          have k0ww6 : ww6.cell? ⟨w.heap.size, 0, none⟩ = some (.int .i64 f) := by rw [(bcell gww6).1 _ _ szww5]; exact k0ww5
          have k1ww6 : ww6.cell? ⟨w.heap.size, 1, none⟩ = some (.int .i64 t) := by rw [(bcell gww6).1 _ _ szww5]; exact k1ww5
          have Gww6 := Lib.hid (b2 Gww5.out gww6)
          clear k0ww5 k1ww5 gww6
          go_upto_region 4 with fail
          go_cut [13, 14] (fun sl se wx => se = .int .i64 (addE a b) ∧ Hid (Rd wx sl (addL a b)) ∧ Hid (Below w.heap.size w wx) ∧ w.heap.size < wx.heap.size ∧ wx.cell? ⟨w.heap.size, 0, none⟩ = some (.int .i64 f) ∧ wx.cell? ⟨w.heap.size, 1, none⟩ = some (.int .i64 t))
          case first =>
            go_wp2_with fail
            refine (add_any _ _ a b _ (by omega) (by omega) (RA.out.below Gww6.out) (RB.out.below Gww6.out)).mono ?_
            rintro e ww7 ⟨rww7, rfl, rdww7, gww7⟩
            have RDww7 := Lib.hid rdww7
            clear rdww7
            have szww7 : w.heap.size < ww7.heap.size := Nat.lt_of_lt_of_le szww6 gww7.size
            have k0ww7 : ww7.cell? ⟨w.heap.size, 0, none⟩ = some (.int .i64 f) := by rw [(bcell gww7).1 _ _ szww6]; exact k0ww6
            have k1ww7 : ww7.cell? ⟨w.heap.size, 1, none⟩ = some (.int .i64 t) := by rw [(bcell gww7).1 _ _ szww6]; exact k1ww6
            have Gww7 := Lib.hid (b2 Gww6.out gww7)
            clear k0ww6 k1ww6 gww7
            go_wp2_with fail
            go_meet
            exact ⟨rfl, RDww7, Gww7, szww7, k0ww7, k1ww7⟩
          clear Gww6 szww6 k0ww6 k1ww6
          obtain ⟨ww8, hcw⟩ : ∃ c, c = wc := ⟨_, rfl⟩
          rw [← hcw] at hcut ⊢
          clear hcw
          obtain ⟨rfl, RD, Gww8, szww8, k0ww8, k1ww8⟩ := hcut
          have RDww8 := RD
          clear RD
          obtain ⟨Eww8, hEww8⟩ : ∃ x, addE a b = x := ⟨_, rfl⟩
          rw [hEww8]
          have Zww8 := Lib.hid hEww8
          clear hEww8
          go_upto_region 5 with fail
          go_cut [67] (fun sb wx => sb = .bool false ∧ Hid (Below w.heap.size w wx) ∧ w.heap.size < wx.heap.size ∧ wx.cell? ⟨w.heap.size, 0, none⟩ = some (.int .i64 f) ∧ wx.cell? ⟨w.heap.size, 1, none⟩ = some (.int .i64 t))
          case first =>
            by_cases ze : Eww8 = 0
            · subst ze
              have AG := Lib.hid (add_pw Zww8.out)
              have HC := Lib.hid (show atL a tt + atL b tt = x + y by rw [HX.out, HY.out])
              go_wp2_with fail
              have C := Lib.hid (normalL_any _ (addL a b) _ (addL_len a b) (RDww8.out))
              rw [AG.out.norm] at C
              refine C.out.mono ?_
              rintro e ww9 ⟨rfl, gww9⟩
              clear C
              have Kww9 := Lib.hid (RDww8.out.below gww9)
              have szww9 : w.heap.size < ww9.heap.size := Nat.lt_of_lt_of_le szww8 gww9.size
              have k0ww9 : ww9.cell? ⟨w.heap.size, 0, none⟩ = some (.int .i64 f) := by rw [(bcell gww9).1 _ _ szww8]; exact k0ww8
              have k1ww9 : ww9.cell? ⟨w.heap.size, 1, none⟩ = some (.int .i64 t) := by rw [(bcell gww9).1 _ _ szww8]; exact k1ww8
              have Gww9 := Lib.hid (b2 Gww8.out gww9)
              clear k0ww8 k1ww8 gww9
              go_wp2_with fail
              refine (at_any _ (addL a b) tt _ (addL_len a b) (Kww9.out)).mono ?_
              rintro e ww10 ⟨xww10, rfl, hxww10, gww10⟩
              have eww10 := (((hxww10 AG.out.asc).trans (AG.out.at_ tt)).trans HC.out).symm
              subst eww10
              clear hxww10
              have szww10 : w.heap.size < ww10.heap.size := Nat.lt_of_lt_of_le szww9 gww10.size
              have k0ww10 : ww10.cell? ⟨w.heap.size, 0, none⟩ = some (.int .i64 f) := by rw [(bcell gww10).1 _ _ szww9]; exact k0ww9
              have k1ww10 : ww10.cell? ⟨w.heap.size, 1, none⟩ = some (.int .i64 t) := by rw [(bcell gww10).1 _ _ szww9]; exact k1ww9
              have Gww10 := Lib.hid (b2 Gww9.out gww10)
              clear k0ww9 k1ww9 gww10
              go_wp2_with fail
              go_meet
              exact ⟨rfl, Gww10, szww10, k0ww10, k1ww10⟩
            · skip
              have eEww8 : (Eww8 == 0) = false := by simpa using ze
              have nEww8 : (Eww8 != 0) = true := by simpa using ze
              clear ze
              go_wp2_with fail
              go_meet
              exact ⟨rfl, Gww8, szww8, k0ww8, k1ww8⟩
          clear Gww8 szww8 k0ww8 k1ww8
          obtain ⟨ww11, hcw⟩ : ∃ c, c = wc := ⟨_, rfl⟩
          rw [← hcw] at hcut ⊢
          clear hcw
          obtain ⟨rfl, Gww11, szww11, k0ww11, k1ww11⟩ := hcut
          go_upto_region 7 with fail
          go_cut [15, 16] (fun sl se wx => se = .int .i64 (leastE a b) ∧ Hid (Rd wx sl (leastL a b)) ∧ Hid (Below w.heap.size w wx) ∧ w.heap.size < wx.heap.size ∧ wx.cell? ⟨w.heap.size, 0, none⟩ = some (.int .i64 f) ∧ wx.cell? ⟨w.heap.size, 1, none⟩ = some (.int .i64 t))
          case first =>
            go_wp2_with fail
            refine (least_any _ _ a b _ (by omega) (by omega) (RA.out.below Gww11.out) (RB.out.below Gww11.out)).mono ?_
            rintro e ww12 ⟨rww12, rfl, rdww12, gww12⟩
            have RDww12 := Lib.hid rdww12
            clear rdww12
            have szww12 : w.heap.size < ww12.heap.size := Nat.lt_of_lt_of_le szww11 gww12.size
            have k0ww12 : ww12.cell? ⟨w.heap.size, 0, none⟩ = some (.int .i64 f) := by rw [(bcell gww12).1 _ _ szww11]; exact k0ww11
            have k1ww12 : ww12.cell? ⟨w.heap.size, 1, none⟩ = some (.int .i64 t) := by rw [(bcell gww12).1 _ _ szww11]; exact k1ww11
            have Gww12 := Lib.hid (b2 Gww11.out gww12)
            clear k0ww11 k1ww11 gww12
            go_wp2_with fail
            go_meet
            exact ⟨rfl, RDww12, Gww12, szww12, k0ww12, k1ww12⟩
          clear Gww11 szww11 k0ww11 k1ww11
          obtain ⟨ww13, hcw⟩ : ∃ c, c = wc := ⟨_, rfl⟩
          rw [← hcw] at hcut ⊢
          clear hcw
          obtain ⟨rfl, RD, Gww13, szww13, k0ww13, k1ww13⟩ := hcut
          have RDww13 := RD
          clear RD
          obtain ⟨Eww13, hEww13⟩ : ∃ x, leastE a b = x := ⟨_, rfl⟩
          rw [hEww13]
          have Zww13 := Lib.hid hEww13
          clear hEww13
          go_upto_region 8 with fail
          go_cut [89] (fun sb wx => sb = .bool false ∧ Hid (Below w.heap.size w wx) ∧ w.heap.size < wx.heap.size ∧ wx.cell? ⟨w.heap.size, 0, none⟩ = some (.int .i64 f) ∧ wx.cell? ⟨w.heap.size, 1, none⟩ = some (.int .i64 t))
          case first =>
            by_cases ze : Eww13 = 0
            · subst ze
              have LG := Lib.hid (least_pw Zww13.out)
              by_cases xy : x ≤ y
              · skip
                have HC := Lib.hid (show cf false (atL a tt) (atL b tt) = x by rw [HX.out, HY.out]; exact cf_le _ _ xy)
                go_wp2_with fail
                have C := Lib.hid (normalL_any _ (leastL a b) _ (leastL_len a b) (RDww13.out))
                rw [LG.out.norm] at C
                refine C.out.mono ?_
                rintro e ww14 ⟨rfl, gww14⟩
                clear C
                have Kww14 := Lib.hid (RDww13.out.below gww14)
                have szww14 : w.heap.size < ww14.heap.size := Nat.lt_of_lt_of_le szww13 gww14.size
                have k0ww14 : ww14.cell? ⟨w.heap.size, 0, none⟩ = some (.int .i64 f) := by rw [(bcell gww14).1 _ _ szww13]; exact k0ww13
                have k1ww14 : ww14.cell? ⟨w.heap.size, 1, none⟩ = some (.int .i64 t) := by rw [(bcell gww14).1 _ _ szww13]; exact k1ww13
                have Gww14 := Lib.hid (b2 Gww13.out gww14)
                clear k0ww13 k1ww13 gww14
                go_wp2_with fail
                refine (at_any _ (leastL a b) tt _ (leastL_len a b) (Kww14.out)).mono ?_
                rintro e ww15 ⟨xww15, rfl, hxww15, gww15⟩
                have eww15 := (((hxww15 LG.out.asc).trans (LG.out.at_ tt)).trans HC.out).symm
                subst eww15
                clear hxww15
                have szww15 : w.heap.size < ww15.heap.size := Nat.lt_of_lt_of_le szww14 gww15.size
                have k0ww15 : ww15.cell? ⟨w.heap.size, 0, none⟩ = some (.int .i64 f) := by rw [(bcell gww15).1 _ _ szww14]; exact k0ww14
                have k1ww15 : ww15.cell? ⟨w.heap.size, 1, none⟩ = some (.int .i64 t) := by rw [(bcell gww15).1 _ _ szww14]; exact k1ww14
                have Gww15 := Lib.hid (b2 Gww14.out gww15)
                clear k0ww14 k1ww14 gww15
                go_wp2_with fail
                go_meet
                exact ⟨rfl, Gww15, szww15, k0ww15, k1ww15⟩
              · skip
                have HC := Lib.hid (show cf false (atL a tt) (atL b tt) = y by rw [HX.out, HY.out]; exact cf_gt _ _ xy)
                go_wp2_with fail
                have C := Lib.hid (normalL_any _ (leastL a b) _ (leastL_len a b) (RDww13.out))
                rw [LG.out.norm] at C
                refine C.out.mono ?_
                rintro e ww16 ⟨rfl, gww16⟩
                clear C
                have Kww16 := Lib.hid (RDww13.out.below gww16)
                have szww16 : w.heap.size < ww16.heap.size := Nat.lt_of_lt_of_le szww13 gww16.size
                have k0ww16 : ww16.cell? ⟨w.heap.size, 0, none⟩ = some (.int .i64 f) := by rw [(bcell gww16).1 _ _ szww13]; exact k0ww13
                have k1ww16 : ww16.cell? ⟨w.heap.size, 1, none⟩ = some (.int .i64 t) := by rw [(bcell gww16).1 _ _ szww13]; exact k1ww13
                have Gww16 := Lib.hid (b2 Gww13.out gww16)
                clear k0ww13 k1ww13 gww16
                go_wp2_with fail
                refine (at_any _ (leastL a b) tt _ (leastL_len a b) (Kww16.out)).mono ?_
                rintro e ww17 ⟨xww17, rfl, hxww17, gww17⟩
                have eww17 := (((hxww17 LG.out.asc).trans (LG.out.at_ tt)).trans HC.out).symm
                subst eww17
                clear hxww17
                have szww17 : w.heap.size < ww17.heap.size := Nat.lt_of_lt_of_le szww16 gww17.size
                have k0ww17 : ww17.cell? ⟨w.heap.size, 0, none⟩ = some (.int .i64 f) := by rw [(bcell gww17).1 _ _ szww16]; exact k0ww16
                have k1ww17 : ww17.cell? ⟨w.heap.size, 1, none⟩ = some (.int .i64 t) := by rw [(bcell gww17).1 _ _ szww16]; exact k1ww16
                have Gww17 := Lib.hid (b2 Gww16.out gww17)
                clear k0ww16 k1ww16 gww17
                go_wp2_with fail
                go_meet
                exact ⟨rfl, Gww17, szww17, k0ww17, k1ww17⟩
            · skip
              have eEww13 : (Eww13 == 0) = false := by simpa using ze
              have nEww13 : (Eww13 != 0) = true := by simpa using ze
              clear ze
              go_wp2_with fail
              go_meet
              exact ⟨rfl, Gww13, szww13, k0ww13, k1ww13⟩
          clear Gww13 szww13 k0ww13 k1ww13
          obtain ⟨ww18, hcw⟩ : ∃ c, c = wc := ⟨_, rfl⟩
          rw [← hcw] at hcut ⊢
          clear hcw
          obtain ⟨rfl, Gww18, szww18, k0ww18, k1ww18⟩ := hcut
          go_upto_region 10 with fail
          go_cut [17, 18] (fun sl se wx => se = .int .i64 (clipE a f t) ∧ Hid (Rd wx sl (clipL a f t)) ∧ Hid (Below w.heap.size w wx) ∧ w.heap.size < wx.heap.size ∧ wx.cell? ⟨w.heap.size, 0, none⟩ = some (.int .i64 f) ∧ wx.cell? ⟨w.heap.size, 1, none⟩ = some (.int .i64 t))
          case first =>
            go_wp2_with fail
            refine (clip_any _ a f t _ (by omega) (RA.out.below Gww18.out)).mono ?_
            rintro e ww19 ⟨rww19, rfl, rdww19, gww19⟩
            have RDww19 := Lib.hid rdww19
            clear rdww19
            have szww19 : w.heap.size < ww19.heap.size := Nat.lt_of_lt_of_le szww18 gww19.size
            have k0ww19 : ww19.cell? ⟨w.heap.size, 0, none⟩ = some (.int .i64 f) := by rw [(bcell gww19).1 _ _ szww18]; exact k0ww18
            have k1ww19 : ww19.cell? ⟨w.heap.size, 1, none⟩ = some (.int .i64 t) := by rw [(bcell gww19).1 _ _ szww18]; exact k1ww18
            have Gww19 := Lib.hid (b2 Gww18.out gww19)
            clear k0ww18 k1ww18 gww19
            go_wp2_with fail
            go_meet
            exact ⟨rfl, RDww19, Gww19, szww19, k0ww19, k1ww19⟩
          clear Gww18 szww18 k0ww18 k1ww18
          obtain ⟨ww20, hcw⟩ : ∃ c, c = wc := ⟨_, rfl⟩
          rw [← hcw] at hcut ⊢
          clear hcw
          obtain ⟨rfl, RD, Gww20, szww20, k0ww20, k1ww20⟩ := hcut
          have RDww20 := RD
          clear RD
          obtain ⟨Eww20, hEww20⟩ : ∃ x, clipE a f t = x := ⟨_, rfl⟩
          rw [hEww20]
          have Zww20 := Lib.hid hEww20
          clear hEww20
          go_upto_if 97 with fail
          go_cut [] (fun wx => Hid (Below w.heap.size w wx) ∧ w.heap.size < wx.heap.size ∧ wx.cell? ⟨w.heap.size, 0, none⟩ = some (.int .i64 f) ∧ wx.cell? ⟨w.heap.size, 1, none⟩ = some (.int .i64 t))
          case first =>
            by_cases ze : Eww20 = 0
            · subst ze
              have CG := Lib.hid (clip_pw Zww20.out)
              by_cases s1 : tt < f
              · skip
                have HC := Lib.hid (show cutF a f t tt = 0 by unfold cutF; rw [if_neg (by omega)])
                go_wp2_with fail
                have C := Lib.hid (normalL_any _ (clipL a f t) _ (clipL_len a f t) (RDww20.out))
                rw [CG.out.norm] at C
                refine C.out.mono ?_
                rintro e ww21 ⟨rfl, gww21⟩
                clear C
                have Kww21 := Lib.hid (RDww20.out.below gww21)
                have szww21 : w.heap.size < ww21.heap.size := Nat.lt_of_lt_of_le szww20 gww21.size
                have k0ww21 : ww21.cell? ⟨w.heap.size, 0, none⟩ = some (.int .i64 f) := by rw [(bcell gww21).1 _ _ szww20]; exact k0ww20
                have k1ww21 : ww21.cell? ⟨w.heap.size, 1, none⟩ = some (.int .i64 t) := by rw [(bcell gww21).1 _ _ szww20]; exact k1ww20
                have Gww21 := Lib.hid (b2 Gww20.out gww21)
                clear k0ww20 k1ww20 gww21
                go_wp2_with fail
                refine (at_any _ (clipL a f t) tt _ (clipL_len a f t) (Kww21.out)).mono ?_
                rintro e ww22 ⟨xww22, rfl, hxww22, gww22⟩
                have eww22 := (((hxww22 CG.out.asc).trans (CG.out.at_ tt)).trans HC.out).symm
                subst eww22
                clear hxww22
                have szww22 : w.heap.size < ww22.heap.size := Nat.lt_of_lt_of_le szww21 gww22.size
                have k0ww22 : ww22.cell? ⟨w.heap.size, 0, none⟩ = some (.int .i64 f) := by rw [(bcell gww22).1 _ _ szww21]; exact k0ww21
                have k1ww22 : ww22.cell? ⟨w.heap.size, 1, none⟩ = some (.int .i64 t) := by rw [(bcell gww22).1 _ _ szww21]; exact k1ww21
                have Gww22 := Lib.hid (b2 Gww21.out gww22)
                clear k0ww21 k1ww21 gww22
                go_wp2_with fail
                go_meet
                exact ⟨Gww22, szww22, k0ww22, k1ww22⟩
              · skip
                by_cases s2 : t ≤ tt
                · skip
                  have HC := Lib.hid (show cutF a f t tt = 0 by unfold cutF; rw [if_neg (by omega)])
                  go_wp2_with fail
                  have C := Lib.hid (normalL_any _ (clipL a f t) _ (clipL_len a f t) (RDww20.out))
                  rw [CG.out.norm] at C
                  refine C.out.mono ?_
                  rintro e ww23 ⟨rfl, gww23⟩
                  clear C
                  have Kww23 := Lib.hid (RDww20.out.below gww23)
                  have szww23 : w.heap.size < ww23.heap.size := Nat.lt_of_lt_of_le szww20 gww23.size
                  have k0ww23 : ww23.cell? ⟨w.heap.size, 0, none⟩ = some (.int .i64 f) := by rw [(bcell gww23).1 _ _ szww20]; exact k0ww20
                  have k1ww23 : ww23.cell? ⟨w.heap.size, 1, none⟩ = some (.int .i64 t) := by rw [(bcell gww23).1 _ _ szww20]; exact k1ww20
                  have Gww23 := Lib.hid (b2 Gww20.out gww23)
                  clear k0ww20 k1ww20 gww23
                  go_wp2_with fail
                  refine (at_any _ (clipL a f t) tt _ (clipL_len a f t) (Kww23.out)).mono ?_
                  rintro e ww24 ⟨xww24, rfl, hxww24, gww24⟩
                  have eww24 := (((hxww24 CG.out.asc).trans (CG.out.at_ tt)).trans HC.out).symm
                  subst eww24
                  clear hxww24
                  have szww24 : w.heap.size < ww24.heap.size := Nat.lt_of_lt_of_le szww23 gww24.size
                  have k0ww24 : ww24.cell? ⟨w.heap.size, 0, none⟩ = some (.int .i64 f) := by rw [(bcell gww24).1 _ _ szww23]; exact k0ww23
                  have k1ww24 : ww24.cell? ⟨w.heap.size, 1, none⟩ = some (.int .i64 t) := by rw [(bcell gww24).1 _ _ szww23]; exact k1ww23
                  have Gww24 := Lib.hid (b2 Gww23.out gww24)
                  clear k0ww23 k1ww23 gww24
                  go_wp2_with fail
                  go_meet
                  exact ⟨Gww24, szww24, k0ww24, k1ww24⟩
                · skip
                  have HC := Lib.hid (show cutF a f t tt = x by unfold cutF; rw [if_pos (by omega)]; exact HX.out)
                  go_wp2_with fail
                  have C := Lib.hid (normalL_any _ (clipL a f t) _ (clipL_len a f t) (RDww20.out))
                  rw [CG.out.norm] at C
                  refine C.out.mono ?_
                  rintro e ww25 ⟨rfl, gww25⟩
                  clear C
                  have Kww25 := Lib.hid (RDww20.out.below gww25)
                  have szww25 : w.heap.size < ww25.heap.size := Nat.lt_of_lt_of_le szww20 gww25.size
                  have k0ww25 : ww25.cell? ⟨w.heap.size, 0, none⟩ = some (.int .i64 f) := by rw [(bcell gww25).1 _ _ szww20]; exact k0ww20
                  have k1ww25 : ww25.cell? ⟨w.heap.size, 1, none⟩ = some (.int .i64 t) := by rw [(bcell gww25).1 _ _ szww20]; exact k1ww20
                  have Gww25 := Lib.hid (b2 Gww20.out gww25)
                  clear k0ww20 k1ww20 gww25
                  go_wp2_with fail
                  refine (at_any _ (clipL a f t) tt _ (clipL_len a f t) (Kww25.out)).mono ?_
                  rintro e ww26 ⟨xww26, rfl, hxww26, gww26⟩
                  have eww26 := (((hxww26 CG.out.asc).trans (CG.out.at_ tt)).trans HC.out).symm
                  subst eww26
                  clear hxww26
                  have szww26 : w.heap.size < ww26.heap.size := Nat.lt_of_lt_of_le szww25 gww26.size
                  have k0ww26 : ww26.cell? ⟨w.heap.size, 0, none⟩ = some (.int .i64 f) := by rw [(bcell gww26).1 _ _ szww25]; exact k0ww25
                  have k1ww26 : ww26.cell? ⟨w.heap.size, 1, none⟩ = some (.int .i64 t) := by rw [(bcell gww26).1 _ _ szww25]; exact k1ww25
                  have Gww26 := Lib.hid (b2 Gww25.out gww26)
                  clear k0ww25 k1ww25 gww26
                  go_wp2_with fail
                  go_meet
                  exact ⟨Gww26, szww26, k0ww26, k1ww26⟩
            · skip
              have eEww20 : (Eww20 == 0) = false := by simpa using ze
              have nEww20 : (Eww20 != 0) = true := by simpa using ze
              clear ze
              go_wp2_with fail
              go_meet
              exact ⟨Gww20, szww20, k0ww20, k1ww20⟩
          clear Gww20 szww20 k0ww20 k1ww20
          obtain ⟨ww27, hcw⟩ : ∃ c, c = wc := ⟨_, rfl⟩
          rw [← hcw] at hcut ⊢
          clear hcw
          obtain ⟨Gww27, szww27, k0ww27, k1ww27⟩ := hcut
          by_cases t1 : tt < -268435456
          · skip
            go_wp2_with fail
            refine (example_any _).mono ?_
            rintro e wx ⟨rfl, gx⟩
            go_wp2_with fail
            go_ret
            exact ⟨rfl, b2 Gww27.out gx⟩
          · skip
            by_cases t2 : 536870912 < tt
            · skip
              go_wp2_with fail
              refine (example_any _).mono ?_
              rintro e wx ⟨rfl, gx⟩
              go_wp2_with fail
              go_ret
              exact ⟨rfl, b2 Gww27.out gx⟩
            · skip
              go_wp2_with fail
              by_cases zww28 : shE a m = 0
              · skip
                have C := Lib.hid (shift_any _ a m _ (by omega) (RA.out.below Gww27.out))
                rw [zww28] at C
                have Zww28 := Lib.hid zww28
                clear zww28
                refine C.out.mono ?_
                rintro e ww28 ⟨rww28, rfl, rdww28, gww28⟩
                clear C
                have RDww28 := Lib.hid rdww28
                clear rdww28
                have szww28 : w.heap.size < ww28.heap.size := Nat.lt_of_lt_of_le szww27 gww28.size
                have k0ww28 : ww28.cell? ⟨w.heap.size, 0, none⟩ = some (.int .i64 f) := by rw [(bcell gww28).1 _ _ szww27]; exact k0ww27
                have k1ww28 : ww28.cell? ⟨w.heap.size, 1, none⟩ = some (.int .i64 t) := by rw [(bcell gww28).1 _ _ szww27]; exact k1ww27
                have Gww28 := Lib.hid (b2 Gww27.out gww28)
                clear k0ww27 k1ww27 gww28
                obtain ⟨SG, SB⟩ := sh_pw Zww28.out
                have SG := Lib.hid SG
                by_cases en : a = []
                · skip
                  have ea : a.length = 0 := by rw [en]; rfl
                  have el : shL a m = [] := sh_nil en
                  obtain ⟨pr, cr, rfl, _, _, _⟩ := RDww28.out
                  have er : (shL a m).length = 0 := by rw [el]; rfl
                  rw [ea, er]
                  clear SB en
                  go_wp2_with fail
                  refine (example_any _).mono ?_
                  rintro e wx ⟨rfl, gx⟩
                  go_wp2_with fail
                  go_ret
                  exact ⟨rfl, b2 Gww28.out gx⟩
                · skip
                  obtain ⟨m1, m2⟩ := SB en
                  have pa0 : 0 < a.length := List.length_pos_iff.2 en
                  have pa1 : ((a.length : Int) == 0) = false := by simp; omega
                  clear SB en
                  obtain ⟨y5, hy5⟩ : ∃ x, atL a (tt - m) = x := ⟨_, rfl⟩
                  have HY5 := Lib.hid hy5
                  clear hy5
                  go_wp2_with fail
                  have C := Lib.hid (normalL_any _ (shL a m) _ (shL_len a m) (RDww28.out))
                  rw [SG.out.norm] at C
                  refine C.out.mono ?_
                  rintro e ww29 ⟨rfl, gww29⟩
                  clear C
                  have Kww29 := Lib.hid (RDww28.out.below gww29)
                  have szww29 : w.heap.size < ww29.heap.size := Nat.lt_of_lt_of_le szww28 gww29.size
                  have k0ww29 : ww29.cell? ⟨w.heap.size, 0, none⟩ = some (.int .i64 f) := by rw [(bcell gww29).1 _ _ szww28]; exact k0ww28
                  have k1ww29 : ww29.cell? ⟨w.heap.size, 1, none⟩ = some (.int .i64 t) := by rw [(bcell gww29).1 _ _ szww28]; exact k1ww28
                  have Gww29 := Lib.hid (b2 Gww28.out gww29)
                  clear k0ww28 k1ww28 gww29
                  go_wp2_with fail
                  refine (at_any _ (shL a m) tt _ (shL_len a m) (Kww29.out)).mono ?_
                  rintro e ww30 ⟨xww30, rfl, hxww30, gww30⟩
                  have eww30 := (((hxww30 SG.out.asc).trans (SG.out.at_ tt)).trans HY5.out).symm
                  subst eww30
                  clear hxww30
                  have szww30 : w.heap.size < ww30.heap.size := Nat.lt_of_lt_of_le szww29 gww30.size
                  have k0ww30 : ww30.cell? ⟨w.heap.size, 0, none⟩ = some (.int .i64 f) := by rw [(bcell gww30).1 _ _ szww29]; exact k0ww29
                  have k1ww30 : ww30.cell? ⟨w.heap.size, 1, none⟩ = some (.int .i64 t) := by rw [(bcell gww30).1 _ _ szww29]; exact k1ww29
                  have Gww30 := Lib.hid (b2 Gww29.out gww30)
                  clear k0ww29 k1ww29 gww30
                  go_wp2_with fail
                  refine (at_any _ a (tt - m) _ (by omega) (RA.out.below Gww30.out)).mono ?_
                  rintro e ww31 ⟨xww31, rfl, hxww31, gww31⟩
                  obtain rfl := ((hxww31 OA.out.asc).trans HY5.out).symm
                  clear hxww31
                  have szww31 : w.heap.size < ww31.heap.size := Nat.lt_of_lt_of_le szww30 gww31.size
                  have k0ww31 : ww31.cell? ⟨w.heap.size, 0, none⟩ = some (.int .i64 f) := by rw [(bcell gww31).1 _ _ szww30]; exact k0ww30
                  have k1ww31 : ww31.cell? ⟨w.heap.size, 1, none⟩ = some (.int .i64 t) := by rw [(bcell gww31).1 _ _ szww30]; exact k1ww30
                  have Gww31 := Lib.hid (b2 Gww30.out gww31)
                  clear k0ww30 k1ww30 gww31
                  go_wp2_with fail
                  refine (example_any _).mono ?_
                  rintro e wx ⟨rfl, gx⟩
                  go_wp2_with fail
                  go_ret
                  exact ⟨rfl, b2 Gww31.out gx⟩
              · skip
                have C := Lib.hid (shift_any _ a m _ (by omega) (RA.out.below Gww27.out))
                obtain ⟨Eww32, hEww32⟩ : ∃ x, shE a m = x := ⟨_, rfl⟩
                rw [hEww32] at C zww28
                have eEww32 : (Eww32 == 0) = false := by simpa using zww28
                have nEww32 : (Eww32 != 0) = true := by simpa using zww28
                clear hEww32 zww28
                refine C.out.mono ?_
                rintro e ww32 ⟨rww32, rfl, rdww32, gww32⟩
                clear C
                have RDww32 := Lib.hid rdww32
                clear rdww32
                have szww32 : w.heap.size < ww32.heap.size := Nat.lt_of_lt_of_le szww27 gww32.size
                have k0ww32 : ww32.cell? ⟨w.heap.size, 0, none⟩ = some (.int .i64 f) := by rw [(bcell gww32).1 _ _ szww27]; exact k0ww27
                have k1ww32 : ww32.cell? ⟨w.heap.size, 1, none⟩ = some (.int .i64 t) := by rw [(bcell gww32).1 _ _ szww27]; exact k1ww27
                have Gww32 := Lib.hid (b2 Gww27.out gww32)
                clear k0ww27 k1ww27 gww32
                go_wp2_with fail
                refine (example_any _).mono ?_
                rintro e wx ⟨rfl, gx⟩
                go_wp2_with fail
                go_ret
                exact ⟨rfl, b2 Gww32.out gx⟩
        · skip
          go_enter Try.func9, Try.ntmps9
          go_wp2_with fail
          have C := Lib.hid (valid_any _ a _ (by omega) (RA.out.below G0.out))
          rw [za] at C
          refine C.out.mono ?_
          rintro e ww33 ⟨rfl, gww33⟩
          clear C
          have szww33 : w.heap.size < ww33.heap.size := Nat.lt_of_lt_of_le sz0 gww33.size
          have k0ww33 : ww33.cell? ⟨w.heap.size, 0, none⟩ = some (.int .i64 f) := by rw [(bcell gww33).1 _ _ sz0]; exact k00
          have k1ww33 : ww33.cell? ⟨w.heap.size, 1, none⟩ = some (.int .i64 t) := by rw [(bcell gww33).1 _ _ sz0]; exact k10
          have Gww33 := Lib.hid (b2 G0.out gww33)
          clear k00 k10 gww33
          go_wp2_with fail
          have C := Lib.hid (valid_any _ b _ (by omega) (RB.out.below Gww33.out))
          obtain ⟨Eww34, hEww34⟩ : ∃ x, validE b = x := ⟨_, rfl⟩
          rw [hEww34] at C zb
          have eEww34 : (Eww34 == 0) = false := by simpa using zb
          have nEww34 : (Eww34 != 0) = true := by simpa using zb
          clear hEww34 zb
          refine C.out.mono ?_
          rintro e ww34 ⟨rfl, gww34⟩
          clear C
          have szww34 : w.heap.size < ww34.heap.size := Nat.lt_of_lt_of_le szww33 gww34.size
          have k0ww34 : ww34.cell? ⟨w.heap.size, 0, none⟩ = some (.int .i64 f) := by rw [(bcell gww34).1 _ _ szww33]; exact k0ww33
          have k1ww34 : ww34.cell? ⟨w.heap.size, 1, none⟩ = some (.int .i64 t) := by rw [(bcell gww34).1 _ _ szww33]; exact k1ww33
          have Gww34 := Lib.hid (b2 Gww33.out gww34)
          clear k0ww33 k1ww33 gww34
          go_wp2_with fail
          refine (example_any _).mono ?_
          rintro e wx ⟨rfl, gx⟩
          go_wp2_with fail
          go_ret
          exact ⟨rfl, b2 Gww34.out gx⟩
      · skip
        go_enter Try.func9, Try.ntmps9
        go_wp2_with fail
        have C := Lib.hid (valid_any _ a _ (by omega) (RA.out.below G0.out))
        obtain ⟨Eww35, hEww35⟩ : ∃ x, validE a = x := ⟨_, rfl⟩
        rw [hEww35] at C za
        have eEww35 : (Eww35 == 0) = false := by simpa using za
        have nEww35 : (Eww35 != 0) = true := by simpa using za
        clear hEww35 za
        refine C.out.mono ?_
        rintro e ww35 ⟨rfl, gww35⟩
        clear C
        have szww35 : w.heap.size < ww35.heap.size := Nat.lt_of_lt_of_le sz0 gww35.size
        have k0ww35 : ww35.cell? ⟨w.heap.size, 0, none⟩ = some (.int .i64 f) := by rw [(bcell gww35).1 _ _ sz0]; exact k00
        have k1ww35 : ww35.cell? ⟨w.heap.size, 1, none⟩ = some (.int .i64 t) := by rw [(bcell gww35).1 _ _ sz0]; exact k10
        have Gww35 := Lib.hid (b2 G0.out gww35)
        clear k00 k10 gww35
        go_wp2_with fail
        refine (example_any _).mono ?_
        rintro e wx ⟨rfl, gx⟩
        go_wp2_with fail
        go_ret
        exact ⟨rfl, b2 Gww35.out gx⟩
    · have hb : 600 < b.length := by omega
      clear q2
      obtain ⟨pa, ca, rfl, _, _, _⟩ := Ra
      obtain ⟨pb, cb, rfl, _, _, _⟩ := Rb
      go_enter Try.func9, Try.ntmps9
      go_wp2_with fail
      refine (example_any _).mono ?_
      rintro e wx ⟨rfl, gx⟩
      go_wp2_with fail
      go_ret
      exact ⟨rfl, b2 HB.out gx⟩
  · have hb : 600 < a.length := by omega
    clear q1
    obtain ⟨pa, ca, rfl, _, _, _⟩ := Ra
    obtain ⟨pb, cb, rfl, _, _, _⟩ := Rb
    go_enter Try.func9, Try.ntmps9
    go_wp2_with fail
    refine (example_any _).mono ?_
    rintro e wx ⟨rfl, gx⟩
    go_wp2_with fail
    go_ret
    exact ⟨rfl, b2 HB.out gx⟩


set_option maxRecDepth 100000 in
theorem lifted (os : Os) (started : os.Started) (H : Type) (enc : TypeId × Value → H) :
    ReturnsInHanded {} Try.checked os 9 .any (Rows.seriesPointwiseSpec.pre6 enc Try.prog Try.f9 Rows.seriesPointwiseRow.domain false) (Rows.seriesPointwiseSpec.post enc Try.prog Try.f9 false true false false) := by
  refine returnsInHanded_of_change (C := Try.checked) own started (by kernel_rfl) Try.func9
    (ChangeSpec.witness6 (enc := enc) (C := Try.checked) false ⟨#[], #[.slice none 0 0, .slice none 0 0, .agg #[.int .i64 0, .int .i64 0], .int .i64 0, .int .i64 0], []⟩ 8 (by kernel_rfl) (by kernel_rfl) (by kernel_rfl) (by kernel_rfl)) ?_
  intro W base args ds gs before hval0 hW hcnd _
  have hval : ∀ (j : Nat) t v, Try.f9.params[j]? = some t → args[j]? = some v → Value.okWide Try.prog W .any base t v := hval0
  have hW' := hW
  obtain ⟨p, q, hA0, hV, rfl, hfz, hnd⟩ := hW
  have hA : DataW.TrodAll enc Try.prog W 0 (fun _ => true) true Try.f9.params.toList args.toList ds p := hA0
  rw [Try.params9] at hA hval
  obtain ⟨v0, vs0, d0, ds0, p0, q0, hargs, rfl, rfl, h0, r0⟩ := trodAll_cons hA
  obtain ⟨v1, vs1, d1, ds1, p1, q1, rfl, rfl, rfl, h1, r1⟩ := trodAll_cons r0
  obtain ⟨v2, vs2, d2, ds2, p2, q2, rfl, rfl, rfl, h2, r2⟩ := trodAll_cons r1
  obtain ⟨v3, vs3, d3, ds3, p3, q3, rfl, rfl, rfl, h3, r3⟩ := trodAll_cons r2
  obtain ⟨v4, vs4, d4, ds4, p4, q4, rfl, rfl, rfl, h4, r4⟩ := trodAll_cons r3
  obtain ⟨rfl, rfl, rfl⟩ := trodAll_nil r4
  obtain rfl : args = #[v0, v1, v2, v3, v4] := by cases args; simp_all
  obtain ⟨rfl, rfl⟩ := trodVars_none hV
  have k0' := h0
  have lt0 : ∀ x ∈ p0, x.block < W.heap.size := by obtain ⟨m, hm⟩ := k0'; exact DataW.trod_lt m _ _ _ hm
  have k1' := h1
  have lt1 : ∀ x ∈ p1, x.block < W.heap.size := by obtain ⟨m, hm⟩ := k1'; exact DataW.trod_lt m _ _ _ hm
  have k2' := h2
  have lt2 : ∀ x ∈ p2, x.block < W.heap.size := by obtain ⟨m, hm⟩ := k2'; exact DataW.trod_lt m _ _ _ hm
  have k3' := h3
  have lt3 : ∀ x ∈ p3, x.block < W.heap.size := by obtain ⟨m, hm⟩ := k3'; exact DataW.trod_lt m _ _ _ hm
  have k4' := h4
  have lt4 : ∀ x ∈ p4, x.block < W.heap.size := by obtain ⟨m, hm⟩ := k4'; exact DataW.trod_lt m _ _ _ hm
  obtain ⟨a0, R0⟩ := steps_form (hval 0 22 v0 rfl rfl) h0
  obtain ⟨a1, R1⟩ := steps_form (hval 1 22 v1 rfl rfl) h1
  obtain ⟨f2, t2, rfl⟩ := span_form (hval 2 35 v2 rfl rfl) h2
  obtain ⟨n3, rfl, rfl, rfl, w3⟩ := open_int Try.underlying3 (hval 3 3 v3 rfl rfl) h3
  obtain ⟨n4, rfl, rfl, rfl, w4⟩ := open_int Try.underlying3 (hval 4 3 v4 rfl rfl) h4
  clear hA0 hval0
  simp only [List.append_nil] at hW'
  refine (walk v0 a0 v1 a1 f2 t2 n3 n4 W R0 R1).mono fun e W' ⟨he, bel⟩ => ?_
  subst he
  exact ⟨_, rfl, _, _, _, [], _, [], hW', trodAll_mk1 (shut_bool Try.underlying4 _), (trodAll_cons_mk (Below.trod laidOut (by kernel_rfl) (of_decide_eq_true (by kernel_rfl)) k0' bel lt0) (trodAll_cons_mk (Below.trod laidOut (by kernel_rfl) (of_decide_eq_true (by kernel_rfl)) k1' bel lt1) (trodAll_cons_mk (Below.trod laidOut (by kernel_rfl) (of_decide_eq_true (by kernel_rfl)) k2' bel lt2) (trodAll_cons_mk (Below.trod laidOut (by kernel_rfl) (of_decide_eq_true (by kernel_rfl)) k3' bel lt3) (trodAll_cons_mk (Below.trod laidOut (by kernel_rfl) (of_decide_eq_true (by kernel_rfl)) k4' bel lt4) trodAll_mk0))))), rfl, bel.frame _, fun h => by cases h⟩

theorem over : Rows.seriesPointwiseRow.holds Try.pinned (OpenSpec.ofChange Rows.seriesPointwiseSpec) :=
  OpenClaim.holds_of_wide 9 Try.f9 rfl rfl rfl rfl rfl rfl rfl ⟨rfl, rfl, rfl, rfl, rfl⟩ rfl rfl rfl rfl rfl (by kernel_rfl) Try.func9 (by kernel_rfl)
    (of_decide_eq_true (by kernel_rfl)) (by unfold Func.isWrapper; first | (rw [if_pos (by decide +kernel)]; kernel_rfl) | (rw [if_neg (by decide +kernel)]; exact ⟨rfl, rfl⟩))
    (fun os started H enc _ => lifted os started H enc)
end seriesPointwise

theorem seriesPointwise_holds : Rows.SeriesPointwiseSaid := seriesPointwise.over
#print axioms seriesPointwise_holds
end Go.Proofs.Ytapfinnbfnhdbab
