/-
  Greatest; the examples of the chapter.
-/
import Derived.Test.YtjkempammohkaaaFlT
namespace Go.Proofs.Ytjkempammohkaaa
open Go.RowKit
open IntWalk
open Fl
set_option linter.unusedVariables false

set_option maxHeartbeats 4000000 in
set_option maxRecDepth 100000 in
theorem greatest_run {N : Nat} {l : List Ac} {G : Nt} (eG : G = netG (N : Int) l) (p : Option Addr) (c : Nat) (s t : Nat) (v : Int) (L : List Int) (pl : Option Addr) (cl : Nat) (w : World) (hA : NetAt w p l) (hI : IAt w pl L) (he : endE (N : Int) l (s : Int) (t : Int) = 0) (hL : L.length = l.length) {cu : Nat → Bool} (hB : G.Best s t (fL L) cu) (hv : v = G.out (fL L) s) :
    Calls Try.prog 17 #[.agg #[.int .i64 (N : Int), .slice p l.length c], .int .i64 (s : Int), .int .i64 (t : Int), .int .i64 v, .slice pl L.length cl] w fun e w' => e = .returned (.bool true) ∧ Below w.heap.size w w' := by
  obtain ⟨ve, ⟨s0, s1⟩, ⟨t0, t1⟩, st⟩ := endE_ok he
  obtain ⟨NK, n1, n2⟩ := valE_ok ve
  have B0 := Lib.hid ((Below.refl w.heap.size w).alloc (Nat.le_refl _) (.cells #[.int .i64 (N : Int), .slice p l.length c] 24))
  have CK := Lib.hid (rck_good p c s t L pl cl (w.alloc (.cells #[.int .i64 (N : Int), .slice p l.length c] 24)) (hA.below B0.out) (hI.below B0.out) he hL)
  have HA := Lib.hid hA
  have HI := Lib.hid hI
  have EG := Lib.hid eG
  have HB := Lib.hid hB
  have HV := Lib.hid hv
  have HE := Lib.hid he
  have HLL := Lib.hid hL
  have HK := Lib.hid NK
  have RC := Lib.hid (fun W (h : Below w.heap.size w W) => reach_run EG.out HK.out (by omega) (by omega) p c s (by omega) L pl cl W (HA.out.below h) (HI.out.below h) HLL.out)
  have tN : t < N := by omega
  clear hA hI eG hB hv he hL NK ve n1 n2 s0 s1 t0 t1 st
  go_enter Try.func17, Try.ntmps17
  go_wp2_with fail
  refine CK.out.mono ?_
  rintro _ w1 ⟨v1, b1, rfl, ck, bb⟩
  have ck2 : b1 = true ∧ v1 = v := by
    rcases ck with ⟨a1, a2, a3⟩ | ⟨a1, a2, a3⟩
    · exact ⟨a1, by rw [a3, HV.out, EG.out]; rfl⟩
    · exact absurd ⟨HE.out, HLL.out, by have := HB.out.flow; rw [EG.out] at this; exact this⟩ a2
  obtain ⟨rfl, rfl⟩ := ck2
  obtain ⟨hc, hf⟩ := bcell bb
  have k0 : w1.cell? ⟨w.heap.size, 0, none⟩ = some (.int .i64 (N : Int)) := by rw [hc _ _ (by simp)]; simp
  have k1 : w1.cell? ⟨w.heap.size, 1, none⟩ = some (.slice p l.length c) := by rw [hc _ _ (by simp)]; simp
  have B1 := Lib.hid (B0.out.trans (bb.mono (by simp)))
  have R1 := Lib.hid (RC.out w1 B1.out)
  clear hc hf bb ck RC CK
  go_wp2_with fail
  refine R1.out.mono ?_
  rintro _ w2 ⟨S, b, rfl, hb, row, hr, bb⟩
  have st : S t = false := by
    cases e : S t
    · rfl
    · have := hr.least cu HB.out.reach.src HB.out.reach.closed t (by rw [EG.out]; show t < (N : Int).toNat; omega) e
      rw [HB.out.not] at this
      exact absurd this (by decide)
  have kt := row.cell tN
  unfold bv at kt
  rw [st] at kt
  have B2 := Lib.hid (B1.out.trans (bb.mono (by have := B1.out.size; omega)))
  clear st row hr bb k0 k1
  go_wp2_with fail
  go_ret
  exact ⟨rfl, B2.out⟩

/-! The examples. -/
def exL : List Ac := [⟨0, 1, 4⟩, ⟨1, 2, 1⟩]
def exG : Nt := netG ((3 : Nat) : Int) exL
theorem ex_end : endE ((3 : Nat) : Int) exL ((0 : Nat) : Int) ((2 : Nat) : Int) = 0 := by decide
theorem ex_end2 : endE ((3 : Nat) : Int) exL ((2 : Nat) : Int) ((0 : Nat) : Int) = 0 := by decide
theorem ex_out (f : Nat → Int) (v : Nat) : exG.out f v = give 0 1 (f 0) v + give 1 2 (f 1) v := by
  show 0 + give _ _ (f 0) v + give _ _ (f 1) v = _
  rw [Int.zero_add]; rfl
/-- The one greatest flow of the example. -/
theorem ex_best {f : Nat → Int} {c : Nat → Bool} (h : exG.Best 0 2 f c) : f 0 = 1 ∧ f 1 = 1 ∧ exG.out f 0 = 1 ∧ c 0 = true ∧ c 1 = true ∧ c 2 = false := by
  have k := h.flow.keep 1 (by decide) (by decide) (by decide)
  rw [ex_out] at k
  have l0 := h.flow.lo 0 (by decide)
  have l1 := h.flow.lo 1 (by decide)
  have h1 := h.flow.hi 1 (by decide)
  have h0 := h.flow.hi 0 (by decide)
  have e1 : exG.cap 1 = 1 := rfl
  have e0 : exG.cap 0 = 4 := rfl
  have eq : f 0 = f 1 := by
    unfold give at k
    simp at k
    omega
  have c0 := h.reach.src
  have c2 := h.not
  have f0 : f 0 < exG.cap 0 := by omega
  have c1 : c 1 = true := h.reach.closed.along 0 (by decide) c0 f0
  have f1 : ¬ f 1 < exG.cap 1 := fun hlt => by
    have : c 2 = true := h.reach.closed.along 1 (by decide) c1 hlt
    rw [c2] at this
    exact absurd this (by decide)
  refine ⟨by omega, by omega, ?_, c0, c1, c2⟩
  rw [ex_out]
  unfold give
  simp
  omega
theorem ex_check : CkIs ((3 : Nat) : Int) exL ((2 : Nat) : Int) ((0 : Nat) : Int) [1, 1] (-1) true := by
  refine .inl ⟨rfl, ⟨ex_end2, rfl, ⟨fun i hi => ?_, fun i hi => ?_, fun v hv h1 h2 => ?_⟩⟩, ?_⟩
  · have hi' : i < 2 := hi
    rcases (by omega : i = 0 ∨ i = 1) with rfl | rfl <;> decide
  · have hi' : i < 2 := hi
    rcases (by omega : i = 0 ∨ i = 1) with rfl | rfl <;> decide
  · have hv' : v < 3 := hv
    have g1 : v ≠ 2 := h1
    have g2 : v ≠ 0 := h2
    obtain rfl : v = 1 := by omega
    decide
  · decide

def ExPost (w : World) (e : Ending) (w' : World) : Prop := ∃ b, e = .returned (.agg #[.int .i64 3, .slice (some ⟨b, 0, none⟩) 2 2]) ∧ w.heap.size ≤ b ∧ NetAt w' (some ⟨b, 0, none⟩) exL ∧ Below w.heap.size w w'
set_option maxHeartbeats 4000000 in
set_option maxRecDepth 100000 in
theorem example_run (w : World) : Calls Try.prog 25 #[] w (ExPost w) := by
  go_enter Try.func25, Try.ntmps25
  go_wp2_with fail
  refine bodyPost_ret (v := .agg #[.int .i64 3, .slice (some ⟨w.heap.size + 1, 0, none⟩) 2 2]) (by simp [results, Try.results25, go_sem]) rfl ⟨w.heap.size + 1, rfl, by omega, fun _ => ⟨w.heap.size + 1, 0, rfl, by simp, fun i hi => ?_⟩, ((Below.refl _ _).alloc (Nat.le_refl _) _).alloc (by simp) _⟩
  have hi' : i < 2 := hi
  rcases (by omega : i = 0 ∨ i = 1) with rfl | rfl <;> simp [exL]
theorem ex_max (W : World) (p : Option Addr) (h : NetAt W p exL) : Calls Try.prog 15 #[.agg #[.int .i64 3, .slice p 2 2], .int .i64 0, .int .i64 2] W fun e w' => ∃ b, e = .returned (.tuple #[.int .i64 1, .slice (some ⟨b, 0, none⟩) 2 2, .int .i64 0]) ∧ W.heap.size ≤ b ∧ w'.cell? ⟨b, 0, none⟩ = some (.int .i64 1) ∧ w'.cell? ⟨b, 1, none⟩ = some (.int .i64 1) ∧ Below W.heap.size W w' := by
  have m := max_ok (N := 3) (l := exL) (G := exG) rfl p 2 0 2 W h ex_end
  refine m.mono ?_
  rintro e w' ⟨v, f, c, b, rfl, h1, h2, h3, h4, h5⟩
  obtain ⟨f0, f1, o0, _⟩ := ex_best h3
  have m2 : exG.m = 2 := rfl
  rw [m2] at h2 ⊢
  refine ⟨b, by rw [h4, o0], h1, ?_, ?_, h5⟩
  · rw [h2.cell (by omega)]; unfold iv; rw [f0]
  · rw [h2.cell (by omega)]; unfold iv; rw [f1]
theorem ex_cut (W : World) (p : Option Addr) (h : NetAt W p exL) : Calls Try.prog 18 #[.agg #[.int .i64 3, .slice p 2 2], .int .i64 0, .int .i64 2] W fun e w' => ∃ b, e = .returned (.tuple #[.slice (some ⟨b, 0, none⟩) 3 3, .int .i64 0]) ∧ W.heap.size ≤ b ∧ w'.rowIs b 4 3 (bv fun i => decide (i < 2)) ∧ Below W.heap.size W w' := by
  have m := cut_ok (N := 3) (l := exL) (G := exG) rfl p 2 0 2 W h ex_end
  refine m.mono ?_
  rintro e w' ⟨f, c, b, rfl, h1, h2, h3, h5⟩
  obtain ⟨_, _, _, c0, c1, c2⟩ := ex_best h3
  have m2 : exG.N = 3 := rfl
  rw [m2] at h2 ⊢
  refine ⟨b, rfl, h1, h2.congr fun i hi => ?_, h5⟩
  rcases (by omega : i = 0 ∨ i = 1 ∨ i = 2) with rfl | rfl | rfl
  · rw [c0]; rfl
  · rw [c1]; rfl
  · rw [c2]; rfl
theorem ex_chk (W : World) (p pl : Option Addr) (h : NetAt W p exL) (hI : IAt W pl [1, 1]) : Calls Try.prog 23 #[.agg #[.int .i64 3, .slice p 2 2], .int .i64 2, .int .i64 0, .slice pl 2 2] W fun e w' => e = .returned (.tuple #[.int .i64 (-1), .bool true]) ∧ Below W.heap.size W w' := by
  have m := fck_good (N := 3) (l := exL) p 2 2 0 [1, 1] pl 2 W h hI ex_end2 rfl
  refine m.mono ?_
  rintro e w' ⟨v, b, rfl, h1, h2⟩
  obtain ⟨rfl, rfl⟩ := h1.one ex_check
  exact ⟨rfl, h2⟩
theorem ex_val (W : World) : Calls Try.prog 12 #[.agg #[.int .i64 1, .slice none 0 0]] W fun e w' => e = .returned (.int .i64 2) ∧ Below W.heap.size W w' :=
  valid_run 1 [] none 0 W (by simp) (fun h => absurd rfl h)
theorem three_bools (w : World) : (w.alloc (.cells #[.bool true, .bool true, .bool false] 4)).rowIs w.heap.size 4 3 (bv fun i => decide (i < 2)) :=
  World.rowIs_alloc w #[.bool true, .bool true, .bool false] 4 (bv fun i => decide (i < 2)) (fun i hi => by
    have hi' : i < 3 := hi
    rcases (by omega : i = 0 ∨ i = 1 ∨ i = 2) with rfl | rfl | rfl <;> rfl)
theorem two_ones (w : World) : IAt (w.alloc (.cells #[.int .i64 1, .int .i64 1] 3)) (some ⟨w.heap.size, 0, none⟩) [1, 1] := fun _ => ⟨w.heap.size, 0, rfl, by simp, fun i hi => by
    have hi' : i < 2 := hi
    rcases (by omega : i = 0 ∨ i = 1) with rfl | rfl <;> simp⟩

set_option maxHeartbeats 4000000 in
set_option maxRecDepth 100000 in
theorem awake_run (w : World) : Calls Try.prog 11 #[] w fun e w' => e = .returned (.bool true) ∧ Below w.heap.size w w' := by
  go_enter Try.func11, Try.ntmps11
  go_wp2_with fail
  refine (example_run w).mono ?_
  rintro _ w1 ⟨b, rfl, hb, hN, b1⟩
  have B1 := Lib.hid (b1.alloc b1.size (.cells #[.int .i64 3, .slice (some ⟨b, 0, none⟩) 2 2] 24))
  have N1 := Lib.hid (hN.below ((Below.refl w1.heap.size w1).alloc (Nat.le_refl _) (.cells #[.int .i64 3, .slice (some ⟨b, 0, none⟩) 2 2] 24)))
  clear hN b1
  go_upto_region 2 with fail
  obtain ⟨H, hH⟩ : ∃ H, H = w1.heap.size := ⟨_, rfl⟩
  have k0 : (w1.alloc (.cells #[.int .i64 3, .slice (some ⟨b, 0, none⟩) 2 2] 24)).cell? ⟨H, 0, none⟩ = some (.int .i64 3) := by rw [hH]; simp
  have k1 : (w1.alloc (.cells #[.int .i64 3, .slice (some ⟨b, 0, none⟩) 2 2] 24)).cell? ⟨H, 1, none⟩ = some (.slice (some ⟨b, 0, none⟩) 2 2) := by rw [hH]; simp
  have hz : H < (w1.alloc (.cells #[.int .i64 3, .slice (some ⟨b, 0, none⟩) 2 2] 24)).heap.size := by rw [hH]; simp
  rw [← hH]
  clear hH
  revert B1 N1 k0 k1 hz
  generalize (w1.alloc (.cells #[.int .i64 3, .slice (some ⟨b, 0, none⟩) 2 2] 24)) = w2
  intro B1 N1 k0 k1 hz
  have MX := Lib.hid (ex_max w2 _ N1.out)
  go_wp2_with fail
  refine MX.out.mono ?_
  rintro _ w3 ⟨b3, rfl, hb3, m0, m1, bb⟩
  have hz3 := bb.size
  have k0' : w3.cell? ⟨H, 0, none⟩ = some (.int .i64 3) := (bb.cell (p := ⟨H, 0, none⟩) hz).trans k0
  have k1' : w3.cell? ⟨H, 1, none⟩ = some (.slice (some ⟨b, 0, none⟩) 2 2) := (bb.cell (p := ⟨H, 1, none⟩) hz).trans k1
  have N3 := Lib.hid (N1.out.below bb)
  have z3 : b3 < w3.heap.size := World.block_lt_of_cell? w3 ⟨b3, 0, none⟩ m0
  have B3 := Lib.hid (B1.out.trans (bb.mono B1.out.size))
  clear k0 k1 bb MX B1 N1
  have CU := Lib.hid (ex_cut w3 _ N3.out)
  go_wp2_with fail
  refine CU.out.mono ?_
  rintro _ w4 ⟨b4, rfl, hb4, row, bb⟩
  have hz4 := bb.size
  have k0 : w4.cell? ⟨H, 0, none⟩ = some (.int .i64 3) := (bb.cell (p := ⟨H, 0, none⟩) (show H < w3.heap.size by omega)).trans k0'
  have k1 : w4.cell? ⟨H, 1, none⟩ = some (.slice (some ⟨b, 0, none⟩) 2 2) := (bb.cell (p := ⟨H, 1, none⟩) (show H < w3.heap.size by omega)).trans k1'
  have n0 : w4.cell? ⟨b3, 0, none⟩ = some (.int .i64 1) := (bb.cell (p := ⟨b3, 0, none⟩) z3).trans m0
  have n1 : w4.cell? ⟨b3, 1, none⟩ = some (.int .i64 1) := (bb.cell (p := ⟨b3, 1, none⟩) z3).trans m1
  have N4 := Lib.hid (N3.out.below bb)
  have B4 := Lib.hid (B3.out.trans (bb.mono B3.out.size))
  have RW := Lib.hid row
  have SM := Lib.hid (same_run (n := 3) (c1 := 3) (c2 := 3) (a1 := 0) (a2 := 0) (by omega) b4 w4.heap.size _ _ (w4.alloc (.cells #[.bool true, .bool true, .bool false] 4)) (RW.out.alloc _) (three_bools w4) (fun i _ => rfl))
  clear k0' k1' bb CU B3 N3 row m0 m1
  go_wp2_with fail
  refine SM.out.mono ?_
  rintro _ w5 ⟨rfl, qn, rfl⟩
  have h5 : H < w4.heap.size := by omega
  have B5 := Lib.hid (b_draws (B4.out.alloc B4.out.size (.cells #[.bool true, .bool true, .bool false] 4)) qn)
  have N5 := Lib.hid (N4.out.below (b_draws ((Below.refl w4.heap.size w4).alloc (Nat.le_refl _) (.cells #[.bool true, .bool true, .bool false] 4)) qn))
  have k0' : ((w4.alloc (.cells #[.bool true, .bool true, .bool false] 4)).drewN qn).cell? ⟨H, 0, none⟩ = some (.int .i64 3) := (World.cell?_alloc_some w4 _ _ (by rw [k0]; rfl)).trans k0
  have k1' : ((w4.alloc (.cells #[.bool true, .bool true, .bool false] 4)).drewN qn).cell? ⟨H, 1, none⟩ = some (.slice (some ⟨b, 0, none⟩) 2 2) := (World.cell?_alloc_some w4 _ _ (by rw [k1]; rfl)).trans k1
  clear k0 k1 n0 n1 RW SM B4 N4
  revert B5 N5 k0' k1'
  generalize ((w4.alloc (.cells #[.bool true, .bool true, .bool false] 4)).drewN qn) = w6
  intro B5 N5 k0' k1'
  have CK := Lib.hid (ex_chk (w6.alloc (.cells #[.int .i64 1, .int .i64 1] 3)) _ (some ⟨w6.heap.size, 0, none⟩) (N5.out.below ((Below.refl w6.heap.size w6).alloc (Nat.le_refl _) _)) (two_ones w6))
  have B6 := Lib.hid (B5.out.alloc B5.out.size (.cells #[.int .i64 1, .int .i64 1] 3))
  go_wp2_with fail
  refine CK.out.mono ?_
  rintro _ w7 ⟨rfl, bb⟩
  have B7 := Lib.hid (B6.out.trans (bb.mono B6.out.size))
  have VA := Lib.hid (ex_val w7)
  clear bb CK B6 B5 N5 k0' k1'
  go_wp2_with fail
  refine VA.out.mono ?_
  rintro _ w8 ⟨rfl, bb⟩
  have B8 := Lib.hid (B7.out.trans (bb.mono B7.out.size))
  clear bb VA B7
  go_wp2_with fail
  go_ret
  exact ⟨rfl, B8.out⟩
end Go.Proofs.Ytjkempammohkaaa
