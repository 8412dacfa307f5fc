/-
  The error of a network in the reference; small functions of the reference.
-/
import Derived.Test.YtjkempammohkaaaFlL
namespace Go.Proofs.Ytjkempammohkaaa
open Go.RowKit
open IntWalk
open Fl
set_option linter.unusedVariables false

theorem acE_f0 {N x y z : Int} (h : x < 0 ∨ N ≤ x) : acE N ⟨x, y, z⟩ = 2 := by
  unfold acE; rw [if_neg]; rw [isnB_true, isnB_true]; simp only; omega
theorem acE_t0 {N x y z : Int} (h : y < 0 ∨ N ≤ y) : acE N ⟨x, y, z⟩ = 2 := by
  unfold acE; rw [if_neg]; rw [isnB_true, isnB_true]; simp only; omega
theorem acE_in {N x y z : Int} (h1 : 0 ≤ x) (h2 : x < N) (h3 : 0 ≤ y) (h4 : y < N) : acE N ⟨x, y, z⟩ = if x = y then 1 else if 0 ≤ z ∧ z ≤ 1099511627776 then 0 else 2 := by
  unfold acE; rw [if_pos]; rw [isnB_true, isnB_true]; exact ⟨⟨h1, h2⟩, h3, h4⟩

set_option maxHeartbeats 8000000 in
set_option maxRecDepth 100000 in
theorem rvalid_run (N : Int) (l : List Ac) (p : Option Addr) (c : Nat) (w : World) (hl : l.length ≤ 100000) (hA : NetAt w p l) :
    Calls Try.prog 13 #[.agg #[.int .i64 N, .slice p l.length c]] w fun e w' => e = .returned (.int .i64 (valE N l)) ∧ Below w.heap.size w w' := by
  have HA := Lib.hid hA
  clear hA
  by_cases h1 : N < 2
  · have HV : Hid (valE N l = 2) := Lib.hid (if_pos h1)
    go_enter Try.func13, Try.ntmps13
    go_wp2_with fail
    go_ret
    exact ⟨ret_int HV.out.symm, (Below.refl _ _).alloc (Nat.le_refl _) _⟩
  by_cases h2 : 256 < N
  · have HV : Hid (valE N l = 3) := Lib.hid (by unfold valE; rw [if_neg h1, if_pos (.inl h2)])
    go_enter Try.func13, Try.ntmps13
    go_wp2_with fail
    go_ret
    exact ⟨ret_int HV.out.symm, (Below.refl _ _).alloc (Nat.le_refl _) _⟩
  by_cases h3 : 2048 < l.length
  · have HV : Hid (valE N l = 3) := Lib.hid (by unfold valE; rw [if_neg h1, if_pos (.inr h3)])
    go_enter Try.func13, Try.ntmps13
    go_wp2_with fail
    go_ret
    exact ⟨ret_int HV.out.symm, (Below.refl _ _).alloc (Nat.le_refl _) _⟩
  have HV : Hid (valE N l = acsE N l) := Lib.hid (by unfold valE; rw [if_neg h1, if_neg (by omega)])
  go_enter Try.func13, Try.ntmps13
  go_wp2_with fail
  go_loopw [3] (fun i wr => VdHd w N p c l i wr) (fun i _ => l.length - (intOf i).toNat)
  case atStart => exact ⟨0, rfl, Nat.zero_le _, rfl, (Below.refl _ _).alloc (Nat.le_refl _) _, by simp, by simp, by simp⟩
  case round =>
    obtain ⟨k, rfl, hk, he, hb, hz, c0, c1⟩ := hrel
    have HE := Lib.hid he
    have B1 := Lib.hid hb
    clear he hb
    by_cases hlt : k < l.length
    · obtain ⟨ba, oa, rfl, hba, hca⟩ := HA.out (by intro e; rw [e] at hlt; simp at hlt)
      obtain ⟨q1, q2, q3⟩ := hca k hlt
      have d1 : wr.cell? ⟨ba, oa + k * 3, none⟩ = _ := (B1.out.cell (p := ⟨ba, _, none⟩) hba).trans q1
      have d2 : wr.cell? ⟨ba, oa + k * 3 + 1, none⟩ = _ := (B1.out.cell (p := ⟨ba, _, none⟩) hba).trans q2
      have d3 : wr.cell? ⟨ba, oa + k * 3 + 2, none⟩ = _ := (B1.out.cell (p := ⟨ba, _, none⟩) hba).trans q3
      clear hca q1 q2 q3
      have HD := Lib.hid (acsE_drop (N := N) hlt)
      have HX := Lib.hid (fun (h : acE N (l[k]'hlt) = 0) (w' : World) (hb : Below wr.heap.size wr w') => VdHd.next (p := some ⟨ba, oa, none⟩) (c := c) hlt HE.out h B1.out hz c0 c1 hb)
      obtain ⟨a, hae⟩ : ∃ a, a = l[k]'hlt := ⟨_, rfl⟩
      rw [← hae] at d1 d2 d3 HD HX
      clear hae
      obtain ⟨x, y, z⟩ := a
      simp only at d1 d2 d3
      have BAD : Hid (∀ r : Int, r ≠ 0 → acE N ⟨x, y, z⟩ = r → valE N l = r) := Lib.hid (fun r h1 h2 => by rw [HV.out, HE.out, HD.out, h2, if_neg h1])
      have BB : Hid (Below w.heap.size w (wr.alloc (.cells #[.int .i64 x, .int .i64 y, .int .i64 z] 50))) := Lib.hid (B1.out.alloc (by omega) _)
      rcases (by omega : x < 0 ∨ (0 ≤ x ∧ N ≤ x) ∨ (0 ≤ x ∧ x < N)) with g1 | ⟨g0, g1⟩ | ⟨g0, g1⟩
      · have HR := Lib.hid (BAD.out 2 (by decide) (acE_f0 (.inl g1)))
        go_wp2_with fail
        go_ret
        exact ⟨ret_int HR.out.symm, BB.out⟩
      · have HR := Lib.hid (BAD.out 2 (by decide) (acE_f0 (.inr g1)))
        go_wp2_with fail
        go_ret
        exact ⟨ret_int HR.out.symm, BB.out⟩
      · rcases (by omega : y < 0 ∨ (0 ≤ y ∧ N ≤ y) ∨ (0 ≤ y ∧ y < N)) with j1 | ⟨j0, j1⟩ | ⟨j0, j1⟩
        · have HR := Lib.hid (BAD.out 2 (by decide) (acE_t0 (.inl j1)))
          go_wp2_with fail
          go_ret
          exact ⟨ret_int HR.out.symm, BB.out⟩
        · have HR := Lib.hid (BAD.out 2 (by decide) (acE_t0 (.inr j1)))
          go_wp2_with fail
          go_ret
          exact ⟨ret_int HR.out.symm, BB.out⟩
        · have HI := Lib.hid (acE_in (z := z) g0 g1 j0 j1)
          by_cases e3 : x = y
          · have HR := Lib.hid (BAD.out 1 (by decide) (by rw [HI.out, if_pos e3]))
            subst e3
            go_wp2_with fail
            go_ret
            exact ⟨ret_int HR.out.symm, BB.out⟩
          · have e4 : (x == y) = false := by simpa using e3
            rcases (by omega : z < 0 ∨ (0 ≤ z ∧ 1099511627776 < z) ∨ (0 ≤ z ∧ z ≤ 1099511627776)) with g | ⟨g, g2⟩ | ⟨g, g2⟩
            · have HR := Lib.hid (BAD.out 2 (by decide) (by rw [HI.out, if_neg e3, if_neg (by omega)]))
              clear e3
              go_wp2_with fail
              go_ret
              exact ⟨ret_int HR.out.symm, BB.out⟩
            · have HR := Lib.hid (BAD.out 2 (by decide) (by rw [HI.out, if_neg e3, if_neg (by omega)]))
              clear e3
              go_wp2_with fail
              go_ret
              exact ⟨ret_int HR.out.symm, BB.out⟩
            · have HR : Hid (acE N ⟨x, y, z⟩ = 0) := Lib.hid (by rw [HI.out, if_neg e3, if_pos ⟨g, g2⟩])
              clear e3
              go_wp2_with fail
              go_roundw
              case rel => exact HX.out HR.out _ ((Below.refl _ _).alloc (Nat.le_refl _) _)
              case measure => simp [intOf]; omega
    · obtain rfl : k = l.length := by omega
      go_wp2_with fail
      go_ret
      exact ⟨ret_int (by rw [HV.out, HE.out, List.drop_length]; rfl), B1.out⟩

set_option maxHeartbeats 4000000 in
set_option maxRecDepth 100000 in
theorem ends_run (N : Int) (l : List Ac) (p : Option Addr) (c : Nat) (s t : Int) (w : World) (hl : l.length ≤ 100000) (hA : NetAt w p l) :
    Calls Try.prog 16 #[.agg #[.int .i64 N, .slice p l.length c], .int .i64 s, .int .i64 t] w fun e w' => e = .returned (.int .i64 (endE N l s t)) ∧ Below w.heap.size w w' := by
  have V := Lib.hid (rvalid_run N l p c (w.alloc (.cells #[.int .i64 N, .slice p l.length c] 24)) hl (hA.below ((Below.refl _ _).alloc (Nat.le_refl _) _)))
  have B0 := Lib.hid ((Below.refl w.heap.size w).alloc (Nat.le_refl _) (.cells #[.int .i64 N, .slice p l.length c] 24))
  clear hA
  by_cases hv : valE N l = 0
  · have hE : endE N l s t = if (0 ≤ s ∧ s < N) ∧ (0 ≤ t ∧ t < N) ∧ s ≠ t then 0 else 2 := by
      unfold endE
      rw [if_pos hv]
      by_cases c : (0 ≤ s ∧ s < N) ∧ (0 ≤ t ∧ t < N) ∧ s ≠ t
      · rw [if_pos c, if_pos ⟨isnB_true.2 c.1, isnB_true.2 c.2.1, c.2.2⟩]
      · rw [if_neg c, if_neg (fun d => c ⟨isnB_true.1 d.1, isnB_true.1 d.2.1, d.2.2⟩)]
    have HE := Lib.hid hE
    clear hE
    rw [hv] at V
    clear hv
    have key : ∀ r : Int, (if (0 ≤ s ∧ s < N) ∧ (0 ≤ t ∧ t < N) ∧ s ≠ t then (0 : Int) else 2) = r → endE N l s t = r := fun r h => by rw [HE.out, h]
    have KEY := Lib.hid key
    clear key
    go_enter Try.func16, Try.ntmps16
    go_wp2_with fail
    refine V.out.mono ?_
    rintro _ w1 ⟨rfl, b1⟩
    obtain ⟨hc, hf⟩ := bcell b1
    have k0 : w1.cell? ⟨w.heap.size, 0, none⟩ = some (.int .i64 N) := by rw [hc _ _ (by simp)]; simp
    have k1 : w1.cell? ⟨w.heap.size, 1, none⟩ = some (.slice p l.length c) := by rw [hc _ _ (by simp)]; simp
    have B1 := Lib.hid (B0.out.trans (b1.mono (by simp)))
    clear hc hf b1
    rcases (by omega : s < 0 ∨ (0 ≤ s ∧ N ≤ s) ∨ (0 ≤ s ∧ s < N)) with g1 | ⟨g0, g1⟩ | ⟨g0, g1⟩
    · have HR := Lib.hid (KEY.out 2 (if_neg (by omega)))
      go_wp2_with fail
      go_ret
      exact ⟨ret_int HR.out.symm, B1.out⟩
    · have HR := Lib.hid (KEY.out 2 (if_neg (by omega)))
      go_wp2_with fail
      go_ret
      exact ⟨ret_int HR.out.symm, B1.out⟩
    · rcases (by omega : t < 0 ∨ (0 ≤ t ∧ N ≤ t) ∨ (0 ≤ t ∧ t < N)) with j1 | ⟨j0, j1⟩ | ⟨j0, j1⟩
      · have HR := Lib.hid (KEY.out 2 (if_neg (by omega)))
        go_wp2_with fail
        go_ret
        exact ⟨ret_int HR.out.symm, B1.out⟩
      · have HR := Lib.hid (KEY.out 2 (if_neg (by omega)))
        go_wp2_with fail
        go_ret
        exact ⟨ret_int HR.out.symm, B1.out⟩
      · by_cases e3 : s = t
        · have HR := Lib.hid (KEY.out 2 (if_neg (by omega)))
          subst e3
          go_wp2_with fail
          go_ret
          exact ⟨ret_int HR.out.symm, B1.out⟩
        · have e4 : (s == t) = false := by simpa using e3
          have HR := Lib.hid (KEY.out 0 (if_pos ⟨⟨g0, g1⟩, ⟨j0, j1⟩, e3⟩))
          clear e3
          go_wp2_with fail
          go_ret
          exact ⟨ret_int HR.out.symm, B1.out⟩
  · have HR : Hid (endE N l s t = valE N l) := Lib.hid (if_neg hv)
    have hv1 : (valE N l == 0) = false := by simpa using hv
    have hv2 : (valE N l != 0) = true := by simpa using hv
    obtain ⟨x, hx⟩ : ∃ x, x = valE N l := ⟨_, rfl⟩
    rw [← hx] at V HR hv1 hv2
    clear hv hx
    go_enter Try.func16, Try.ntmps16
    go_wp2_with fail
    refine V.out.mono ?_
    rintro _ w1 ⟨rfl, b1⟩
    have B1 := Lib.hid (B0.out.trans (b1.mono (by simp)))
    clear b1
    go_wp2_with fail
    go_ret
    exact ⟨ret_int (by rw [HR.out]), B1.out⟩
def smlB (N : Int) (n a b : Nat) : Bool := decide (N ≤ a) && decide (n ≤ b)
theorem small_run (N : Int) (n : Nat) (p : Option Addr) (c a b : Nat) (x : Bool) (hx : smlB N n a b = x) (w : World) (hn : n ≤ 9223372036854775807) :
    Calls Try.prog 14 #[.agg #[.int .i64 N, .slice p n c], .int .i64 (a : Int), .int .i64 (b : Int)] w fun e w' => e = .returned (.bool x) ∧ Below w.heap.size w w' := by
  by_cases h1 : N ≤ a
  · by_cases h2 : n ≤ b
    · obtain rfl : x = true := by rw [← hx]; simp [smlB, h1, h2]
      clear hx
      have h3 : decide ((n : Int) ≤ (b : Int)) = true := by simpa using h2
      go_enter Try.func14, Try.ntmps14
      go_wp2_with fail
      go_ret
      exact ⟨rfl, (Below.refl _ _).alloc (Nat.le_refl _) _⟩
    · obtain rfl : x = false := by rw [← hx]; simp [smlB, h2]
      clear hx
      have h3 : decide ((n : Int) ≤ (b : Int)) = false := by simpa using h2
      have h4 : decide (n ≤ b) = false := by simpa using h2
      go_enter Try.func14, Try.ntmps14
      go_wp2_with fail
      go_ret
      exact ⟨rfl, (Below.refl _ _).alloc (Nat.le_refl _) _⟩
  · obtain rfl : x = false := by rw [← hx]; simp [smlB, h1]
    clear hx
    go_enter Try.func14, Try.ntmps14
    go_wp2_with fail
    go_ret
    exact ⟨rfl, (Below.refl _ _).alloc (Nat.le_refl _) _⟩
end Go.Proofs.Ytjkempammohkaaa
