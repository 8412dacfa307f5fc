/-
  What Valid, Sum, Check and consists return, in the package ident and in its reference.
-/
import Derived.Test.YtkimniggdnlliaaDoorIdB
namespace Go.Proofs.YtkimniggdnlliaaDoor
open Go.RowKit
open Plain

theorem valid_out (s : ByteArray) (h : s.size < 1 ∨ 36 < s.size) : validL s.data.toList = false := by
  unfold validL; rw [size_list]
  rcases h with h | h
  · rw [decide_eq_false (by omega)]; rfl
  · rw [decide_eq_false (p := s.size ≤ 36) (by omega)]; simp
theorem valid_in (s : ByteArray) (h1 : 1 ≤ s.size) (h2 : s.size ≤ 36) : validL s.data.toList = allOk perm s.data.toList := by
  unfold validL; rw [size_list, decide_eq_true h1, decide_eq_true h2]; rfl

set_option maxHeartbeats 400000 in
theorem valid_any (s : ByteArray) (w : World) (hs : s.size ≤ maxLen) :
    Calls Tryd.prog 14 #[.string s] w fun e w' => e = .returned (.bool (validL s.data.toList)) ∧ Below w.heap.size w w' := by
  have hs' := hs
  unfold maxLen at hs'
  by_cases h1 : 1 ≤ s.size
  · by_cases h2 : s.size ≤ 36
    · have Hv := Lib.hid (valid_in s h1 h2)
      go_enter Tryd.func14, Tryd.ntmps14
      go_wp2_with (go_at_call 30; refine (consists_permitted _ _ hs).mono ?_; rintro e w' ⟨rfl, hb⟩)
      go_ret
      exact ⟨ret_bool Hv.out.symm, hb⟩
    · have Hv := Lib.hid (valid_out s (by omega))
      go_enter Tryd.func14, Tryd.ntmps14
      go_wp2_with fail
      go_ret
      exact ⟨ret_bool Hv.out.symm, Below.refl _ _⟩
  · have Hv := Lib.hid (valid_out s (by omega))
    go_enter Tryd.func14, Tryd.ntmps14
    go_wp2_with fail
    go_ret
    exact ⟨ret_bool Hv.out.symm, Below.refl _ _⟩

theorem perm_cases (c : Nat) (h : perm c = true) : 0 ≤ val c ∨ (val c < 0 ∧ c = 45) ∨ (val c < 0 ∧ c = 95) ∨ (val c < 0 ∧ c = 46) ∨ (val c < 0 ∧ c = 58) ∨ (val c < 0 ∧ c = 42) := by
  unfold perm at h; simp at h; omega
theorem perm_not (c : Nat) (h : perm c = false) : val c < 0 ∧ c ≠ 45 ∧ c ≠ 95 ∧ c ≠ 46 ∧ c ≠ 58 ∧ c ≠ 42 := by
  unfold perm at h; simp at h; omega
theorem ne_t (c : Nat) (x : Int) (h : (c : Int) ≠ x) : ((c : Int) != x) = true := by rw [bne_iff_ne]; exact h
theorem ne_f (c : Nat) (x : Int) (h : (c : Int) = x) : ((c : Int) != x) = false := by rw [h]; simp

theorem atLeast_lt (low : Int) (c : Nat) : atLeast low c = decide (low ≤ val c) := rfl

end Go.Proofs.YtkimniggdnlliaaDoor
