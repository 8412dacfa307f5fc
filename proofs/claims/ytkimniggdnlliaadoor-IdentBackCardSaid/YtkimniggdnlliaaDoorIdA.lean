/-
  What the small functions of the package ident and of its reference return, for every input; each leaves the memory as it was.
-/
import Derived.Test.YtkimniggdnlliaaDoorRows
import Derived.Test.YtkimniggdnlliaaDoorIdPlain
import Derived.WalkKit
import Derived.WalkSpells
import Derived.WalkLawsBesides
import Derived.Lib.Hide
import Derived.Deep.QuietTactic
import Derived.BigQuiet
namespace Go.Proofs.YtkimniggdnlliaaDoor
open Go.RowKit
open Plain

theorem ret_int {k : IntKind} {a b : Int} (h : a = b) : Ending.returned (.int k a) = .returned (.int k b) := by rw [h]
theorem ret_bool {a b : Bool} (h : a = b) : Ending.returned (.bool a) = .returned (.bool b) := by rw [h]

set_option maxHeartbeats 400000 in
theorem value_any (n : Nat) (w : World) (hn : n ≤ 2147483647) :
    Calls Tryd.prog 59 #[.int .i32 n] w fun e w' => e = .returned (.int .i64 (val n)) ∧ w = w' := by
  by_cases h1 : 48 ≤ n ∧ n ≤ 57
  · obtain ⟨a, b⟩ := h1
    have hv : val n = (n : Int) - 48 := by unfold val; rw [if_pos ⟨a, b⟩]
    have Hv := Lib.hid hv; clear hv
    go_enter Tryd.func59, Tryd.ntmps59
    go_wp2
    go_ret
    exact ⟨ret_int Hv.out.symm, rfl⟩
  · by_cases h2 : 65 ≤ n ∧ n ≤ 90
    · obtain ⟨a, b⟩ := h2
      have hv : val n = (n : Int) - 55 := by unfold val; rw [if_neg h1, if_pos ⟨a, b⟩]
      have Hv := Lib.hid hv; clear hv h1
      go_enter Tryd.func59, Tryd.ntmps59
      go_wp2
      go_ret
      exact ⟨ret_int (by rw [Hv.out]; omega), rfl⟩
    · by_cases h3 : 97 ≤ n ∧ n ≤ 122
      · obtain ⟨a, b⟩ := h3
        have hv : val n = (n : Int) - 87 := by unfold val; rw [if_neg h1, if_neg h2, if_pos ⟨a, b⟩]
        have Hv := Lib.hid hv; clear hv h1 h2
        go_enter Tryd.func59, Tryd.ntmps59
        go_wp2
        go_ret
        exact ⟨ret_int (by rw [Hv.out]; omega), rfl⟩
      · have hv : val n = -1 := by unfold val; rw [if_neg h1, if_neg h2, if_neg h3]
        have Hv := Lib.hid hv; clear hv
        go_enter Tryd.func59, Tryd.ntmps59
        go_wp2
        all_goals first | omega | (go_ret; exact ⟨ret_int Hv.out.symm, rfl⟩)

set_option maxHeartbeats 400000 in
theorem letterOrDigit_any (n : Nat) (w : World) (hn : n ≤ 2147483647) :
    Calls Tryd.prog 32 #[.int .i32 n] w fun e w' => e = .returned (.bool (atLeast 0 n)) ∧ w = w' := by
  go_enter Tryd.func32, Tryd.ntmps32
  go_wp2_with (go_at_call 59; refine (value_any _ _ hn).mono ?_; rintro e w' ⟨rfl, rfl⟩)
  go_ret
  exact ⟨rfl, rfl⟩

set_option maxHeartbeats 400000 in
theorem letter_any (n : Nat) (w : World) (hn : n ≤ 2147483647) :
    Calls Tryd.prog 31 #[.int .i32 n] w fun e w' => e = .returned (.bool (atLeast 10 n)) ∧ w = w' := by
  go_enter Tryd.func31, Tryd.ntmps31
  go_wp2_with (go_at_call 59; refine (value_any _ _ hn).mono ?_; rintro e w' ⟨rfl, rfl⟩)
  go_ret
  exact ⟨rfl, rfl⟩

theorem perm_of (n : Nat) (h : n = 45 ∨ n = 95 ∨ n = 46 ∨ n = 58 ∨ n = 42) : perm n = true := by unfold perm; simp; omega
theorem perm_else (n : Nat) (h : ¬ (n = 45 ∨ n = 95 ∨ n = 46 ∨ n = 58 ∨ n = 42)) : perm n = atLeast 0 n := by
  unfold perm atLeast; rw [Bool.eq_iff_iff]; simp; omega

set_option maxHeartbeats 400000 in
theorem permitted_any (n : Nat) (w : World) (hn : n ≤ 2147483647) :
    Calls Tryd.prog 42 #[.int .i32 n] w fun e w' => e = .returned (.bool (perm n)) ∧ w = w' := by
  by_cases h : n = 45 ∨ n = 95 ∨ n = 46 ∨ n = 58 ∨ n = 42
  · have hp := perm_of n h
    have Hp := Lib.hid hp; clear hp
    rcases h with rfl | rfl | rfl | rfl | rfl
    all_goals
      go_enter Tryd.func42, Tryd.ntmps42
      go_wp2
      go_ret
      exact ⟨ret_bool Hp.out.symm, rfl⟩
  · have hp := perm_else n h
    have Hp := Lib.hid hp; clear hp
    have h1 : ((n : Int) == 45) = false := by simp; omega
    have h2 : ((n : Int) == 95) = false := by simp; omega
    have h3 : ((n : Int) == 46) = false := by simp; omega
    have h4 : ((n : Int) == 58) = false := by simp; omega
    have h5 : ((n : Int) == 42) = false := by simp; omega
    clear h
    go_enter Tryd.func42, Tryd.ntmps42
    go_wp2_with (go_at_call 32; refine (letterOrDigit_any _ _ hn).mono ?_; rintro e w' ⟨rfl, rfl⟩)
    go_ret
    exact ⟨ret_bool Hp.out.symm, rfl⟩

end Go.Proofs.YtkimniggdnlliaaDoor
