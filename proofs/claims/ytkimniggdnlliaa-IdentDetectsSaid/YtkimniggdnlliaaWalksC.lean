/-
  What Valid, Sum, Check and consists return, in the package ident and in its reference.
-/
import Derived.Test.YtkimniggdnlliaaWalksB
namespace Go.Proofs.Ytkimniggdnlliaa
open Go.RowKit
open Plain

theorem valid_out (s : ByteArray) (h : s.size < 1 ∨ 36 < s.size) : validL s.data.toList = false := by
  unfold validL; rw [size_list]
  rcases h with h | h
  · rw [decide_eq_false (by omega)]; rfl
  · rw [decide_eq_false (p := s.size ≤ 36) (by omega)]; simp
theorem valid_in (s : ByteArray) (h1 : 1 ≤ s.size) (h2 : s.size ≤ 36) : validL s.data.toList = allOk perm s.data.toList := by
  unfold validL; rw [size_list, decide_eq_true h1, decide_eq_true h2]; rfl

set_option maxHeartbeats 400000 in
theorem valid_any (s : ByteArray) (w : World) (hs : s.size ≤ maxLen) :
    Calls Try.prog 10 #[.string s] w fun e w' => e = .returned (.bool (validL s.data.toList)) ∧ Below w.heap.size w w' := by
  have hs' := hs
  unfold maxLen at hs'
  by_cases h1 : 1 ≤ s.size
  · by_cases h2 : s.size ≤ 36
    · have Hv := Lib.hid (valid_in s h1 h2)
      go_enter Try.func10, Try.ntmps10
      go_wp2_with (go_at_call 20; refine (consists_permitted _ _ hs).mono ?_; rintro e w' ⟨rfl, hb⟩)
      go_ret
      exact ⟨ret_bool Hv.out.symm, hb⟩
    · have Hv := Lib.hid (valid_out s (by omega))
      go_enter Try.func10, Try.ntmps10
      go_wp2_with fail
      go_ret
      exact ⟨ret_bool Hv.out.symm, Below.refl _ _⟩
  · have Hv := Lib.hid (valid_out s (by omega))
    go_enter Try.func10, Try.ntmps10
    go_wp2_with fail
    go_ret
    exact ⟨ret_bool Hv.out.symm, Below.refl _ _⟩

theorem perm_cases (c : Nat) (h : perm c = true) : 0 ≤ val c ∨ (val c < 0 ∧ c = 45) ∨ (val c < 0 ∧ c = 95) ∨ (val c < 0 ∧ c = 46) ∨ (val c < 0 ∧ c = 58) ∨ (val c < 0 ∧ c = 42) := by
  unfold perm at h; simp at h; omega
theorem perm_not (c : Nat) (h : perm c = false) : val c < 0 ∧ c ≠ 45 ∧ c ≠ 95 ∧ c ≠ 46 ∧ c ≠ 58 ∧ c ≠ 42 := by
  unfold perm at h; simp at h; omega
theorem ne_t (c : Nat) (x : Int) (h : (c : Int) ≠ x) : ((c : Int) != x) = true := by rw [bne_iff_ne]; exact h
theorem ne_f (c : Nat) (x : Int) (h : (c : Int) = x) : ((c : Int) != x) = false := by rw [h]; simp

set_option maxHeartbeats 1000000 in
theorem refValid_any (s : ByteArray) (w : World) (hs : s.size ≤ maxLen) :
    Calls Try.prog 11 #[.string s] w fun e w' => e = .returned (.bool (validL s.data.toList)) ∧ ∃ q, w' = w.drewN q := by
  unfold maxLen at hs
  by_cases h1 : 1 ≤ s.size
  · by_cases h2 : s.size ≤ 36
    · have Hv := Lib.hid (valid_in s h1 h2)
      go_enter Try.func11, Try.ntmps11
      go_wp2_with fail
      go_loopw [3] (fun i wr => ∃ k q : Nat, k ≤ s.size ∧ i = .int .i64 k ∧ wr = w.drewN q ∧ ∀ j (hj : j < s.size), j < k → perm (s[j]'hj).toNat = true) (fun i _ => s.size - (intOf i).toNat)
      case atStart => exact ⟨0, 0, by omega, rfl, rfl, fun j _ hj => by omega⟩
      case round =>
        obtain ⟨k, q, hk, rfl, rfl, hall⟩ := hrel
        have Hall := Lib.hid hall; clear hall
        by_cases hlt : k < s.size
        · have hc := (s[k]'hlt).toNat_lt
          by_cases hp : perm (s[k]'hlt).toNat = true
          · have Hp := Lib.hid hp
            rcases perm_cases _ hp with h | ⟨h, e⟩ | ⟨h, e⟩ | ⟨h, e⟩ | ⟨h, e⟩ | ⟨h, e⟩
            · clear hp
              go_wp2_with (go_at_call 22; refine (refValue_any _ _ hc).mono ?_; rintro e w' ⟨rfl, q2, rfl⟩)
              go_roundw
              case rel => exact ⟨k + 1, _, by omega, by go_num, rfl, fun j hj hlt => by
                by_cases e : j = k
                · subst e; exact Hp.out
                · exact Hall.out j hj (by omega)⟩
              case measure => simp [intOf]; omega
            · clear hp
              have b0 := ne_f (s[k]'hlt).toNat 45 (by omega)
              clear e
              go_wp2_with (go_at_call 22; refine (refValue_any _ _ hc).mono ?_; rintro e w' ⟨rfl, q2, rfl⟩)
              go_roundw
              case rel => exact ⟨k + 1, _, by omega, by go_num, rfl, fun j hj hlt => by
                by_cases e : j = k
                · subst e; exact Hp.out
                · exact Hall.out j hj (by omega)⟩
              case measure => simp [intOf]; omega
            · clear hp
              have b0 := ne_t (s[k]'hlt).toNat 45 (by omega)
              have b1 := ne_f (s[k]'hlt).toNat 95 (by omega)
              clear e
              go_wp2_with (go_at_call 22; refine (refValue_any _ _ hc).mono ?_; rintro e w' ⟨rfl, q2, rfl⟩)
              go_roundw
              case rel => exact ⟨k + 1, _, by omega, by go_num, rfl, fun j hj hlt => by
                by_cases e : j = k
                · subst e; exact Hp.out
                · exact Hall.out j hj (by omega)⟩
              case measure => simp [intOf]; omega
            · clear hp
              have b0 := ne_t (s[k]'hlt).toNat 45 (by omega)
              have b1 := ne_t (s[k]'hlt).toNat 95 (by omega)
              have b2 := ne_f (s[k]'hlt).toNat 46 (by omega)
              clear e
              go_wp2_with (go_at_call 22; refine (refValue_any _ _ hc).mono ?_; rintro e w' ⟨rfl, q2, rfl⟩)
              go_roundw
              case rel => exact ⟨k + 1, _, by omega, by go_num, rfl, fun j hj hlt => by
                by_cases e : j = k
                · subst e; exact Hp.out
                · exact Hall.out j hj (by omega)⟩
              case measure => simp [intOf]; omega
            · clear hp
              have b0 := ne_t (s[k]'hlt).toNat 45 (by omega)
              have b1 := ne_t (s[k]'hlt).toNat 95 (by omega)
              have b2 := ne_t (s[k]'hlt).toNat 46 (by omega)
              have b3 := ne_f (s[k]'hlt).toNat 58 (by omega)
              clear e
              go_wp2_with (go_at_call 22; refine (refValue_any _ _ hc).mono ?_; rintro e w' ⟨rfl, q2, rfl⟩)
              go_roundw
              case rel => exact ⟨k + 1, _, by omega, by go_num, rfl, fun j hj hlt => by
                by_cases e : j = k
                · subst e; exact Hp.out
                · exact Hall.out j hj (by omega)⟩
              case measure => simp [intOf]; omega
            · clear hp
              have b0 := ne_t (s[k]'hlt).toNat 45 (by omega)
              have b1 := ne_t (s[k]'hlt).toNat 95 (by omega)
              have b2 := ne_t (s[k]'hlt).toNat 46 (by omega)
              have b3 := ne_t (s[k]'hlt).toNat 58 (by omega)
              have b4 := ne_f (s[k]'hlt).toNat 42 (by omega)
              clear e
              go_wp2_with (go_at_call 22; refine (refValue_any _ _ hc).mono ?_; rintro e w' ⟨rfl, q2, rfl⟩)
              go_roundw
              case rel => exact ⟨k + 1, _, by omega, by go_num, rfl, fun j hj hlt => by
                by_cases e : j = k
                · subst e; exact Hp.out
                · exact Hall.out j hj (by omega)⟩
              case measure => simp [intOf]; omega
          · have hf := Bool.eq_false_iff.2 hp
            obtain ⟨h, e0, e1, e2, e3, e4⟩ := perm_not _ hf
            have b0 := ne_t (s[k]'hlt).toNat 45 (by omega)
            have b1 := ne_t (s[k]'hlt).toNat 95 (by omega)
            have b2 := ne_t (s[k]'hlt).toNat 46 (by omega)
            have b3 := ne_t (s[k]'hlt).toNat 58 (by omega)
            have b4 := ne_t (s[k]'hlt).toNat 42 (by omega)
            have Hf := Lib.hid (allOk_false perm s k hlt hf)
            clear hp hf e0 e1 e2 e3 e4
            go_wp2_with (go_at_call 22; refine (refValue_any _ _ hc).mono ?_; rintro e w' ⟨rfl, q2, rfl⟩)
            go_ret
            exact ⟨ret_bool (by rw [Hv.out, Hf.out]), q + q2, rfl⟩
        · have Ha := Lib.hid (allOk_true perm s (fun j hj => Hall.out j hj (by omega)))
          go_wp2_with fail
          go_ret
          exact ⟨ret_bool (by rw [Hv.out, Ha.out]), q, rfl⟩
    · have Hv := Lib.hid (valid_out s (by omega))
      go_enter Try.func11, Try.ntmps11
      go_wp2_with fail
      go_ret
      exact ⟨ret_bool Hv.out.symm, 0, rfl⟩
  · have Hv := Lib.hid (valid_out s (by omega))
    go_enter Try.func11, Try.ntmps11
    go_wp2_with fail
    go_ret
    exact ⟨ret_bool Hv.out.symm, 0, rfl⟩

theorem atLeast_lt (low : Int) (c : Nat) : atLeast low c = decide (low ≤ val c) := rfl

set_option maxHeartbeats 1000000 in
theorem refConsists_any (s : ByteArray) (n low : Int) (w : World) (hs : s.size ≤ maxLen) (hn : 0 ≤ n) :
    Calls Try.prog 28 #[.string s, .int .i64 n, .int .i64 low] w fun e w' => e = .returned (.bool (decide ((s.size : Int) = n) && allOk (atLeast low) s.data.toList)) ∧ ∃ q, w' = w.drewN q := by
  unfold maxLen at hs
  by_cases h1 : (s.size : Int) = n
  · subst h1
    have Hv : Hid ((decide ((s.size : Int) = (s.size : Int)) && allOk (atLeast low) s.data.toList) = allOk (atLeast low) s.data.toList) := Lib.hid (by simp)
    go_enter Try.func28, Try.ntmps28
    go_wp2_with fail
    go_loopw [7] (fun i wr => ∃ k q : Nat, k ≤ s.size ∧ i = .int .i64 k ∧ wr = w.drewN q ∧ ∀ j (hj : j < s.size), j < k → atLeast low (s[j]'hj).toNat = true) (fun i _ => s.size - (intOf i).toNat)
    case atStart => exact ⟨0, 0, by omega, rfl, rfl, fun j _ hj => by omega⟩
    case round =>
      obtain ⟨k, q, hk, rfl, rfl, hall⟩ := hrel
      have Hall := Lib.hid hall; clear hall
      by_cases hlt : k < s.size
      · have hc := (s[k]'hlt).toNat_lt
        by_cases hp : low ≤ val (s[k]'hlt).toNat
        · have Hp := Lib.hid (show atLeast low (s[k]'hlt).toNat = true from decide_eq_true hp)
          go_wp2_with (go_at_call 22; refine (refValue_any _ _ hc).mono ?_; rintro e w' ⟨rfl, q2, rfl⟩)
          go_roundw
          case rel => exact ⟨k + 1, _, by omega, by go_num, rfl, fun j hj hlt => by
            by_cases e : j = k
            · subst e; exact Hp.out
            · exact Hall.out j hj (by omega)⟩
          case measure => simp [intOf]; omega
        · have Hf := Lib.hid (allOk_false (atLeast low) s k hlt (decide_eq_false hp))
          have hp' : val (s[k]'hlt).toNat < low := by omega
          clear hp
          go_wp2_with (go_at_call 22; refine (refValue_any _ _ hc).mono ?_; rintro e w' ⟨rfl, q2, rfl⟩)
          go_ret
          exact ⟨ret_bool (by rw [Hf.out]; simp), q + q2, rfl⟩
      · have Ha := Lib.hid (allOk_true (atLeast low) s (fun j hj => Hall.out j hj (by omega)))
        go_wp2_with fail
        go_ret
        exact ⟨ret_bool (by rw [Ha.out]; simp), q, rfl⟩
  · have hb : ((s.size : Int) != n) = true := by rw [bne_iff_ne]; exact h1
    have Hv : Hid ((decide ((s.size : Int) = n) && allOk (atLeast low) s.data.toList) = false) := Lib.hid (by simp [h1])
    clear h1
    go_enter Try.func28, Try.ntmps28
    go_wp2_with fail
    go_ret
    exact ⟨ret_bool Hv.out.symm, 0, rfl⟩
end Go.Proofs.Ytkimniggdnlliaa
