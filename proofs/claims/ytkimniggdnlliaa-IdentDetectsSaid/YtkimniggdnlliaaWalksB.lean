/-
  What Value, consists and Valid return, in the package ident and in its reference: a string is an identifier just if it has 1 to 36 bytes, each permitted.
-/
import Derived.Test.YtkimniggdnlliaaWalksA
namespace Go.Proofs.Ytkimniggdnlliaa
open Go.RowKit
open Plain

def letters36 : ByteArray := ⟨#[48, 49, 50, 51, 52, 53, 54, 55, 56, 57, 65, 66, 67, 68, 69, 70, 71, 72, 73, 74, 75, 76, 77, 78, 79, 80, 81, 82, 83, 84, 85, 86, 87, 88, 89, 90]⟩
theorem fold_letters36 : (⟨#[48, 49, 50, 51, 52, 53, 54, 55, 56, 57, 65, 66, 67, 68, 69, 70, 71, 72, 73, 74, 75, 76, 77, 78, 79, 80, 81, 82, 83, 84, 85, 86, 87, 88, 89, 90]⟩ : ByteArray) = letters36 := rfl
theorem letters36_size : letters36.size = 36 := by decide +kernel
theorem letters36_at : ∀ k : Fin 36, (letters36[k.1]'(by rw [letters36_size]; exact k.2)).toNat = letterN k.1 := by decide +kernel
theorem run_index_letters36 {P : Program} (w : World) (t : TypeId) (k : IntKind) (i : Int) (h : P.underlying t = some .string) (h0 : 0 ≤ i) (h1 : i < 36) :
    (Instr.index t (.string letters36) (.int k i)).run P w = .ok (.int .u8 (letterN i.toNat : Nat)) w := by
  have hi : 0 ≤ i ∧ i < (letters36.size : Int) := by rw [letters36_size]; omega
  rw [run_index_string w t letters36 k i h, dif_pos hi]
  have e := letters36_at ⟨i.toNat, by omega⟩
  simp only at e
  rw [e]
attribute [local go_sem ↓] fold_letters36 run_index_letters36

theorem quiet_more {P : Program} {f : FuncId} {args : Array Value} {w : World} {a n : Nat} {v : Value}
    (h : Calls P f args (w.drewN (a + n)) fun e w' => e = .returned v ∧ w.drewN (a + n) = w') :
    Calls P f args (w.drewN (a + n)) fun e w'' => e = .returned v ∧ ∃ m, w'' = w.drewN (a + m) :=
  h.mono fun _ _ ⟨he, hm⟩ => ⟨he, n, hm.symm⟩

set_option maxHeartbeats 400000 in
theorem refValue_any (n : Nat) (w : World) (hn : n < 256) :
    Calls Try.prog 22 #[.int .u8 n] w fun e w' => e = .returned (.int .i64 (val n)) ∧ ∃ q, w' = w.drewN q := by
  go_enter Try.func22, Try.ntmps22
  go_wp2
  go_loopw [3] (fun i wr => ∃ k q : Nat, k ≤ 36 ∧ i = .int .i64 k ∧ wr = w.drewN q ∧ ∀ j, j < k → letterN j ≠ capN n) (fun i _ => 36 - (intOf i).toNat)
  case atStart => exact ⟨0, 0, by omega, rfl, rfl, fun j hj => by omega⟩
  case round =>
    obtain ⟨k, q, hk, rfl, rfl, hno⟩ := hrel
    have Hno := Lib.hid hno; clear hno
    by_cases hlt : k < 36
    · by_cases he : letterN k = capN n
      · have hb : (((letterN k : Nat) : Int) == ((capN n : Nat) : Int)) = true := by simp [he]
        have hv := val_letter n k hlt he
        have Hv := Lib.hid hv
        clear he hv
        go_wp2_with fail
        go_quiet ((go_at_call 31; exact quiet_more (capital_any _ _ hn)))
        go_wp2
        go_ret
        exact ⟨ret_int Hv.out.symm, q + nq, World.drewN_drewN ..⟩
      · have hb : (((letterN k : Nat) : Int) == ((capN n : Nat) : Int)) = false := by simp; omega
        have Hne := Lib.hid he
        clear he
        go_wp2_with fail
        go_quiet ((go_at_call 31; exact quiet_more (capital_any _ _ hn)))
        go_wp2
        go_roundw
        case rel => exact ⟨k + 1, _, by omega, by go_num, rfl, fun j hj => by
          by_cases e : j = k
          · subst e; exact Hne.out
          · exact Hno.out j (by omega)⟩
        case measure => simp [intOf]; omega
    · have hv : val n = -1 := by
        have hb := val_bd n
        by_cases h0 : val n = -1
        · exact h0
        · exfalso
          have := letter_val n (val n).toNat (by omega)
          exact Hno.out (val n).toNat (by omega) this
      have Hv := Lib.hid hv; clear hv
      go_wp2
      go_ret
      exact ⟨ret_int Hv.out.symm, _, rfl⟩

theorem perm_high (c : Nat) (h : 128 ≤ c) : perm c = false := by rw [perm_else c (by omega)]; unfold atLeast; rw [val_high c h]; decide
theorem at0_high (c : Nat) (h : 128 ≤ c) : atLeast 0 c = false := by unfold atLeast; rw [val_high c h]; decide
theorem at10_high (c : Nat) (h : 128 ≤ c) : atLeast 10 c = false := by unfold atLeast; rw [val_high c h]; decide

set_option maxRecDepth 100000 in
set_option maxHeartbeats 400000 in
theorem consists_permitted (s : ByteArray) (w : World) (hs : s.size ≤ maxLen) :
    Calls Try.prog 20 #[.string s, .func (.func 21) #[] #[]] w fun e w' => e = .returned (.bool (allOk (perm) s.data.toList)) ∧ Below w.heap.size w w' := by
  unfold maxLen at hs
  go_enter Try.func20, Try.ntmps20
  go_wp2
  go_loopw [6] (fun _ wr => ∃ (pos : Nat), wr = w.iter s pos ∧ pos ≤ s.size ∧ ∀ j (hj : j < s.size), j < pos → (perm) (s[j]'hj).toNat = true) (fun _ wr => s.size - wr.iterPos w.heap.size)
  case atStart => exact ⟨0, rfl, by omega, fun j _ hj => by omega⟩
  case round =>
    obtain ⟨pos, rfl, hle, hall⟩ := hrel
    have Hall := Lib.hid hall; clear hall
    by_cases hp : pos < s.size
    · have hd : ∃ r m : Nat, Utf8.decode s pos = (r, m) ∧ 1 ≤ m ∧ r ≤ 2147483647 ∧ ((perm) r = true → m = 1 ∧ (perm) (s[pos]'hp).toNat = true) ∧ ((perm) r = false → allOk (perm) s.data.toList = false) := by
        by_cases ha : (s[pos]'hp).toNat < 128
        · exact ⟨_, _, decode_ascii s pos hp ha, by omega, by omega, fun h => ⟨rfl, h⟩, fun h => allOk_false _ s pos hp h⟩
        · have hh := decode_high s pos hp (by omega)
          have hl := decode_le s pos
          generalize Utf8.decode s pos = x at hh hl ⊢
          obtain ⟨r, m⟩ := x
          refine ⟨r, m, rfl, hh.2, hl, fun h => ?_, fun _ => allOk_false _ s pos hp (perm_high _ (by omega))⟩
          rw [perm_high r hh.1] at h; cases h
      obtain ⟨r, m, hd, hm1, hr, hyes, hno⟩ := hd
      have hnx : ∀ ty, (Instr.next (.pointer (some ⟨w.heap.size, 0, none⟩)) true ty).run Try.prog (w.iter s pos) = .ok (.tuple #[.bool true, .int .i64 pos, .int .i32 r]) (w.iter s (pos + m)) := fun ty => by
        have := run_next_any (P := Try.prog) w s pos ty hp
        rw [hd] at this; exact this
      clear hd
      by_cases ht : (perm) r = true
      · obtain ⟨hm, hc⟩ := hyes ht
        subst hm
        have Hc := Lib.hid hc
        clear hyes hno hc
        go_wp2_with (go_at_call 21; refine (permitted_any _ _ hr).mono ?_; rintro e w' ⟨rfl, rfl⟩)
        go_roundw
        case rel =>
          refine ⟨pos + 1, rfl, by omega, fun j hj hlt => ?_⟩
          by_cases e : j = pos
          · subst e; exact Hc.out
          · exact Hall.out j hj (by omega)
        case measure => simp; omega
      · have hf := Bool.eq_false_iff.2 ht
        have Hno := Lib.hid (hno hf)
        clear hyes hno ht
        go_wp2_with (go_at_call 21; refine (permitted_any _ _ hr).mono ?_; rintro e w' ⟨rfl, rfl⟩)
        go_ret
        exact ⟨ret_bool Hno.out.symm, (Below.refl _ _).alloc (Nat.le_refl _) _⟩
    · have hnx : ∀ ty, (Instr.next (.pointer (some ⟨w.heap.size, 0, none⟩)) true ty).run Try.prog (w.iter s pos) = .ok (.tuple #[.bool false]) (w.iter s pos) := fun ty => run_next_end w s pos ty hp
      have Hv := Lib.hid (allOk_true (perm) s (fun j hj => Hall.out j hj (by omega)))
      go_wp2
      go_ret
      exact ⟨ret_bool Hv.out.symm, (Below.refl _ _).alloc (Nat.le_refl _) _⟩

set_option maxRecDepth 100000 in
set_option maxHeartbeats 400000 in
theorem consists_letterOrDigit (s : ByteArray) (w : World) (hs : s.size ≤ maxLen) :
    Calls Try.prog 20 #[.string s, .func (.func 26) #[] #[]] w fun e w' => e = .returned (.bool (allOk (atLeast 0) s.data.toList)) ∧ Below w.heap.size w w' := by
  unfold maxLen at hs
  go_enter Try.func20, Try.ntmps20
  go_wp2
  go_loopw [6] (fun _ wr => ∃ (pos : Nat), wr = w.iter s pos ∧ pos ≤ s.size ∧ ∀ j (hj : j < s.size), j < pos → (atLeast 0) (s[j]'hj).toNat = true) (fun _ wr => s.size - wr.iterPos w.heap.size)
  case atStart => exact ⟨0, rfl, by omega, fun j _ hj => by omega⟩
  case round =>
    obtain ⟨pos, rfl, hle, hall⟩ := hrel
    have Hall := Lib.hid hall; clear hall
    by_cases hp : pos < s.size
    · have hd : ∃ r m : Nat, Utf8.decode s pos = (r, m) ∧ 1 ≤ m ∧ r ≤ 2147483647 ∧ ((atLeast 0) r = true → m = 1 ∧ (atLeast 0) (s[pos]'hp).toNat = true) ∧ ((atLeast 0) r = false → allOk (atLeast 0) s.data.toList = false) := by
        by_cases ha : (s[pos]'hp).toNat < 128
        · exact ⟨_, _, decode_ascii s pos hp ha, by omega, by omega, fun h => ⟨rfl, h⟩, fun h => allOk_false _ s pos hp h⟩
        · have hh := decode_high s pos hp (by omega)
          have hl := decode_le s pos
          generalize Utf8.decode s pos = x at hh hl ⊢
          obtain ⟨r, m⟩ := x
          refine ⟨r, m, rfl, hh.2, hl, fun h => ?_, fun _ => allOk_false _ s pos hp (at0_high _ (by omega))⟩
          rw [at0_high r hh.1] at h; cases h
      obtain ⟨r, m, hd, hm1, hr, hyes, hno⟩ := hd
      have hnx : ∀ ty, (Instr.next (.pointer (some ⟨w.heap.size, 0, none⟩)) true ty).run Try.prog (w.iter s pos) = .ok (.tuple #[.bool true, .int .i64 pos, .int .i32 r]) (w.iter s (pos + m)) := fun ty => by
        have := run_next_any (P := Try.prog) w s pos ty hp
        rw [hd] at this; exact this
      clear hd
      by_cases ht : (atLeast 0) r = true
      · obtain ⟨hm, hc⟩ := hyes ht
        subst hm
        have Hc := Lib.hid hc
        clear hyes hno hc
        go_wp2_with (go_at_call 26; refine (letterOrDigit_any _ _ hr).mono ?_; rintro e w' ⟨rfl, rfl⟩)
        go_roundw
        case rel =>
          refine ⟨pos + 1, rfl, by omega, fun j hj hlt => ?_⟩
          by_cases e : j = pos
          · subst e; exact Hc.out
          · exact Hall.out j hj (by omega)
        case measure => simp; omega
      · have hf := Bool.eq_false_iff.2 ht
        have Hno := Lib.hid (hno hf)
        clear hyes hno ht
        go_wp2_with (go_at_call 26; refine (letterOrDigit_any _ _ hr).mono ?_; rintro e w' ⟨rfl, rfl⟩)
        go_ret
        exact ⟨ret_bool Hno.out.symm, (Below.refl _ _).alloc (Nat.le_refl _) _⟩
    · have hnx : ∀ ty, (Instr.next (.pointer (some ⟨w.heap.size, 0, none⟩)) true ty).run Try.prog (w.iter s pos) = .ok (.tuple #[.bool false]) (w.iter s pos) := fun ty => run_next_end w s pos ty hp
      have Hv := Lib.hid (allOk_true (atLeast 0) s (fun j hj => Hall.out j hj (by omega)))
      go_wp2
      go_ret
      exact ⟨ret_bool Hv.out.symm, (Below.refl _ _).alloc (Nat.le_refl _) _⟩

set_option maxRecDepth 100000 in
set_option maxHeartbeats 400000 in
theorem consists_letter (s : ByteArray) (w : World) (hs : s.size ≤ maxLen) :
    Calls Try.prog 20 #[.string s, .func (.func 25) #[] #[]] w fun e w' => e = .returned (.bool (allOk (atLeast 10) s.data.toList)) ∧ Below w.heap.size w w' := by
  unfold maxLen at hs
  go_enter Try.func20, Try.ntmps20
  go_wp2
  go_loopw [6] (fun _ wr => ∃ (pos : Nat), wr = w.iter s pos ∧ pos ≤ s.size ∧ ∀ j (hj : j < s.size), j < pos → (atLeast 10) (s[j]'hj).toNat = true) (fun _ wr => s.size - wr.iterPos w.heap.size)
  case atStart => exact ⟨0, rfl, by omega, fun j _ hj => by omega⟩
  case round =>
    obtain ⟨pos, rfl, hle, hall⟩ := hrel
    have Hall := Lib.hid hall; clear hall
    by_cases hp : pos < s.size
    · have hd : ∃ r m : Nat, Utf8.decode s pos = (r, m) ∧ 1 ≤ m ∧ r ≤ 2147483647 ∧ ((atLeast 10) r = true → m = 1 ∧ (atLeast 10) (s[pos]'hp).toNat = true) ∧ ((atLeast 10) r = false → allOk (atLeast 10) s.data.toList = false) := by
        by_cases ha : (s[pos]'hp).toNat < 128
        · exact ⟨_, _, decode_ascii s pos hp ha, by omega, by omega, fun h => ⟨rfl, h⟩, fun h => allOk_false _ s pos hp h⟩
        · have hh := decode_high s pos hp (by omega)
          have hl := decode_le s pos
          generalize Utf8.decode s pos = x at hh hl ⊢
          obtain ⟨r, m⟩ := x
          refine ⟨r, m, rfl, hh.2, hl, fun h => ?_, fun _ => allOk_false _ s pos hp (at10_high _ (by omega))⟩
          rw [at10_high r hh.1] at h; cases h
      obtain ⟨r, m, hd, hm1, hr, hyes, hno⟩ := hd
      have hnx : ∀ ty, (Instr.next (.pointer (some ⟨w.heap.size, 0, none⟩)) true ty).run Try.prog (w.iter s pos) = .ok (.tuple #[.bool true, .int .i64 pos, .int .i32 r]) (w.iter s (pos + m)) := fun ty => by
        have := run_next_any (P := Try.prog) w s pos ty hp
        rw [hd] at this; exact this
      clear hd
      by_cases ht : (atLeast 10) r = true
      · obtain ⟨hm, hc⟩ := hyes ht
        subst hm
        have Hc := Lib.hid hc
        clear hyes hno hc
        go_wp2_with (go_at_call 25; refine (letter_any _ _ hr).mono ?_; rintro e w' ⟨rfl, rfl⟩)
        go_roundw
        case rel =>
          refine ⟨pos + 1, rfl, by omega, fun j hj hlt => ?_⟩
          by_cases e : j = pos
          · subst e; exact Hc.out
          · exact Hall.out j hj (by omega)
        case measure => simp; omega
      · have hf := Bool.eq_false_iff.2 ht
        have Hno := Lib.hid (hno hf)
        clear hyes hno ht
        go_wp2_with (go_at_call 25; refine (letter_any _ _ hr).mono ?_; rintro e w' ⟨rfl, rfl⟩)
        go_ret
        exact ⟨ret_bool Hno.out.symm, (Below.refl _ _).alloc (Nat.le_refl _) _⟩
    · have hnx : ∀ ty, (Instr.next (.pointer (some ⟨w.heap.size, 0, none⟩)) true ty).run Try.prog (w.iter s pos) = .ok (.tuple #[.bool false]) (w.iter s pos) := fun ty => run_next_end w s pos ty hp
      have Hv := Lib.hid (allOk_true (atLeast 10) s (fun j hj => Hall.out j hj (by omega)))
      go_wp2
      go_ret
      exact ⟨ret_bool Hv.out.symm, (Below.refl _ _).alloc (Nat.le_refl _) _⟩

end Go.Proofs.Ytkimniggdnlliaa
