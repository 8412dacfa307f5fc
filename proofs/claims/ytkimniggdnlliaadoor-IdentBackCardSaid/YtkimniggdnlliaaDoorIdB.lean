/-
  What Value, consists and Valid return, in the package ident and in its reference: a string is an identifier just if it has 1 to 36 bytes, each permitted.
-/
import Derived.Test.YtkimniggdnlliaaDoorIdA
namespace Go.Proofs.YtkimniggdnlliaaDoor
open Go.RowKit
open Plain

def letters36 : ByteArray := ⟨#[48, 49, 50, 51, 52, 53, 54, 55, 56, 57, 65, 66, 67, 68, 69, 70, 71, 72, 73, 74, 75, 76, 77, 78, 79, 80, 81, 82, 83, 84, 85, 86, 87, 88, 89, 90]⟩
theorem fold_letters36 : (⟨#[48, 49, 50, 51, 52, 53, 54, 55, 56, 57, 65, 66, 67, 68, 69, 70, 71, 72, 73, 74, 75, 76, 77, 78, 79, 80, 81, 82, 83, 84, 85, 86, 87, 88, 89, 90]⟩ : ByteArray) = letters36 := rfl
theorem letters36_size : letters36.size = 36 := by decide +kernel
theorem letters36_at : ∀ k : Fin 36, (letters36[k.1]'(by rw [letters36_size]; exact k.2)).toNat = letterN k.1 := by decide +kernel
theorem run_index_letters36 {P : Program} (w : World) (t : TypeId) (k : IntKind) (i : Int) (h : P.underlying t = some .string) (h0 : 0 ≤ i) (h1 : i < 36) :
    (Instr.index t (.string letters36) (.int k i)).run P w = .ok (.int .u8 (letterN i.toNat : Nat)) w := by
  have hi : 0 ≤ i ∧ i < (letters36.size : Int) := by rw [letters36_size]; omega
  rw [run_index_string w t letters36 k i h, dif_pos hi]
  have e := letters36_at ⟨i.toNat, by omega⟩
  simp only at e
  rw [e]
attribute [local go_sem ↓] fold_letters36 run_index_letters36

theorem quiet_more {P : Program} {f : FuncId} {args : Array Value} {w : World} {a n : Nat} {v : Value}
    (h : Calls P f args (w.drewN (a + n)) fun e w' => e = .returned v ∧ w.drewN (a + n) = w') :
    Calls P f args (w.drewN (a + n)) fun e w'' => e = .returned v ∧ ∃ m, w'' = w.drewN (a + m) :=
  h.mono fun _ _ ⟨he, hm⟩ => ⟨he, n, hm.symm⟩

theorem perm_high (c : Nat) (h : 128 ≤ c) : perm c = false := by rw [perm_else c (by omega)]; unfold atLeast; rw [val_high c h]; decide
theorem at0_high (c : Nat) (h : 128 ≤ c) : atLeast 0 c = false := by unfold atLeast; rw [val_high c h]; decide
theorem at10_high (c : Nat) (h : 128 ≤ c) : atLeast 10 c = false := by unfold atLeast; rw [val_high c h]; decide

set_option maxRecDepth 100000 in
set_option maxHeartbeats 400000 in
theorem consists_permitted (s : ByteArray) (w : World) (hs : s.size ≤ maxLen) :
    Calls Tryd.prog 30 #[.string s, .func (.func 42) #[] #[]] w fun e w' => e = .returned (.bool (allOk (perm) s.data.toList)) ∧ Below w.heap.size w w' := by
  unfold maxLen at hs
  go_enter Tryd.func30, Tryd.ntmps30
  go_wp2
  go_loopw [6] (fun _ wr => ∃ (pos : Nat), wr = w.iter s pos ∧ pos ≤ s.size ∧ ∀ j (hj : j < s.size), j < pos → (perm) (s[j]'hj).toNat = true) (fun _ wr => s.size - wr.iterPos w.heap.size)
  case atStart => exact ⟨0, rfl, by omega, fun j _ hj => by omega⟩
  case round =>
    obtain ⟨pos, rfl, hle, hall⟩ := hrel
    have Hall := Lib.hid hall; clear hall
    by_cases hp : pos < s.size
    · have hd : ∃ r m : Nat, Utf8.decode s pos = (r, m) ∧ 1 ≤ m ∧ r ≤ 2147483647 ∧ ((perm) r = true → m = 1 ∧ (perm) (s[pos]'hp).toNat = true) ∧ ((perm) r = false → allOk (perm) s.data.toList = false) := by
        by_cases ha : (s[pos]'hp).toNat < 128
        · exact ⟨_, _, decode_ascii s pos hp ha, by omega, by omega, fun h => ⟨rfl, h⟩, fun h => allOk_false _ s pos hp h⟩
        · have hh := decode_high s pos hp (by omega)
          have hl := decode_le s pos
          generalize Utf8.decode s pos = x at hh hl ⊢
          obtain ⟨r, m⟩ := x
          refine ⟨r, m, rfl, hh.2, hl, fun h => ?_, fun _ => allOk_false _ s pos hp (perm_high _ (by omega))⟩
          rw [perm_high r hh.1] at h; cases h
      obtain ⟨r, m, hd, hm1, hr, hyes, hno⟩ := hd
      have hnx : ∀ ty, (Instr.next (.pointer (some ⟨w.heap.size, 0, none⟩)) true ty).run Tryd.prog (w.iter s pos) = .ok (.tuple #[.bool true, .int .i64 pos, .int .i32 r]) (w.iter s (pos + m)) := fun ty => by
        have := run_next_any (P := Tryd.prog) w s pos ty hp
        rw [hd] at this; exact this
      clear hd
      by_cases ht : (perm) r = true
      · obtain ⟨hm, hc⟩ := hyes ht
        subst hm
        have Hc := Lib.hid hc
        clear hyes hno hc
        go_wp2_with (go_at_call 42; refine (permitted_any _ _ hr).mono ?_; rintro e w' ⟨rfl, rfl⟩)
        go_roundw
        case rel =>
          refine ⟨pos + 1, rfl, by omega, fun j hj hlt => ?_⟩
          by_cases e : j = pos
          · subst e; exact Hc.out
          · exact Hall.out j hj (by omega)
        case measure => simp; omega
      · have hf := Bool.eq_false_iff.2 ht
        have Hno := Lib.hid (hno hf)
        clear hyes hno ht
        go_wp2_with (go_at_call 42; refine (permitted_any _ _ hr).mono ?_; rintro e w' ⟨rfl, rfl⟩)
        go_ret
        exact ⟨ret_bool Hno.out.symm, (Below.refl _ _).alloc (Nat.le_refl _) _⟩
    · have hnx : ∀ ty, (Instr.next (.pointer (some ⟨w.heap.size, 0, none⟩)) true ty).run Tryd.prog (w.iter s pos) = .ok (.tuple #[.bool false]) (w.iter s pos) := fun ty => run_next_end w s pos ty hp
      have Hv := Lib.hid (allOk_true (perm) s (fun j hj => Hall.out j hj (by omega)))
      go_wp2
      go_ret
      exact ⟨ret_bool Hv.out.symm, (Below.refl _ _).alloc (Nat.le_refl _) _⟩

set_option maxRecDepth 100000 in
set_option maxHeartbeats 400000 in
theorem consists_letterOrDigit (s : ByteArray) (w : World) (hs : s.size ≤ maxLen) :
    Calls Tryd.prog 30 #[.string s, .func (.func 32) #[] #[]] w fun e w' => e = .returned (.bool (allOk (atLeast 0) s.data.toList)) ∧ Below w.heap.size w w' := by
  unfold maxLen at hs
  go_enter Tryd.func30, Tryd.ntmps30
  go_wp2
  go_loopw [6] (fun _ wr => ∃ (pos : Nat), wr = w.iter s pos ∧ pos ≤ s.size ∧ ∀ j (hj : j < s.size), j < pos → (atLeast 0) (s[j]'hj).toNat = true) (fun _ wr => s.size - wr.iterPos w.heap.size)
  case atStart => exact ⟨0, rfl, by omega, fun j _ hj => by omega⟩
  case round =>
    obtain ⟨pos, rfl, hle, hall⟩ := hrel
    have Hall := Lib.hid hall; clear hall
    by_cases hp : pos < s.size
    · have hd : ∃ r m : Nat, Utf8.decode s pos = (r, m) ∧ 1 ≤ m ∧ r ≤ 2147483647 ∧ ((atLeast 0) r = true → m = 1 ∧ (atLeast 0) (s[pos]'hp).toNat = true) ∧ ((atLeast 0) r = false → allOk (atLeast 0) s.data.toList = false) := by
        by_cases ha : (s[pos]'hp).toNat < 128
        · exact ⟨_, _, decode_ascii s pos hp ha, by omega, by omega, fun h => ⟨rfl, h⟩, fun h => allOk_false _ s pos hp h⟩
        · have hh := decode_high s pos hp (by omega)
          have hl := decode_le s pos
          generalize Utf8.decode s pos = x at hh hl ⊢
          obtain ⟨r, m⟩ := x
          refine ⟨r, m, rfl, hh.2, hl, fun h => ?_, fun _ => allOk_false _ s pos hp (at0_high _ (by omega))⟩
          rw [at0_high r hh.1] at h; cases h
      obtain ⟨r, m, hd, hm1, hr, hyes, hno⟩ := hd
      have hnx : ∀ ty, (Instr.next (.pointer (some ⟨w.heap.size, 0, none⟩)) true ty).run Tryd.prog (w.iter s pos) = .ok (.tuple #[.bool true, .int .i64 pos, .int .i32 r]) (w.iter s (pos + m)) := fun ty => by
        have := run_next_any (P := Tryd.prog) w s pos ty hp
        rw [hd] at this; exact this
      clear hd
      by_cases ht : (atLeast 0) r = true
      · obtain ⟨hm, hc⟩ := hyes ht
        subst hm
        have Hc := Lib.hid hc
        clear hyes hno hc
        go_wp2_with (go_at_call 32; refine (letterOrDigit_any _ _ hr).mono ?_; rintro e w' ⟨rfl, rfl⟩)
        go_roundw
        case rel =>
          refine ⟨pos + 1, rfl, by omega, fun j hj hlt => ?_⟩
          by_cases e : j = pos
          · subst e; exact Hc.out
          · exact Hall.out j hj (by omega)
        case measure => simp; omega
      · have hf := Bool.eq_false_iff.2 ht
        have Hno := Lib.hid (hno hf)
        clear hyes hno ht
        go_wp2_with (go_at_call 32; refine (letterOrDigit_any _ _ hr).mono ?_; rintro e w' ⟨rfl, rfl⟩)
        go_ret
        exact ⟨ret_bool Hno.out.symm, (Below.refl _ _).alloc (Nat.le_refl _) _⟩
    · have hnx : ∀ ty, (Instr.next (.pointer (some ⟨w.heap.size, 0, none⟩)) true ty).run Tryd.prog (w.iter s pos) = .ok (.tuple #[.bool false]) (w.iter s pos) := fun ty => run_next_end w s pos ty hp
      have Hv := Lib.hid (allOk_true (atLeast 0) s (fun j hj => Hall.out j hj (by omega)))
      go_wp2
      go_ret
      exact ⟨ret_bool Hv.out.symm, (Below.refl _ _).alloc (Nat.le_refl _) _⟩

set_option maxRecDepth 100000 in
set_option maxHeartbeats 400000 in
theorem consists_letter (s : ByteArray) (w : World) (hs : s.size ≤ maxLen) :
    Calls Tryd.prog 30 #[.string s, .func (.func 31) #[] #[]] w fun e w' => e = .returned (.bool (allOk (atLeast 10) s.data.toList)) ∧ Below w.heap.size w w' := by
  unfold maxLen at hs
  go_enter Tryd.func30, Tryd.ntmps30
  go_wp2
  go_loopw [6] (fun _ wr => ∃ (pos : Nat), wr = w.iter s pos ∧ pos ≤ s.size ∧ ∀ j (hj : j < s.size), j < pos → (atLeast 10) (s[j]'hj).toNat = true) (fun _ wr => s.size - wr.iterPos w.heap.size)
  case atStart => exact ⟨0, rfl, by omega, fun j _ hj => by omega⟩
  case round =>
    obtain ⟨pos, rfl, hle, hall⟩ := hrel
    have Hall := Lib.hid hall; clear hall
    by_cases hp : pos < s.size
    · have hd : ∃ r m : Nat, Utf8.decode s pos = (r, m) ∧ 1 ≤ m ∧ r ≤ 2147483647 ∧ ((atLeast 10) r = true → m = 1 ∧ (atLeast 10) (s[pos]'hp).toNat = true) ∧ ((atLeast 10) r = false → allOk (atLeast 10) s.data.toList = false) := by
        by_cases ha : (s[pos]'hp).toNat < 128
        · exact ⟨_, _, decode_ascii s pos hp ha, by omega, by omega, fun h => ⟨rfl, h⟩, fun h => allOk_false _ s pos hp h⟩
        · have hh := decode_high s pos hp (by omega)
          have hl := decode_le s pos
          generalize Utf8.decode s pos = x at hh hl ⊢
          obtain ⟨r, m⟩ := x
          refine ⟨r, m, rfl, hh.2, hl, fun h => ?_, fun _ => allOk_false _ s pos hp (at10_high _ (by omega))⟩
          rw [at10_high r hh.1] at h; cases h
      obtain ⟨r, m, hd, hm1, hr, hyes, hno⟩ := hd
      have hnx : ∀ ty, (Instr.next (.pointer (some ⟨w.heap.size, 0, none⟩)) true ty).run Tryd.prog (w.iter s pos) = .ok (.tuple #[.bool true, .int .i64 pos, .int .i32 r]) (w.iter s (pos + m)) := fun ty => by
        have := run_next_any (P := Tryd.prog) w s pos ty hp
        rw [hd] at this; exact this
      clear hd
      by_cases ht : (atLeast 10) r = true
      · obtain ⟨hm, hc⟩ := hyes ht
        subst hm
        have Hc := Lib.hid hc
        clear hyes hno hc
        go_wp2_with (go_at_call 31; refine (letter_any _ _ hr).mono ?_; rintro e w' ⟨rfl, rfl⟩)
        go_roundw
        case rel =>
          refine ⟨pos + 1, rfl, by omega, fun j hj hlt => ?_⟩
          by_cases e : j = pos
          · subst e; exact Hc.out
          · exact Hall.out j hj (by omega)
        case measure => simp; omega
      · have hf := Bool.eq_false_iff.2 ht
        have Hno := Lib.hid (hno hf)
        clear hyes hno ht
        go_wp2_with (go_at_call 31; refine (letter_any _ _ hr).mono ?_; rintro e w' ⟨rfl, rfl⟩)
        go_ret
        exact ⟨ret_bool Hno.out.symm, (Below.refl _ _).alloc (Nat.le_refl _) _⟩
    · have hnx : ∀ ty, (Instr.next (.pointer (some ⟨w.heap.size, 0, none⟩)) true ty).run Tryd.prog (w.iter s pos) = .ok (.tuple #[.bool false]) (w.iter s pos) := fun ty => run_next_end w s pos ty hp
      have Hv := Lib.hid (allOk_true (atLeast 10) s (fun j hj => Hall.out j hj (by omega)))
      go_wp2
      go_ret
      exact ⟨ret_bool Hv.out.symm, (Below.refl _ _).alloc (Nat.le_refl _) _⟩

end Go.Proofs.YtkimniggdnlliaaDoor
