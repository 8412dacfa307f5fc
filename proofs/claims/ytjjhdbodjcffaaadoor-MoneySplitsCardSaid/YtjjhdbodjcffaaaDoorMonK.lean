/-
  What is a currency, in money and in its reference.
-/
import Derived.Test.YtjjhdbodjcffaaaDoorMonJ
import Derived.Laws.RangeString
import Derived.Laws.RangeAny
namespace Go.Proofs.YtjjhdbodjcffaaaDoor
open Go.RowKit
open IntWalk

def upB (b : UInt8) : Bool := decide (65 ≤ b.toNat) && decide (b.toNat ≤ 90)
/-- Three capital letters. -/
def curB (s : ByteArray) : Bool := decide (s.size = 3) && s.data.toList.all upB
theorem curB_size {s : ByteArray} (h : curB s = true) : s.size = 3 := by unfold curB at h; simp at h; exact h.1
theorem curB_at {s : ByteArray} (h : curB s = true) (i : Nat) (hi : i < s.size) : upB s[i] = true := by
  unfold curB at h
  simp only [Bool.and_eq_true, List.all_eq_true] at h
  exact h.2 _ (by simp [ByteArray.getElem_eq_getElem_data])
theorem curB_of {s : ByteArray} (h3 : s.size = 3) (h : ∀ i (hi : i < s.size), upB s[i] = true) : curB s = true := by
  unfold curB
  simp only [Bool.and_eq_true, List.all_eq_true, decide_eq_true_eq]
  refine ⟨h3, fun b hb => ?_⟩
  obtain ⟨i, hi, e⟩ := List.getElem_of_mem hb
  have := h i (by simpa using hi)
  rw [← e]
  simpa [ByteArray.getElem_eq_getElem_data] using this
theorem curB_not {s : ByteArray} (i : Nat) (hi : i < s.size) (h : upB s[i] = false) : curB s = false := by
  cases hc : curB s with
  | false => rfl
  | true => rw [curB_at hc i hi] at h; exact absurd h (by decide)

set_option maxHeartbeats 1000000 in
set_option maxRecDepth 10000 in
theorem cur_run (s : ByteArray) (w : World) :
    Calls Tryd.prog 37 #[.string s] w fun e w' => e = .returned (.bool (curB s)) ∧ Below w.heap.size w w' := by
  by_cases h3 : s.size = 3
  · go_enter Tryd.func37, Tryd.ntmps37
    go_wp2
    go_loopw [4] (fun _ w' => ∃ pos : Nat, w' = w.iter s pos ∧ pos ≤ 3 ∧ Hid (∀ i (hi : i < s.size), i < pos → upB s[i] = true)) (fun _ w' => 3 - w'.iterPos w.heap.size)
    case atStart => exact ⟨0, rfl, by omega, Lib.hid (fun i _ h => absurd h (by omega))⟩
    case round =>
      obtain ⟨pos, rfl, hp3, HP⟩ := hrel
      by_cases hp : pos < s.size
      · obtain ⟨b, hb⟩ : ∃ b, b = s[pos] := ⟨_, rfl⟩
        cases hu : upB b with
        | true =>
          have hu' := hu
          unfold upB at hu'
          simp only [Bool.and_eq_true, decide_eq_true_eq] at hu'
          obtain ⟨b1, b2⟩ := hu'
          have hnx : ∀ ty, (Instr.next (.pointer (some ⟨w.heap.size, 0, none⟩)) true ty).run Tryd.prog (w.iter s pos) = _ := fun ty => run_next_ascii w s pos ty hp (by rw [← hb]; omega)
          rw [← hb] at hnx
          have HN := Lib.hid (show ∀ i (hi : i < s.size), i < pos + 1 → upB s[i] = true from fun i hi h => by
            by_cases e : i = pos
            · subst e; rw [← hb]; exact hu
            · exact HP.out i hi (by omega))
          clear hb hu
          go_wp2
          go_roundw
          case rel => exact ⟨pos + 1, rfl, by omega, HN⟩
          case measure => simp; omega
        | false =>
          have hc := curB_not pos hp (by rw [← hb]; exact hu)
          have HC := Lib.hid hc
          have hu' := hu
          unfold upB at hu'
          have hr : b.toNat < 65 ∨ 90 < b.toNat := by
            by_cases c1 : b.toNat < 65
            · exact .inl c1
            · right; simp [show 65 ≤ b.toNat by omega] at hu'; omega
          clear hu' hc hu
          by_cases ha : b.toNat < 128
          · have hnx : ∀ ty, (Instr.next (.pointer (some ⟨w.heap.size, 0, none⟩)) true ty).run Tryd.prog (w.iter s pos) = _ := fun ty => run_next_ascii w s pos ty hp (by rw [← hb]; omega)
            rw [← hb] at hnx
            clear hb
            by_cases c1 : b.toNat < 65
            · clear hr
              go_wp2
              go_ret
              exact ⟨bool_is HC.out.symm, (Below.refl _ _).alloc (Nat.le_refl _) _⟩
            · have c2 : 90 < b.toNat := by omega
              clear hr
              go_wp2
              go_ret
              exact ⟨bool_is HC.out.symm, (Below.refl _ _).alloc (Nat.le_refl _) _⟩
          · obtain ⟨d1, _⟩ := decode_high s pos hp (by rw [← hb]; omega)
            have hnx : ∀ ty, (Instr.next (.pointer (some ⟨w.heap.size, 0, none⟩)) true ty).run Tryd.prog (w.iter s pos) = _ := fun ty => run_next_any w s pos ty hp
            obtain ⟨R, hR⟩ : ∃ R, R = (Utf8.decode s pos).1 := ⟨_, rfl⟩
            obtain ⟨D, hD⟩ : ∃ D, D = (Utf8.decode s pos).2 := ⟨_, rfl⟩
            rw [← hR, ← hD] at hnx
            rw [← hR] at d1
            clear hb hR hD hr
            go_wp2
            go_ret
            exact ⟨bool_is HC.out.symm, (Below.refl _ _).alloc (Nat.le_refl _) _⟩
      · have hc := Lib.hid (curB_of h3 (fun i hi => HP.out i hi (by omega)))
        have hnx : ∀ ty, (Instr.next (.pointer (some ⟨w.heap.size, 0, none⟩)) true ty).run Tryd.prog (w.iter s pos) = _ := fun ty => run_next_end w s pos ty hp
        go_wp2
        go_ret
        exact ⟨bool_is hc.out.symm, (Below.refl _ _).alloc (Nat.le_refl _) _⟩
  · have hc : curB s = false := by unfold curB; simp [h3]
    rw [hc]
    have hz : ((s.size : Int) != 3) = true := by rw [bne_iff_ne]; omega
    go_enter Tryd.func37, Tryd.ntmps37
    go_wp2
    go_ret
    exact ⟨rfl, Below.refl _ _⟩

set_option maxHeartbeats 1000000 in
set_option maxRecDepth 10000 in
theorem rcur_run (s : ByteArray) (w : World) (hs : s.size ≤ 2000000) :
    Calls Tryd.prog 39 #[.string s] w fun e w' => e = .returned (.bool (curB s)) ∧ w = w' := by
  go_enter Tryd.func39, Tryd.ntmps39
  go_wp2
  go_loop [3] (fun i => ∃ pos : Nat, i = .int .i64 pos ∧ pos ≤ s.size ∧ Hid (∀ i (hi : i < s.size), i < pos → upB s[i] = true)) (fun i => s.size - (intOf i).toNat)
  case atStart => exact ⟨0, rfl, Nat.zero_le _, Lib.hid (fun i _ h => absurd h (by omega))⟩
  case round =>
    obtain ⟨pos, rfl, hp3, HP⟩ := hrel
    by_cases hp : pos < s.size
    · have hx : ∀ W, (Instr.index 9 (.string s) (.int .i64 (pos : Int))).run Tryd.prog W = .ok (.int .u8 ((s[pos]'hp).toNat : Int)) W := fun W => by
        rw [run_index_string W 9 s .i64 _ Tryd.underlying9, dif_pos ⟨by omega, by omega⟩]
        rfl
      obtain ⟨b, hb⟩ : ∃ b, b = s[pos] := ⟨_, rfl⟩
      rw [← hb] at hx
      cases hu : upB b with
      | true =>
        have hu' := hu
        unfold upB at hu'
        simp only [Bool.and_eq_true, decide_eq_true_eq] at hu'
        obtain ⟨b1, b2⟩ := hu'
        have HN := Lib.hid (show ∀ i (hi : i < s.size), i < pos + 1 → upB s[i] = true from fun i hi h => by
          by_cases e : i = pos
          · subst e; rw [← hb]; exact hu
          · exact HP.out i hi (by omega))
        clear hb hu
        go_wp2
        go_round
        case rel => exact ⟨pos + 1, rfl, by omega, HN⟩
        case measure => simp [intOf]; omega
      | false =>
        have HC := Lib.hid (curB_not pos hp (by rw [← hb]; exact hu))
        have hu' := hu
        unfold upB at hu'
        have hr : b.toNat < 65 ∨ 90 < b.toNat := by
          by_cases c1 : b.toNat < 65
          · exact .inl c1
          · right; simp [show 65 ≤ b.toNat by omega] at hu'; omega
        clear hu' hu hb
        by_cases c1 : b.toNat < 65
        · clear hr
          go_wp2
          go_ret
          exact ⟨bool_is HC.out.symm, rfl⟩
        · have c2 : 90 < b.toNat := by omega
          clear hr
          go_wp2
          go_ret
          exact ⟨bool_is HC.out.symm, rfl⟩
    · by_cases h3 : s.size = 3
      · have hc := Lib.hid (curB_of h3 (fun i hi => HP.out i hi (by omega)))
        have hz := eq_t (s.size : Int) 3 (by omega)
        go_wp2
        go_ret
        exact ⟨bool_is hc.out.symm, rfl⟩
      · have hc : Hid (curB s = false) := Lib.hid (by unfold curB; simp [h3])
        have hz := eq_f (s.size : Int) 3 (by omega)
        go_wp2
        go_ret
        exact ⟨bool_is hc.out.symm, rfl⟩
end Go.Proofs.YtjjhdbodjcffaaaDoor
