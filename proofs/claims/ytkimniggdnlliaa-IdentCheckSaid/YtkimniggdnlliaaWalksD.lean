/-
  What Sum and Check return, in the package ident and in its reference: the check character of ISO 7064, MOD 37,36.
-/
import Derived.Test.YtkimniggdnlliaaWalksC
namespace Go.Proofs.Ytkimniggdnlliaa
open Go.RowKit
open Plain
attribute [local go_sem ↓] fold_letters36 run_index_letters36

theorem ret_two {k1 k2 : IntKind} {a b c d : Int} (h : a = b) (h2 : c = d) : Ending.returned (.tuple #[.int k1 a, .int k2 c]) = .returned (.tuple #[.int k1 b, .int k2 d]) := by rw [h, h2]

theorem sum_skip (l : List UInt8) (c : UInt8) (P N : Int) (h : sumL l = (P, N)) (hv : val c.toNat < 0) : sumL (l ++ [c]) = (P, N) := by
  rw [sumL_snoc, h]; unfold fold1; rw [if_pos hv]
theorem sum_zero (l : List UInt8) (c : UInt8) (P N : Int) (h : sumL l = (P, N)) (hv : 0 ≤ val c.toNat) (hz : (P + val c.toNat) % 36 = 0) : sumL (l ++ [c]) = (35, N + 1) := by
  rw [sumL_snoc, h]; unfold fold1 turn; rw [if_neg (by omega)]; simp only []; rw [if_pos hz]; rfl
theorem sum_more (l : List UInt8) (c : UInt8) (P N : Int) (h : sumL l = (P, N)) (hv : 0 ≤ val c.toNat) (hz : ¬ (P + val c.toNat) % 36 = 0) : sumL (l ++ [c]) = (2 * ((P + val c.toNat) % 36) % 37, N + 1) := by
  rw [sumL_snoc, h]; unfold fold1 turn; rw [if_neg (by omega)]; simp only []; rw [if_neg hz]
theorem sum_bd (l : List UInt8) (P N : Int) (h : sumL l = (P, N)) : 1 ≤ P ∧ P ≤ 36 ∧ 0 ≤ N ∧ N ≤ l.length := by
  have := sumL_bd l; rw [h] at this; exact this
theorem eq_f (a x : Int) (h : a ≠ x) : (a == x) = false := by simp [h]
theorem eq_t (a x : Int) (h : a = x) : (a == x) = true := by simp [h]

set_option maxHeartbeats 1000000 in
theorem refSum_any (s : ByteArray) (w : World) (hs : s.size ≤ maxLen) :
    Calls Try.prog 24 #[.string s] w fun e w' => e = .returned (.tuple #[.int .i64 (sumL s.data.toList).1, .int .i64 (sumL s.data.toList).2]) ∧ ∃ q, w' = w.drewN q := by
  unfold maxLen at hs
  go_enter Try.func24, Try.ntmps24
  go_wp2_with fail
  go_loopw [4, 5, 6] (fun p n i wr => ∃ (k q : Nat) (P N : Int), k ≤ s.size ∧ i = .int .i64 k ∧ p = .int .i64 P ∧ n = .int .i64 N ∧ wr = w.drewN q ∧ Hid (sumL (s.data.toList.take k) = (P, N))) (fun _ _ i _ => s.size - (intOf i).toNat)
  case atStart => exact ⟨0, 0, 36, 0, by omega, rfl, rfl, rfl, rfl, rfl⟩
  case round =>
    obtain ⟨k, q, P, N, hk, rfl, rfl, rfl, rfl, Hs⟩ := hrel
    obtain ⟨p1, p2, n1, n2⟩ := sum_bd _ _ _ Hs.out
    have hl : (s.data.toList.take k).length ≤ k := List.length_take_le _ _
    by_cases hlt : k < s.size
    · have hc := (s[k]'hlt).toNat_lt
      obtain ⟨v1, v2⟩ := val_bd (s[k]'hlt).toNat
      have Ht := Lib.hid (take_snoc s k hlt)
      by_cases hneg : val (s[k]'hlt).toNat < 0
      · have Hn := Lib.hid (sum_skip _ (s[k]'hlt) P N Hs.out hneg)
        go_wp2_with (go_at_call 22; refine (refValue_any _ _ hc).mono ?_; rintro e w' ⟨rfl, q2, rfl⟩)
        go_roundw
        case rel => exact ⟨k + 1, _, P, N, by omega, by go_num, rfl, rfl, rfl, by rw [Hid, Ht.out]; exact Hn.out⟩
        case measure => simp [intOf]; omega
      · by_cases hz : (P + val (s[k]'hlt).toNat) % 36 = 0
        · have Hn := Lib.hid (sum_zero _ (s[k]'hlt) P N Hs.out (by omega) hz)
          have hb := eq_t _ _ hz
          clear hz
          go_wp2_with (go_at_call 22; refine (refValue_any _ _ hc).mono ?_; rintro e w' ⟨rfl, q2, rfl⟩)
          go_roundw
          case rel => exact ⟨k + 1, _, 35, N + 1, by omega, by go_num, rfl, rfl, rfl, by rw [Hid, Ht.out]; exact Hn.out⟩
          case measure => simp [intOf]; omega
        · have Hn := Lib.hid (sum_more _ (s[k]'hlt) P N Hs.out (by omega) hz)
          have hb := eq_f _ _ hz
          clear hz
          go_wp2_with (go_at_call 22; refine (refValue_any _ _ hc).mono ?_; rintro e w' ⟨rfl, q2, rfl⟩)
          go_roundw
          case rel => exact ⟨k + 1, _, _, N + 1, by omega, by go_num, rfl, rfl, rfl, by rw [Hid, Ht.out]; exact Hn.out⟩
          case measure => simp [intOf]; omega
    · have Ha : Hid (sumL s.data.toList = (P, N)) := by
        have := Hs.out
        rw [List.take_of_length_le (by rw [size_list]; omega)] at this
        exact Lib.hid this
      go_wp2_with fail
      go_ret2
      exact ⟨ret_two (by rw [Ha.out]) (by rw [Ha.out]), q, rfl⟩

theorem good_not (l : List UInt8) (h : validL l = false) : checkL l = 0 ∧ checkE l = 4 := by
  unfold checkL checkE goodL; rw [h]; exact ⟨rfl, rfl⟩
theorem good_none (l : List UInt8) (P : Int) (hs : sumL l = (P, 0)) : checkL l = 0 ∧ checkE l = 4 := by
  unfold checkL checkE goodL; rw [hs]; simp
theorem good_yes (l : List UInt8) (P N : Int) (h : validL l = true) (hs : sumL l = (P, N)) (hn : 0 < N) : checkL l = letterN (checkN P) ∧ checkE l = 0 := by
  unfold checkL checkE goodL; rw [h, hs]; simp [hn]
theorem valid_parts (s : ByteArray) (h : validL s.data.toList = true) : 1 ≤ s.size ∧ s.size ≤ 36 ∧ ∀ j (hj : j < s.size), (s[j]'hj).toNat < 128 := by
  by_cases h1 : s.size < 1 ∨ 36 < s.size
  · rw [valid_out s h1] at h; cases h
  · refine ⟨by omega, by omega, fun j hj => ?_⟩
    rw [valid_in s (by omega) (by omega)] at h
    by_cases hh : (s[j]'hj).toNat < 128
    · exact hh
    · rw [allOk_false perm s j hj (perm_high _ (by omega))] at h; cases h

set_option maxRecDepth 100000 in
set_option maxHeartbeats 1000000 in
theorem check_any (s : ByteArray) (w : World) (hs : s.size ≤ maxLen) :
    Calls Try.prog 12 #[.string s] w fun e w' => e = .returned (.tuple #[.int .u8 (checkL s.data.toList : Nat), .int .i64 (checkE s.data.toList)]) ∧ Below w.heap.size w w' := by
  have hs' := hs
  unfold maxLen at hs'
  by_cases hv : validL s.data.toList = true
  · obtain ⟨s1, s2, hasc⟩ := valid_parts s hv
    have Hasc := Lib.hid hasc
    have Hgood := Lib.hid (fun P N hs hn => good_yes s.data.toList P N hv hs hn)
    clear hasc
    go_enter Try.func12, Try.ntmps12
    go_wp2_with (go_at_call 10; refine (valid_any _ _ hs).mono ?_; rintro e w1 ⟨rfl, hb1⟩)
    clear hv
    go_loopw [4, 5] (fun p f wr => ∃ (pos : Nat) (P N : Int) (fb : Bool), pos ≤ s.size ∧ p = .int .i64 P ∧ f = .bool fb ∧ wr = w1.iter s pos ∧ Hid (sumL (s.data.toList.take pos) = (P, N)) ∧ Hid (fb = true ↔ 0 < N)) (fun _ _ wr => s.size - wr.iterPos w1.heap.size)
    case atStart => exact ⟨0, 36, 0, false, by omega, rfl, rfl, rfl, rfl, by simp [Hid]⟩
    case round =>
      obtain ⟨pos, P, N, fb, hle, rfl, rfl, rfl, Hs, Hf⟩ := hrel
      obtain ⟨p1, p2, n1, n2⟩ := sum_bd _ _ _ Hs.out
      by_cases hp : pos < s.size
      · have ha := Hasc.out pos hp
        have hnx : ∀ ty, (Instr.next (.pointer (some ⟨w1.heap.size, 0, none⟩)) true ty).run Try.prog (w1.iter s pos) = .ok (.tuple #[.bool true, .int .i64 pos, .int .i32 (s[pos]'hp).toNat]) (w1.iter s (pos + 1)) := fun ty => run_next_ascii w1 s pos ty hp ha
        obtain ⟨v1, v2⟩ := val_bd (s[pos]'hp).toNat
        have Ht := Lib.hid (take_snoc s pos hp)
        have hr : (s[pos]'hp).toNat ≤ 2147483647 := by omega
        by_cases hneg : val (s[pos]'hp).toNat < 0
        · have Hn := Lib.hid (sum_skip _ (s[pos]'hp) P N Hs.out hneg)
          go_wp2_with (go_at_call 23; refine (value_any _ _ hr).mono ?_; rintro e w' ⟨rfl, rfl⟩)
          go_roundw
          case rel => exact ⟨pos + 1, P, N, fb, by omega, rfl, rfl, rfl, by rw [Hid, Ht.out]; exact Hn.out, Hf⟩
          case measure => simp; omega
        · by_cases hz : (P + val (s[pos]'hp).toNat) % 36 = 0
          · have Hn := Lib.hid (sum_zero _ (s[pos]'hp) P N Hs.out (by omega) hz)
            have hb := eq_t _ _ hz
            clear hz
            go_wp2_with (go_at_call 23; refine (value_any _ _ hr).mono ?_; rintro e w' ⟨rfl, rfl⟩)
            go_roundw
            case rel => exact ⟨pos + 1, 35, N + 1, true, by omega, rfl, rfl, rfl, by rw [Hid, Ht.out]; exact Hn.out, by simp [Hid]; omega⟩
            case measure => simp; omega
          · have Hn := Lib.hid (sum_more _ (s[pos]'hp) P N Hs.out (by omega) hz)
            have hb := eq_f _ _ hz
            clear hz
            go_wp2_with (go_at_call 23; refine (value_any _ _ hr).mono ?_; rintro e w' ⟨rfl, rfl⟩)
            go_roundw
            case rel => exact ⟨pos + 1, _, N + 1, true, by omega, rfl, rfl, rfl, by rw [Hid, Ht.out]; exact Hn.out, by simp [Hid]; omega⟩
            case measure => simp; omega
      · have hnx : ∀ ty, (Instr.next (.pointer (some ⟨w1.heap.size, 0, none⟩)) true ty).run Try.prog (w1.iter s pos) = .ok (.tuple #[.bool false]) (w1.iter s pos) := fun ty => run_next_end w1 s pos ty hp
        have Ha : Hid (sumL s.data.toList = (P, N)) := by
          have := Hs.out
          rw [List.take_of_length_le (by rw [size_list]; omega)] at this
          exact Lib.hid this
        cases fb with
        | true =>
          have Hg := Lib.hid (Hgood.out P N Ha.out (Hf.out.1 rfl))
          have i1 : 0 ≤ (37 - P) % 36 := by omega
          have i2 : (37 - P) % 36 < 36 := by omega
          go_wp2_with fail
          go_ret2
          exact ⟨ret_two (by rw [Hg.out.1]; rfl) Hg.out.2.symm, hb1.trans (((Below.refl _ _).alloc (Nat.le_refl _) _).mono hb1.size)⟩
        | false =>
          have hn0 : N = 0 := by
            have h : ¬ 0 < N := fun h => by have := Hf.out.2 h; cases this
            omega
          have Hg := Lib.hid (good_none s.data.toList P (by rw [← hn0]; exact Ha.out))
          clear hn0
          go_wp2_with fail
          go_ret2
          exact ⟨ret_two (by rw [Hg.out.1]; rfl) Hg.out.2.symm, hb1.trans (((Below.refl _ _).alloc (Nat.le_refl _) _).mono hb1.size)⟩
  · have hf := Bool.eq_false_iff.2 hv
    have Hg := Lib.hid (good_not _ hf)
    clear hv
    go_enter Try.func12, Try.ntmps12
    go_wp2_with (go_at_call 10; refine (valid_any _ _ hs).mono ?_; rintro e w1 ⟨rfl, hb1⟩)
    go_ret2
    exact ⟨ret_two (by rw [Hg.out.1]; rfl) Hg.out.2.symm, hb1⟩

set_option maxHeartbeats 1000000 in
theorem refCheck_any (s : ByteArray) (w : World) (hs : s.size ≤ maxLen) :
    Calls Try.prog 13 #[.string s] w fun e w' => e = .returned (.tuple #[.int .u8 (checkL s.data.toList : Nat), .int .i64 (checkE s.data.toList)]) ∧ ∃ q, w' = w.drewN q := by
  have hs' := hs
  unfold maxLen at hs'
  obtain ⟨P, N, hPN⟩ : ∃ P N, sumL s.data.toList = (P, N) := ⟨_, _, rfl⟩
  obtain ⟨p1, p2, n1, n2⟩ := sum_bd _ _ _ hPN
  have hsum : ∀ W, Calls Try.prog 24 #[.string s] W fun e w' => e = .returned (.tuple #[.int .i64 P, .int .i64 N]) ∧ ∃ q, w' = W.drewN q := fun W => by
    have := refSum_any s W hs
    rw [hPN] at this; exact this
  have Hsum := Lib.hid hsum
  clear hsum
  by_cases hv : validL s.data.toList = true
  · by_cases hn : N = 0
    · subst hn
      have Hg := Lib.hid (good_none _ P hPN)
      clear hPN
      go_enter Try.func13, Try.ntmps13
      go_wp2_with (first | (go_at_call 24; refine (Hsum.out _).mono ?_; rintro e w' ⟨rfl, q, rfl⟩) | (go_at_call 11; refine (refValid_any _ _ hs).mono ?_; rintro e w' ⟨rfl, q2, rfl⟩))
      go_ret2
      exact ⟨ret_two (by rw [Hg.out.1]; rfl) Hg.out.2.symm, _, rfl⟩
    · have Hg := Lib.hid (good_yes _ P N hv hPN (by omega))
      have hb := eq_f _ _ hn
      have hn' : 0 < N := by omega
      clear hPN hn
      go_enter Try.func13, Try.ntmps13
      go_wp2_with (first | (go_at_call 24; refine (Hsum.out _).mono ?_; rintro e w' ⟨rfl, q, rfl⟩) | (go_at_call 11; refine (refValid_any _ _ hs).mono ?_; rintro e w' ⟨rfl, q2, rfl⟩))
      clear hv hb
      go_loop [6] (fun i => ∃ k : Nat, k ≤ checkN P ∧ i = .int .i64 k) (fun i => 36 - (intOf i).toNat)
      case atStart => exact ⟨0, by omega, rfl⟩
      case round =>
        obtain ⟨k, hk, rfl⟩ := hrel
        have hlt := checkN_lt P
        by_cases he : k = checkN P
        · have hb : ((P + (k : Int)) % 36 == 1) = true := eq_t _ _ ((checkN_eq P k p1 p2 (by omega) (by omega)).2 (by omega))
          have Hk := Lib.hid he
          have k36 : k < 36 := by omega
          clear he hk
          go_wp2_with fail
          go_ret2
          exact ⟨ret_two (by rw [Hg.out.1, Hk.out]) Hg.out.2.symm, _, rfl⟩
        · have hb : ((P + (k : Int)) % 36 == 1) = false := eq_f _ _ (fun h => he (by have := (checkN_eq P k p1 p2 (by omega) (by omega)).1 h; omega))
          have k36 : k < 36 := by omega
          go_wp2_with fail
          go_round
          case rel => exact ⟨k + 1, by omega, by go_num⟩
          case measure => simp [intOf]; omega
  · have hf := Bool.eq_false_iff.2 hv
    have Hg := Lib.hid (good_not _ hf)
    clear hv hPN
    go_enter Try.func13, Try.ntmps13
    go_wp2_with (first | (go_at_call 24; refine (Hsum.out _).mono ?_; rintro e w' ⟨rfl, q, rfl⟩) | (go_at_call 11; refine (refValid_any _ _ hs).mono ?_; rintro e w' ⟨rfl, q2, rfl⟩))
    go_ret2
    exact ⟨ret_two (by rw [Hg.out.1]; rfl) Hg.out.2.symm, _, rfl⟩
end Go.Proofs.Ytkimniggdnlliaa
