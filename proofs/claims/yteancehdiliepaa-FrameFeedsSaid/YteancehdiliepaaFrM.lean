/-
  What the reference's Feed returns.
-/
import Derived.Test.YteancehdiliepaaFrL
namespace Go.Proofs.Yteancehdiliepaa
open Go.RowKit
open IntWalk

theorem drop_succ (S : List UInt8) (k : Nat) (h : k < S.length) : S.drop k = S[k] :: S.drop (k + 1) := List.drop_eq_getElem_cons h
/-- Where the reference's Feed stands: no mark yet. -/
def NoMark (S : List UInt8) (k : Nat) (ls : List (List UInt8)) : Prop := after S = after (S.drop k) ∧ ls = []
/-- .. or the last mark at m. -/
def MarkAt (S : List UInt8) (k m : Nat) (ls : List (List UInt8)) : Prop :=
  ∃ x t0, m < k ∧ S.drop m = 192 :: (x ++ S.drop k) ∧ x.length + m + 1 = k ∧ after S = some t0 ∧ pay [] t0 = ls ++ pay x (S.drop k) ∧ lst [] t0 = lst x (S.drop k)
theorem noMark_step {S : List UInt8} {k : Nat} {ls : List (List UInt8)} (h : NoMark S k ls) (hk : k < S.length) (hc : S[k] ≠ 192) : NoMark S (k + 1) ls := by
  refine ⟨?_, h.2⟩
  rw [h.1, drop_succ S k hk, after, if_neg hc]
theorem noMark_mark {S : List UInt8} {k : Nat} {ls : List (List UInt8)} (h : NoMark S k ls) (hk : k < S.length) (hc : S[k] = 192) : MarkAt S (k + 1) k ls := by
  refine ⟨[], S.drop (k + 1), by omega, ?_, by simp, ?_, ?_, rfl⟩
  · rw [drop_succ S k hk, hc]; rfl
  · rw [h.1, drop_succ S k hk, after, if_pos hc]
  · rw [h.2]; rfl
theorem markAt_step {S : List UInt8} {k m : Nat} {ls : List (List UInt8)} (h : MarkAt S k m ls) (hk : k < S.length) (hc : S[k] ≠ 192) : MarkAt S (k + 1) m ls := by
  obtain ⟨x, t0, h1, h2, h3, h4, h5, h6⟩ := h
  refine ⟨x ++ [S[k]], t0, by omega, ?_, by simp; omega, h4, ?_, ?_⟩
  · rw [h2, drop_succ S k hk]; simp
  · rw [h5, drop_succ S k hk, pay, if_neg hc]
  · rw [h6, drop_succ S k hk, lst, if_neg hc]
theorem markAt_mark {S : List UInt8} {k m : Nat} {ls : List (List UInt8)} (h : MarkAt S k m ls) (hk : k < S.length) (hc : S[k] = 192) : ∃ x, x.length + m + 1 = k ∧ (S.drop m).take (k + 1 - m) = 192 :: (x ++ [192]) ∧ MarkAt S (k + 1) k (ls ++ upk x) := by
  obtain ⟨x, t0, h1, h2, h3, h4, h5, h6⟩ := h
  refine ⟨x, h3, ?_, [], t0, by omega, ?_, by simp, h4, ?_, ?_⟩
  · rw [h2, drop_succ S k hk, hc, show k + 1 - m = (x ++ [192]).length + 1 by simp; omega, List.take_succ_cons, show x ++ 192 :: S.drop (k + 1) = (x ++ [192]) ++ S.drop (k + 1) by simp, List.take_left]
  · rw [drop_succ S k hk, hc]; rfl
  · rw [h5, drop_succ S k hk, pay, if_pos hc, List.append_assoc]
  · rw [h6, drop_succ S k hk, lst, if_pos hc]
theorem markAt_end {S : List UInt8} {m : Nat} {ls : List (List UInt8)} (h : MarkAt S S.length m ls) : feedP S = ls ∧ (feedR S = if S.length - m ≤ 8198 then S.drop m else []) := by
  obtain ⟨x, t0, h1, h2, h3, h4, h5, h6⟩ := h
  rw [List.drop_length] at h2 h5 h6
  unfold feedP feedR
  rw [h4]
  refine ⟨?_, ?_⟩
  · show pay [] t0 = ls
    rw [h5]; simp [pay]
  · show (if (lst [] t0).length + 1 ≤ 8198 then 192 :: lst [] t0 else []) = _
    rw [h6, h2, List.append_nil]
    show (if x.length + 1 ≤ 8198 then 192 :: x else []) = _
    have : S.length - m = x.length + 1 := by omega
    rw [this]
theorem noMark_end {S : List UInt8} {ls : List (List UInt8)} (h : NoMark S S.length ls) : feedP S = [] ∧ feedR S = [] ∧ ls = [] := by
  unfold feedP feedR
  rw [h.1, List.drop_length]
  exact ⟨rfl, rfl, h.2⟩

set_option maxHeartbeats 16000000 in
set_option maxRecDepth 10000 in
theorem rfeed_run (u v : Value) (x y : List UInt8) (w : World) (hx : x.length ≤ 40000) (hy : y.length ≤ 40000) (hu : RdB w u x) (hv : RdB w v y) :
    Calls Try.prog 20 #[u, v] w (GivesF w (x ++ y)) := by
  have HU := Lib.hid hu
  have HV := Lib.hid hv
  have O0 := OwnB.none_ w w.heap.size (Nat.le_refl _)
  obtain ⟨p1, q1, e1, _⟩ := id hu
  obtain ⟨p2, q2, e2, _⟩ := id hv
  obtain ⟨n1, hn1⟩ : ∃ n1, n1 = x.length := ⟨_, rfl⟩
  obtain ⟨n2, hn2⟩ : ∃ n2, n2 = y.length := ⟨_, rfl⟩
  rw [← hn1] at e1
  rw [← hn2] at e2
  subst e1; subst e2
  clear hu hv hn1 hn2
  obtain ⟨S, hS⟩ : ∃ S, S = x ++ y := ⟨_, rfl⟩
  rw [← hS]
  have HS := Lib.hid hS
  have hsl : S.length ≤ 80000 := by rw [hS, List.length_append]; omega
  clear hS
  obtain ⟨i0, hi, hz0, hz1, hz2⟩ := info_parts Try.sliceInfo
  go_enter Try.func20, Try.ntmps20
  go_wp2_with (first
    | (at_builtin; refine wp_app rfl (.tmp 12) (.tmp 13) rfl w.heap.size _ _ [] x rfl rfl O0 HU.out (by simp) (by omega) ?_; intro r1 w1 o1 g1 _)
    | (at_builtin; refine wp_app rfl (.tmp 15) (.tmp 16) rfl w.heap.size _ _ ([] ++ x) y rfl rfl o1 (HV.out.below (grown_below O0 g1)) (by simp; omega) (by omega) ?_; intro r2 w2 o2 g2 _))
  have B2 := Lib.hid ((grown_below O0 g1).trans (grown_below o1 g2))
  have F2 := o2.fr
  have hbs := o2.2
  have eS : [] ++ x ++ y = S := by rw [HS.out]; rfl
  rw [eS] at F2
  obtain ⟨ps, c, es, hc1, hc2, _⟩ := id F2
  have HF2 := Lib.hid F2
  have HP0 : Hid (OwnP w2 w.heap.size (.slice none 0 0) []) := Lib.hid (OwnP.none_ w2 _ hbs)
  clear eS F2 o1 o2 g1 g2 O0 hx hy
  subst es
  unfold maxLen at hc2
  go_loopw [7, 8, 9] (fun pl la i wr => ∃ (k : Nat) (L : Int) (ls : List (List UInt8)), k ≤ S.length ∧ i = .int .i64 k ∧ la = .int .i64 L ∧ Hid ((L = -1 ∧ NoMark S k ls) ∨ ∃ m : Nat, L = m ∧ MarkAt S k m ls) ∧ Fr wr w.heap.size (.slice ps S.length c) S ∧ OwnP wr w.heap.size pl ls ∧ ls.length ≤ k ∧ Below w.heap.size w wr) (fun _ _ i _ => S.length - (intOf i).toNat)
  case atStart => exact ⟨0, -1, [], Nat.zero_le _, rfl, rfl, Lib.hid (.inl ⟨rfl, rfl, rfl⟩), HF2.out, HP0.out, by simp, B2.out⟩
  case round =>
    obtain ⟨k, L, ls, hk, rfl, rfl, HM, hf, hp, hll, hb⟩ := hrel
    have HF := Lib.hid hf
    have HPl := Lib.hid hp
    have HB := Lib.hid hb
    have hbs2 := hb.size
    clear hf hp hb
    by_cases hlt : k < S.length
    · obtain ⟨g, o, c', e, _, _⟩ := fr_form HF.out (fun e => by rw [e] at hlt; exact absurd hlt (by simp))
      injection e with e1 e2 e3
      subst e1; subst e3
      have hc : wr.cell? ⟨g, o + k, none⟩ = some (bv S[k]) := by
        obtain ⟨p, c0, e, _, _, h4⟩ := HF.out.rd
        obtain ⟨b, q, e2, ha⟩ := h4 (fun e => by rw [e] at hlt; exact absurd hlt (by simp))
        injection e with e1 _ _
        rw [e2] at e1
        injection e1 with e1
        injection e1 with e3 e4
        subst e3; subst e4
        exact ha.2 k hlt
      by_cases h1 : S[k] = 192
      · rw [h1] at hc
        have hc' : wr.cell? ⟨g, o + k, none⟩ = some (.int .u8 192) := hc
        clear hc
        rcases HM.out with ⟨hL, hN⟩ | ⟨m, hL, hN⟩
        · have HN : Hid ((((k : Nat) : Int) = -1 ∧ NoMark S (k + 1) ls) ∨ ∃ m : Nat, ((k : Nat) : Int) = m ∧ MarkAt S (k + 1) m ls) := Lib.hid (.inr ⟨k, rfl, noMark_mark hN hlt h1⟩)
          subst hL
          clear hN h1
          go_wp2
          go_roundw
          case rel => exact ⟨k + 1, k, ls, by omega, by go_num, rfl, HN, HF.out, HPl.out, by omega, HB.out⟩
          case measure => simp [intOf]; omega
        · obtain ⟨z, hzl, hzs, hMk⟩ := markAt_mark hN hlt h1
          have hmk : m < k := by omega
          have HSG := Lib.hid hzs
          have HMK := Lib.hid hMk
          subst hL
          clear hN h1 hzs hMk
          go_wp2_with fail
          have hseg : RdB wr (.slice (some ⟨g, o + m, none⟩) (k + 1 - m) (c - m)) (192 :: (z ++ [192])) := by
            have := (HF.out.cut (k := m) (m := k + 1 - m) (c' := c - m) (by omega) (by omega) (by unfold maxLen; omega)).rd
            rw [HSG.out] at this
            exact this
          refine (runpack_run _ _ wr (by simp; omega) hseg).mono ?_
          clear hseg
          cases hr : unR (192 :: (z ++ [192])) with
          | error q =>
            have HU : Hid (upk z = []) := Lib.hid (by unfold upk; rw [hr])
            have hq := unR_err hr
            have q1 : (q == 0) = false := by rw [beq_eq_false_iff_ne]; exact hq
            rintro e w6 ⟨rfl, b6⟩
            have B6 := Lib.hid (HB.out.trans (b6.mono HB.out.size))
            have P6 := Lib.hid (HPl.out.kept b6 (Nat.le_refl _))
            have F6 := Lib.hid (HF.out.kept b6 (Nat.le_refl _))
            have HN : Hid ((((k : Nat) : Int) = -1 ∧ NoMark S (k + 1) ls) ∨ ∃ m : Nat, ((k : Nat) : Int) = m ∧ MarkAt S (k + 1) m ls) := Lib.hid (.inr ⟨k, rfl, by have := HMK.out; rw [HU.out, List.append_nil] at this; exact this⟩)
            clear b6 hr hq
            go_wp2
            go_roundw
            case rel => exact ⟨k + 1, k, ls, by omega, by go_num, rfl, HN, F6.out, P6.out, by omega, B6.out⟩
            case measure => simp [intOf]; omega
          | ok pl =>
            have HU : Hid (upk z = [pl]) := Lib.hid (by unfold upk; rw [hr])
            rintro e w6 ⟨⟨v6, rfl, f6⟩, b6⟩
            have B6 := Lib.hid (HB.out.trans (b6.mono HB.out.size))
            have F6 := Lib.hid (HF.out.kept b6 (Nat.le_refl _))
            have f7 := f6.down HB.out.size
            have HN : Hid ((((k : Nat) : Int) = -1 ∧ NoMark S (k + 1) (ls ++ [pl])) ∨ ∃ m : Nat, ((k : Nat) : Int) = m ∧ MarkAt S (k + 1) m (ls ++ [pl])) := Lib.hid (.inr ⟨k, rfl, by have := HMK.out; rw [HU.out] at this; exact this⟩)
            obtain ⟨vs, ho, hvl, hvb, hv1, hvf⟩ := HPl.out.kept b6 (Nat.le_refl _)
            obtain ⟨pv, cv, ev, _⟩ := id f7
            obtain ⟨nv, hnv⟩ : ∃ nv, nv = pl.length := ⟨_, rfl⟩
            rw [← hnv] at ev
            subst ev
            have HVL := Lib.hid hvl
            have HVF := Lib.hid hvf
            have HV1 := Lib.hid hv1
            have F7 := Lib.hid f7
            have hvn : vs.length ≤ 80000 := by omega
            clear b6 hr f6 f7 hnv hvf hv1 hvl
            go_wp2_with (at_builtin; refine wpList_append_own_at _ rfl _ _ 32 rfl w.heap.size 22 i0 (.slice none 0 0) 1 24 Try.underlying32 hi hz0 hz1 hz2 rfl (by decide) _ _ _ rfl (ho.alloc _) ⟨w6.heap.size, 0, none⟩ 1 1 [.slice pv nv cv] rfl rfl (cell_one_new _ _ _) (by simp [Value.oneCell']) (by unfold maxLen; omega) (by omega) (le_alloc hvb _) ?_; intro v7 w7 hr7 hg7 _ _)
            obtain ⟨o7, b7⟩ := OwnP.more ho HVL.out hvb HV1.out HVF.out F7.out hr7 hg7
            have O7 := Lib.hid o7
            have B7 := Lib.hid (B6.out.trans b7)
            have F8 := Lib.hid (F6.out.grown ho hg7)
            clear o7 b7 hr7 hg7
            go_wp2
            go_roundw
            case rel => exact ⟨k + 1, k, ls ++ [pl], by omega, by go_num, rfl, HN, F8.out, O7.out, by simp; omega, B7.out⟩
            case measure => simp [intOf]; omega
      · have q1 := bne_ S[k] 192 h1
        rw [show (((192 : UInt8).toNat : Nat) : Int) = 192 from rfl] at q1
        have HN : Hid ((L = -1 ∧ NoMark S (k + 1) ls) ∨ ∃ m : Nat, L = m ∧ MarkAt S (k + 1) m ls) := Lib.hid (by
          rcases HM.out with ⟨hL, hN⟩ | ⟨m, hL, hN⟩
          · exact .inl ⟨hL, noMark_step hN hlt h1⟩
          · exact .inr ⟨m, hL, markAt_step hN hlt h1⟩)
        have hxb := S[k].toNat_lt
        obtain ⟨y, hy⟩ : ∃ y, y = S[k].toNat := ⟨_, rfl⟩
        unfold bv at hc
        rw [← hy] at hc q1 hxb
        have q2 : ((y : Int) != 192) = true := by rw [bne, q1]; rfl
        clear hy h1
        go_wp2
        go_roundw
        case rel => exact ⟨k + 1, L, ls, by omega, by go_num, rfl, HN, HF.out, HPl.out, by omega, HB.out⟩
        case measure => simp [intOf]; omega
    · obtain rfl : k = S.length := by omega
      rcases HM.out with ⟨hL, hN⟩ | ⟨m, hL, hN⟩
      · obtain ⟨e1, e2, e3⟩ := noMark_end hN
        subst hL; subst e3
        have HPF := Lib.hid e1
        have HRF := Lib.hid e2
        clear hN e1 e2
        go_wp2
        go_ret2
        exact ⟨⟨_, _, rfl, by rw [HRF.out]; exact rdB_nil _, by rw [HPF.out]; exact HPl.out.rd⟩, HB.out⟩
      · obtain ⟨e1, e2⟩ := markAt_end hN
        have hmk : m < S.length := by obtain ⟨_, _, h, _⟩ := hN; exact h
        have HPF := Lib.hid e1
        have HRF := Lib.hid e2
        subst hL
        clear hN e1 e2
        by_cases hbig : 8198 < S.length - m
        · have HR : Hid (feedR S = []) := Lib.hid (by rw [HRF.out, if_neg (by omega)])
          go_wp2
          go_ret2
          exact ⟨⟨_, _, rfl, by rw [HR.out]; exact rdB_nil _, by rw [HPF.out]; exact HPl.out.rd⟩, HB.out⟩
        · have HR : Hid (feedR S = S.drop m) := Lib.hid (by rw [HRF.out, if_pos (by omega)])
          obtain ⟨g, o, c', e, _, _⟩ := fr_form HF.out (fun e => by rw [e] at hmk; exact absurd hmk (by simp))
          injection e with e1 e2 e3
          subst e1; subst e3
          have hcut := (HF.out.cut (k := m) (m := S.length - m) (c' := c - m) (by omega) (by omega) (by unfold maxLen; omega)).rd
          rw [List.take_of_length_le (by rw [List.length_drop]; omega)] at hcut
          have HCut := Lib.hid hcut
          clear hcut
          go_wp2
          go_ret2
          exact ⟨⟨_, _, rfl, by rw [HR.out]; exact HCut.out, by rw [HPF.out]; exact HPl.out.rd⟩, HB.out⟩
end Go.Proofs.Yteancehdiliepaa
