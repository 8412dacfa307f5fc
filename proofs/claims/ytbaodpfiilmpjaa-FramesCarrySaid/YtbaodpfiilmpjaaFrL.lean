/-
  What Feed returns.
-/
import Derived.Test.YtbaodpfiilmpjaaFrK
namespace Go.Proofs.Ytbaodpfiilmpjaa.F
open Go.RowKit
open IntWalk

/-- The rest and the payloads of a stream. -/
def GivesF (w : World) (s : List UInt8) (e : Ending) (w' : World) : Prop :=
  (∃ r l, e = .returned (.tuple #[r, l]) ∧ RdB w' r (feedR s) ∧ RdP w' l (feedP s)) ∧ Below w.heap.size w w'
/-- Likewise, in blocks that were made since. -/
def GivesG (w : World) (s : List UInt8) (e : Ending) (w' : World) : Prop :=
  (∃ r l, e = .returned (.tuple #[r, l]) ∧ Fr w' w.heap.size r (feedR s) ∧ OwnP w' w.heap.size l (feedP s)) ∧ Below w.heap.size w w'
theorem fr_nil (w : World) (base : Nat) : Fr w base (.slice none 0 0) [] := ⟨none, 0, rfl, Nat.le_refl _, Nat.zero_le _, fun h => absurd rfl h⟩
theorem rdB_nil (w : World) : RdB w (.slice none 0 0) [] := ⟨none, 0, rfl, Nat.le_refl _, Nat.zero_le _, fun h => absurd rfl h⟩
theorem rdP_nil (w : World) : RdP w (.slice none 0 0) [] := (OwnP.none_ w 0 (Nat.zero_le _)).rd
theorem lit_pair (w : World) (u v : Value) : (w.alloc (.cells #[u, v] 23)).heap[w.heap.size]? = some (.cells #[u, v] 23 (0, 0)) := heap_alloc_new w _
theorem RdB.more {w : World} {v : Value} {l : List UInt8} (h : RdB w v l) (o : Obj) : RdB (w.alloc o) v l := h.below ((Below.refl _ w).alloc (Nat.le_refl _) o)
theorem fr_form {w : World} {base : Nat} {v : Value} {l : List UInt8} (h : Fr w base v l) (hl : l ≠ []) : ∃ g o c, v = .slice (some ⟨g, o, none⟩) l.length c ∧ l.length ≤ c ∧ c ≤ 9223372036854775807 := by
  obtain ⟨p, c, rfl, h2, h3, h4⟩ := h
  obtain ⟨g, o, cs, rfl, _⟩ := h4 hl
  exact ⟨g, o, c, rfl, h2, h3⟩
/-- A part of a made row. -/
theorem Fr.cut {w : World} {base g o c m k c' : Nat} {l : List UInt8} (h : Fr w base (.slice (some ⟨g, o, none⟩) l.length c) l) (hk : k + m ≤ l.length) (hm : m ≤ c') (hc : c' ≤ maxLen) : Fr w base (.slice (some ⟨g, o + k, none⟩) m c') ((l.drop k).take m) := by
  have hlen : ((l.drop k).take m).length = m := by rw [List.length_take, List.length_drop]; omega
  refine ⟨some ⟨g, o + k, none⟩, c', by rw [hlen], by omega, hc, fun hn => ?_⟩
  obtain ⟨p, c0, e, h2, h3, h4⟩ := h
  have hl : l ≠ [] := fun e => by subst e; simp at hn
  obtain ⟨g', o', cs, e2, hb, hh, hcs⟩ := h4 hl
  injection e with e1 _ _
  rw [e2] at e1
  injection e1 with e1
  injection e1 with e3 e4
  subst e3; subst e4
  refine ⟨g, o + k, cs, rfl, hb, hh, fun i hi => ?_⟩
  rw [hlen] at hi
  rw [Nat.add_assoc, hcs (k + i) (by omega)]
  simp

theorem unR_err {l : List UInt8} {k : Int} (h : unR l = .error k) : k ≠ 0 := by
  unfold unR at h
  split at h
  · rename_i e
    injection h with h
    subst h
    rcases contR_err e with e | e <;> omega
  · unfold sumR at h
    split at h
    · injection h with h; omega
    · split at h
      · injection h with h; omega
      · split at h
        · cases h
        · injection h with h; omega
set_option maxHeartbeats 16000000 in
set_option maxRecDepth 10000 in
theorem feed_own (u v : Value) (x y : List UInt8) (w : World) (hx : x.length ≤ 40000) (hy : y.length ≤ 40000) (hu : RdB w u x) (hv : RdB w v y) :
    Calls Try.prog 7 #[u, v] w (GivesG w (x ++ y)) := by
  have CC : Hid (Calls Try.prog 16 #[.slice (some ⟨w.heap.size, 0, none⟩) 2 2] (w.alloc (.cells #[u, v] 23)) fun e w' => (∃ r, e = .returned r ∧ OwnB w' w.heap.size r (x ++ y)) ∧ Below w.heap.size w w') := Lib.hid (by
    have hb : Below w.heap.size w (w.alloc (.cells #[u, v] 23)) := (Below.refl _ w).alloc (Nat.le_refl _) _
    refine (concat_run w.heap.size u v x y _ (hu.more _) (hv.more _) (by omega) (by omega) (lit_pair w u v)).mono ?_
    rintro e w' ⟨⟨r, he, ho⟩, b⟩
    exact ⟨⟨r, he, own_base ho (by simp)⟩, hb.trans (b.mono (by simp))⟩)
  obtain ⟨p1, q1, e1, _⟩ := id hu
  obtain ⟨p2, q2, e2, _⟩ := id hv
  obtain ⟨n1, hn1⟩ : ∃ n1, n1 = x.length := ⟨_, rfl⟩
  obtain ⟨n2, hn2⟩ : ∃ n2, n2 = y.length := ⟨_, rfl⟩
  rw [← hn1] at e1
  rw [← hn2] at e2
  subst e1; subst e2
  have hsl : (x ++ y).length ≤ 80000 := by rw [List.length_append]; omega
  obtain ⟨S, hS⟩ : ∃ S, S = x ++ y := ⟨_, rfl⟩
  rw [← hS] at CC hsl ⊢
  clear hu hv hS hx hy hn1 hn2
  by_cases hm : (192 : UInt8) ∈ S
  · obtain ⟨pre, t0, hpre, hpn⟩ := split_mark S hm
    have hne : S ≠ [] := fun e => by rw [e] at hm; cases hm
    have HI : Hid (idx S = pre.length) := Lib.hid (by rw [hpre]; exact idx_some pre t0 hpn)
    have HA : Hid (after S = some t0) := Lib.hid (by rw [hpre]; exact after_some pre t0 hpn)
    have hk0 : pre.length < S.length := by rw [hpre, List.length_append, List.length_cons]; omega
    have HD0 : Hid (S.drop pre.length = 192 :: t0) := Lib.hid (by rw [hpre, List.drop_left])
    clear hpre hpn hm
    obtain ⟨i0, hi, hz0, hz1, hz2⟩ := info_parts Try.sliceInfo
    go_enter Try.func7, Try.ntmps7
    go_wp2_with fail
    refine CC.out.mono ?_
    rintro e w1 ⟨⟨r, rfl, o1⟩, b1⟩
    have B1 := Lib.hid b1
    have F1 := o1.fr
    have hbs := o1.2
    obtain ⟨g, o, c, rfl, hc1, hc2⟩ := fr_form F1 hne
    have HF1 := Lib.hid F1
    clear b1 o1 F1
    go_wp2_with fail
    refine (index_run _ S w1 HF1.out.rd (.inr ⟨_, _, _, rfl⟩)).mono ?_
    rintro e w2 ⟨rfl, rfl⟩
    rw [HI.out]
    go_wp2
    have HP0 : Hid (OwnP w1 w.heap.size (.slice none 0 0) []) := Lib.hid (OwnP.none_ w1 _ hbs)
    go_loopw [7, 8] (fun bg pl wr => ∃ (k : Nat) (t : List UInt8) (ls : List (List UInt8)), k < S.length ∧ bg = .int .i64 k ∧ Hid (S.drop k = 192 :: t) ∧ Hid (pay [] t0 = ls ++ pay [] t) ∧ Hid (lst [] t0 = lst [] t) ∧ Fr wr w.heap.size (.slice (some ⟨g, o, none⟩) S.length c) S ∧ OwnP wr w.heap.size pl ls ∧ ls.length ≤ k ∧ Below w.heap.size w wr) (fun bg _ _ => S.length - (intOf bg).toNat)
    case atStart => exact ⟨pre.length, t0, [], hk0, rfl, HD0, Lib.hid rfl, Lib.hid rfl, HF1.out, HP0.out, by simp, B1.out⟩
    case round =>
      obtain ⟨k, t, ls, hk, rfl, HD, HPay, HLst, hf, hp, hll, hb⟩ := hrel
      have HF := Lib.hid hf
      have HPl := Lib.hid hp
      have HB := Lib.hid hb
      have hbs2 := hb.size
      have htl : t.length = S.length - (k + 1) := by
        have := congrArg List.length HD.out
        rw [List.length_drop, List.length_cons] at this; omega
      have hdt : S.drop (k + 1) = t := by
        have := congrArg (List.drop 1) HD.out
        rw [List.drop_drop] at this
        exact this
      have HDT := Lib.hid hdt
      have HTL := Lib.hid htl
      clear hf hp hb htl hdt
      by_cases hcap : c = k + 1
      · have ht : t = [] := List.length_eq_zero_iff.1 (by rw [HTL.out]; omega)
        have hmt : (192 : UInt8) ∉ t := by rw [ht]; simp
        have hS1 : S.length = k + 1 := by omega
        have CI := Lib.hid (index_run (.slice (some ⟨g, o, none⟩) 0 0) [] wr ⟨_, 0, rfl, Nat.le_refl _, Nat.zero_le _, fun h => absurd rfl h⟩ (.inr ⟨_, _, _, rfl⟩))
        rw [show idx [] = -1 from idx_none [] (by simp)] at CI
        clear ht
        go_wp2_with fail
        refine CI.out.mono ?_
        rintro e w5 ⟨rfl, rfl⟩
        have HPF : Hid (feedP S = ls) := Lib.hid (by unfold feedP; rw [HA.out]; show pay [] t0 = ls; rw [HPay.out, pay_stop t hmt, List.append_nil])
        have HR : Hid (feedR S = 192 :: t) := Lib.hid (by
          unfold feedR; rw [HA.out]; show (if (lst [] t0).length + 1 ≤ 8198 then 192 :: lst [] t0 else []) = _; rw [HLst.out, lst_stop t hmt, List.nil_append, if_pos (by rw [HTL.out]; omega)])
        have hcut : RdB wr (.slice (some ⟨g, o + k, none⟩) 1 1) (192 :: t) := by
          have := (HF.out.cut (k := k) (m := 1) (c' := 1) (by omega) (by omega) (by unfold maxLen; omega)).rd
          rw [HD.out, List.take_of_length_le (by rw [List.length_cons, HTL.out]; omega)] at this
          exact this
        have CL := Lib.hid (clone_run _ (192 :: t) wr hcut (by rw [List.length_cons, HTL.out]; omega) (by simp))
        clear hcut
        go_wp2_with fail
        refine CL.out.mono ?_
        rintro e w6 ⟨⟨v6, rfl, o6⟩, b6⟩
        have O6 := Lib.hid o6
        have B6 := Lib.hid (HB.out.trans (b6.mono HB.out.size))
        have P6 := Lib.hid (HPl.out.kept b6 (Nat.le_refl _))
        clear o6 b6
        go_wp2
        go_ret2
        exact ⟨⟨_, _, rfl, by rw [HR.out]; exact O6.out.fr.down HB.out.size, by rw [HPF.out]; exact P6.out⟩, B6.out⟩
      · have hcut : RdB wr (.slice (some ⟨g, o + (k + 1), none⟩) (S.length - (k + 1)) (c - (k + 1))) t := by
          have := (HF.out.cut (k := k + 1) (m := S.length - (k + 1)) (c' := c - (k + 1)) (by omega) (by omega) (by unfold maxLen; omega)).rd
          rw [HDT.out, List.take_of_length_le (by rw [HTL.out]; omega)] at this
          exact this
        have CI := Lib.hid (index_run _ t wr hcut (.inr ⟨_, _, _, rfl⟩))
        clear hcut
        by_cases hmt : (192 : UInt8) ∈ t
        · obtain ⟨z, t', hz, hzn⟩ := split_mark t hmt
          have e : idx t = (z.length : Int) := by rw [hz]; exact idx_some z t' hzn
          rw [e] at CI
          have hzl : k + z.length + 2 ≤ S.length := by
            have := HTL.out
            rw [hz, List.length_append, List.length_cons] at this; omega
          have HN1 : Hid (S.drop (k + 1 + z.length) = 192 :: t') := Lib.hid (by
            rw [← List.drop_drop, HDT.out, hz, List.drop_left])
          have HN2 : Hid (pay [] t0 = (ls ++ upk z) ++ pay [] t') := Lib.hid (by rw [HPay.out, hz, pay_jump z hzn, List.append_assoc]; rfl)
          have HN3 : Hid (lst [] t0 = lst [] t') := Lib.hid (by rw [HLst.out, hz, lst_jump z hzn])
          have HSG : Hid ((S.drop k).take (z.length + 2) = 192 :: (z ++ [192])) := Lib.hid (by
            rw [HD.out, hz, show z.length + 2 = (z ++ [192]).length + 1 by simp, List.take_succ_cons, show z ++ 192 :: t' = (z ++ [192]) ++ t' by simp, List.take_left])
          clear e hz hzn hmt
          go_wp2_with fail
          refine CI.out.mono ?_
          rintro e w5 ⟨rfl, rfl⟩
          go_wp2_with fail
          have EM : k + 1 + z.length + 1 - k = z.length + 2 := by omega
          rw [EM]
          clear EM
          have hseg : RdB wr (.slice (some ⟨g, o + k, none⟩) (z.length + 2) (z.length + 2)) (192 :: (z ++ [192])) := by
            have := (HF.out.cut (k := k) (m := z.length + 2) (c' := z.length + 2) (by omega) (by omega) (by unfold maxLen; omega)).rd
            rw [HSG.out] at this
            exact this
          refine (unpack_run _ _ wr (by simp; omega) hseg).mono ?_
          clear hseg
          cases hr : unR (192 :: (z ++ [192])) with
          | error q =>
            have HU : Hid (upk z = []) := Lib.hid (by unfold upk; rw [hr])
            have hq := unR_err hr
            have q1 : (q == 0) = false := by rw [beq_eq_false_iff_ne]; exact hq
            rintro e w6 ⟨rfl, b6⟩
            have B6 := Lib.hid (HB.out.trans (b6.mono HB.out.size))
            have P6 := Lib.hid (HPl.out.kept b6 (Nat.le_refl _))
            have F6 := Lib.hid (HF.out.kept b6 (Nat.le_refl _))
            clear b6 hr hq
            go_wp2
            go_roundw
            case rel => exact ⟨k + 1 + z.length, t', ls, by omega, by go_num, HN1.out |> Lib.hid, Lib.hid (by rw [HN2.out, HU.out, List.append_nil]), HN3, F6.out, P6.out, by omega, B6.out⟩
            case measure => simp [intOf]; omega
          | ok pl =>
            have HU : Hid (upk z = [pl]) := Lib.hid (by unfold upk; rw [hr])
            rintro e w6 ⟨⟨v6, rfl, f6⟩, b6⟩
            have B6 := Lib.hid (HB.out.trans (b6.mono HB.out.size))
            have F6 := Lib.hid (HF.out.kept b6 (Nat.le_refl _))
            have f7 := f6.down HB.out.size
            obtain ⟨vs, ho, hvl, hvb, hv1, hvf⟩ := HPl.out.kept b6 (Nat.le_refl _)
            obtain ⟨pv, cv, ev, _⟩ := id f7
            obtain ⟨nv, hnv⟩ : ∃ nv, nv = pl.length := ⟨_, rfl⟩
            rw [← hnv] at ev
            subst ev
            have HVL := Lib.hid hvl
            have HVF := Lib.hid hvf
            have HV1 := Lib.hid hv1
            have F7 := Lib.hid f7
            have hvn : vs.length ≤ 80000 := by omega
            clear b6 hr f6 f7 hnv hvf hv1 hvl
            go_wp2_with (at_builtin; refine wpList_append_own_at _ rfl _ _ 22 rfl w.heap.size 23 i0 (.slice none 0 0) 1 24 Try.underlying22 hi hz0 hz1 hz2 rfl (by decide) _ _ _ rfl (ho.alloc _) ⟨w6.heap.size, 0, none⟩ 1 1 [.slice pv nv cv] rfl rfl (cell_one_new _ _ _) (by simp [Value.oneCell']) (by unfold maxLen; omega) (by omega) (le_alloc hvb _) ?_; intro v7 w7 hr7 hg7 _ _)
            obtain ⟨o7, b7⟩ := OwnP.more ho HVL.out hvb HV1.out HVF.out F7.out hr7 hg7
            have O7 := Lib.hid o7
            have B7 := Lib.hid (B6.out.trans b7)
            have F8 := Lib.hid (F6.out.grown ho hg7)
            clear o7 b7 hr7 hg7
            go_wp2
            go_roundw
            case rel => exact ⟨k + 1 + z.length, t', ls ++ [pl], by omega, by go_num, HN1.out |> Lib.hid, Lib.hid (by rw [HN2.out, HU.out]), HN3, F8.out, O7.out, by simp; omega, B7.out⟩
            case measure => simp [intOf]; omega
        · have e : idx t = -1 := idx_none t hmt
          rw [e] at CI
          clear e
          go_wp2_with fail
          refine CI.out.mono ?_
          rintro e w5 ⟨rfl, rfl⟩
          have HPF : Hid (feedP S = ls) := Lib.hid (by unfold feedP; rw [HA.out]; show pay [] t0 = ls; rw [HPay.out, pay_stop t hmt, List.append_nil])
          have HRF : Hid (feedR S = if t.length + 1 ≤ 8198 then 192 :: t else []) := Lib.hid (by unfold feedR; rw [HA.out]; show (if (lst [] t0).length + 1 ≤ 8198 then 192 :: lst [] t0 else []) = _; rw [HLst.out, lst_stop t hmt]; rfl)
          by_cases hbig : 8198 < S.length - k
          · have HR : Hid (feedR S = []) := Lib.hid (by rw [HRF.out, if_neg (by rw [HTL.out]; omega)])
            go_wp2
            go_ret2
            exact ⟨⟨_, _, rfl, by rw [HR.out]; exact fr_nil _ _, by rw [HPF.out]; exact HPl.out⟩, HB.out⟩
          · have HR : Hid (feedR S = 192 :: t) := Lib.hid (by rw [HRF.out, if_pos (by rw [HTL.out]; omega)])
            have hcut : RdB wr (.slice (some ⟨g, o + k, none⟩) (S.length - k) (c - k)) (192 :: t) := by
              have := (HF.out.cut (k := k) (m := S.length - k) (c' := c - k) (by omega) (by omega) (by unfold maxLen; omega)).rd
              rw [HD.out, List.take_of_length_le (by rw [List.length_cons, HTL.out]; omega)] at this
              exact this
            have CL := Lib.hid (clone_run _ (192 :: t) wr hcut (by rw [List.length_cons, HTL.out]; omega) (by simp))
            clear hcut
            go_wp2_with fail
            refine CL.out.mono ?_
            rintro e w6 ⟨⟨v6, rfl, o6⟩, b6⟩
            have O6 := Lib.hid o6
            have B6 := Lib.hid (HB.out.trans (b6.mono HB.out.size))
            have P6 := Lib.hid (HPl.out.kept b6 (Nat.le_refl _))
            clear o6 b6
            go_wp2
            go_ret2
            exact ⟨⟨_, _, rfl, by rw [HR.out]; exact O6.out.fr.down HB.out.size, by rw [HPF.out]; exact P6.out⟩, B6.out⟩
  · have HI : Hid (idx S = -1) := Lib.hid (idx_none S hm)
    have HP : Hid (feedP S = [] ∧ feedR S = []) := Lib.hid (by unfold feedP feedR; rw [after_none S hm]; exact ⟨rfl, rfl⟩)
    clear hm
    go_enter Try.func7, Try.ntmps7
    go_wp2_with fail
    refine CC.out.mono ?_
    rintro e w1 ⟨⟨r, rfl, o1⟩, b1⟩
    have B1 := Lib.hid b1
    have F1 := Lib.hid o1
    clear b1 o1
    go_wp2_with fail
    refine (index_run _ S w1 F1.out.rd ?_).mono ?_
    · rcases F1.out.1.2 with ⟨e, _⟩ | ⟨g, cap, cur, e, _⟩
      · exact .inl e
      · exact .inr ⟨_, _, _, e⟩
    rintro e w2 ⟨rfl, rfl⟩
    rw [HI.out]
    go_wp2
    go_ret2
    exact ⟨⟨_, _, rfl, by rw [HP.out.2]; exact fr_nil _ _, by rw [HP.out.1]; exact OwnP.none_ _ _ B1.out.size⟩, B1.out⟩
theorem feed_run (u v : Value) (x y : List UInt8) (w : World) (hx : x.length ≤ 40000) (hy : y.length ≤ 40000) (hu : RdB w u x) (hv : RdB w v y) :
    Calls Try.prog 7 #[u, v] w (GivesF w (x ++ y)) :=
  (feed_own u v x y w hx hy hu hv).mono fun _ _ ⟨⟨r, l, he, h1, h2⟩, hb⟩ => ⟨⟨r, l, he, h1.rd, h2.rd⟩, hb⟩
end Go.Proofs.Ytbaodpfiilmpjaa.F
