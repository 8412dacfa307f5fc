/-
  Plain facts on the results of the operations: they are valid and normal, and have the described values.
-/
import Derived.Test.YtapfinnbfnhdbabSerO
namespace Go.Proofs.Ytapfinnbfnhdbab
open Go.RowKit
open Ser
set_option linter.unusedVariables false

theorem asc_at {l : List St} (h : Asc (-1) l) (s : St) (hs : s ∈ l) : s.2 = atL l s.1 := by
  obtain ⟨i, hi, rfl⟩ := List.mem_iff_getElem.1 hs
  rw [atL_of l (-1) _ (i + 1) h (by omega) (fun k hk e => ?_) (fun hk => ?_), atR_succ l i hi]
  · obtain rfl : k = i := by omega
    exact Int.le_refl _
  · exact h.get i (i + 1) hi hk (by omega)
theorem mergeV_time (f : Int → Int → Int) : ∀ (n : Nat) (a b : List St) (x y : Int), a.length + b.length ≤ n → ∀ s ∈ mergeV f x y a b, ∃ u ∈ a ++ b, u.1 = s.1
  | _, [], [], x, y, _, s, hs => by rw [mergeV_nil] at hs; cases hs
  | 0, _ :: _, _, _, _, h, _, _ => absurd h (by simp)
  | 0, [], _ :: _, _, _, h, _, _ => absurd h (by simp)
  | n + 1, z :: a, [], x, y, h, s, hs => by
    rw [mergeV_left] at hs
    rcases List.mem_cons.1 hs with rfl | hs
    · exact ⟨z, by simp, rfl⟩
    · obtain ⟨u, hu, e⟩ := mergeV_time f n a [] z.2 y (by simp at h ⊢; omega) s hs
      exact ⟨u, by simp at hu ⊢; exact .inr hu, e⟩
  | n + 1, [], z :: b, x, y, h, s, hs => by
    rw [mergeV_right] at hs
    rcases List.mem_cons.1 hs with rfl | hs
    · exact ⟨z, by simp, rfl⟩
    · obtain ⟨u, hu, e⟩ := mergeV_time f n [] b x z.2 (by simp at h ⊢; omega) s hs
      exact ⟨u, by simp at hu ⊢; exact .inr hu, e⟩
  | n + 1, z :: a, q :: b, x, y, h, s, hs => by
    simp only [List.length_cons] at h
    by_cases c1 : z.1 < q.1
    · rw [mergeV_lt _ _ _ _ _ _ _ c1] at hs
      rcases List.mem_cons.1 hs with rfl | hs
      · exact ⟨z, by simp, rfl⟩
      · obtain ⟨u, hu, e⟩ := mergeV_time f n a (q :: b) z.2 y (by simp; omega) s hs
        exact ⟨u, by rw [List.cons_append]; exact List.mem_cons_of_mem _ hu, e⟩
    · by_cases c2 : q.1 < z.1
      · rw [mergeV_gt _ _ _ _ _ _ _ c2] at hs
        rcases List.mem_cons.1 hs with rfl | hs
        · exact ⟨q, by simp, rfl⟩
        · obtain ⟨u, hu, e⟩ := mergeV_time f n (z :: a) b x q.2 (by simp; omega) s hs
          refine ⟨u, ?_, e⟩
          rcases List.mem_append.1 hu with h | h
          · exact List.mem_append.2 (.inl h)
          · exact List.mem_append.2 (.inr (List.mem_cons_of_mem _ h))
      · rw [mergeV_eq _ _ _ _ _ _ _ (by omega)] at hs
        rcases List.mem_cons.1 hs with rfl | hs
        · exact ⟨z, by simp, rfl⟩
        · obtain ⟨u, hu, e⟩ := mergeV_time f n a b z.2 q.2 (by omega) s hs
          refine ⟨u, ?_, e⟩
          rcases List.mem_append.1 hu with h | h
          · exact List.mem_append.2 (.inl (List.mem_cons_of_mem _ h))
          · exact List.mem_append.2 (.inr (List.mem_cons_of_mem _ h))
theorem normB_of {l : List St} (h1 : Nrm 0 l) (h2 : Ok l) : normB l = true := by
  unfold normB; rw [(nrmB_iff l 0).2 h1, (ok_iff l).2 h2]; rfl
theorem comb_ok {f : Int → Int → Int} (f0 : f 0 0 = 0) {a b : List St} (ha : Asc (-1) a) (hb : Asc (-1) b) (ht : ∀ u ∈ a ++ b, 0 ≤ u.1 ∧ u.1 ≤ 268435456) (hl : (combL f a b).length ≤ 512)
    (hv : ∀ t, -1099511627776 ≤ f (atL a t) (atL b t) ∧ f (atL a t) (atL b t) ≤ 1099511627776) : Ok (combL f a b) ∧ Nrm 0 (combL f a b) := by
  have F := combL_fin f f0 a b ha hb
  refine ⟨⟨hl, fun s hs => ?_, F.asc⟩, F.nrm⟩
  obtain ⟨u, hu, e⟩ := mergeV_time f _ a b 0 0 (Nat.le_refl _) s (nL_sub _ _ s hs)
  refine (okS_iff s).2 ⟨e ▸ ht u hu, ?_⟩
  rw [asc_at F.asc s hs, F.at_]
  exact hv _
theorem lim_zero {l : List St} (h : limE l = 0) : l.length ≤ 512 ∧ limL l = l := by
  unfold limE at h
  by_cases c : 512 < l.length
  · rw [if_pos c] at h; cases h
  · exact ⟨by omega, if_neg c⟩
/-- What is said of a result: it is normal and valid, ascends, and has these values. -/
structure Good (r : List St) (F : Int → Int) : Prop where
  norm : normB r = true
  asc : Asc (-1) r
  at_ : ∀ t, atL r t = F t
theorem add_pw {a b : List St} (h : addE a b = 0) : Good (addL a b) (fun t => atL a t + atL b t) := by
  unfold addE at h
  by_cases e : bE a b = 0
  · obtain ⟨oa, ob⟩ := bE_ok e
    rw [if_pos e] at h
    have F := combL_fin (cf true) (cf_00 true) a b oa.asc ob.asc
    by_cases hr : inR (combL (cf true) a b) = true
    · rw [if_pos hr] at h
      obtain ⟨h1, h2⟩ := lim_zero h
      have e2 : addL a b = combL (cf true) a b := by unfold addL; rw [if_pos e, if_pos hr, h2]
      rw [e2]
      refine ⟨normB_of F.nrm ⟨h1, fun s hs => ?_, F.asc⟩, F.asc, F.at_⟩
      obtain ⟨u, hu, e3⟩ := mergeV_time (cf true) _ a b 0 0 (Nat.le_refl _) s (nL_sub _ _ s hs)
      exact (okS_iff s).2 ⟨e3 ▸ times_ok oa ob u hu, vB_of (List.all_eq_true.1 hr s hs)⟩
    · rw [if_neg hr] at h; cases h
  · rw [if_neg e] at h; exact absurd h e
theorem least_pw {a b : List St} (h : leastE a b = 0) : Good (leastL a b) (fun t => cf false (atL a t) (atL b t)) := by
  unfold leastE at h
  by_cases e : bE a b = 0
  · obtain ⟨oa, ob⟩ := bE_ok e
    rw [if_pos e] at h
    have F := combL_fin (cf false) (cf_00 false) a b oa.asc ob.asc
    obtain ⟨h1, h2⟩ := lim_zero h
    have e2 : leastL a b = combL (cf false) a b := by unfold leastL; rw [if_pos e, h2]
    rw [e2]
    have K := comb_ok (cf_00 false) oa.asc ob.asc (times_ok oa ob) h1 (fun t => by
      have := atL_bd a t oa.all; have := atL_bd b t ob.all
      show -1099511627776 ≤ min (atL a t) (atL b t) ∧ min (atL a t) (atL b t) ≤ 1099511627776; omega)
    exact ⟨normB_of K.2 K.1, F.asc, F.at_⟩
  · rw [if_neg e] at h; exact absurd h e
theorem clip_pw {l : List St} {f t : Int} (h : clipE l f t = 0) : Good (clipL l f t) (cutF l f t) := by
  unfold clipE at h
  by_cases e : cE l f t = 0
  · obtain ⟨ol, f0, ft, tm⟩ := cE_ok e
    rw [if_pos e] at h
    by_cases c : f = t
    · have e2 : clipL l f t = [] := by unfold clipL; rw [if_pos e, if_pos c]
      rw [e2]
      refine ⟨rfl, trivial, fun t' => ?_⟩
      unfold cutF; rw [if_neg (by omega)]; rfl
    · rw [if_neg c] at h
      have hft : f < t := by omega
      obtain ⟨h1, h2⟩ := lim_zero h
      have e2 : clipL l f t = combL fMul l (insL f t) := by unfold clipL; rw [if_pos e, if_neg c, h2]
      have F := combL_fin fMul fMul_00 l (insL f t) ol.asc (ins_asc f0 hft)
      have hF : ∀ t', fMul (atL l t') (atL (insL f t) t') = cutF l f t t' := fun t' => by
        rw [ins_at hft]; unfold cutF fMul
        by_cases c : f ≤ t' ∧ t' < t
        · rw [if_pos c, if_pos c, Int.mul_one]
        · rw [if_neg c, if_neg c, Int.mul_zero]
      rw [e2]
      have K := comb_ok fMul_00 ol.asc (ins_asc f0 hft) (fun u hu => by
          rcases List.mem_append.1 hu with h | h
          · exact ((okS_iff u).1 (ol.all u h)).1
          · simp only [insL, List.mem_cons, List.not_mem_nil, or_false] at h
            rcases h with rfl | rfl
            · exact ⟨f0, by show f ≤ 268435456; omega⟩
            · exact ⟨by show 0 ≤ t; omega, tm⟩) h1 (fun t' => by
        rw [hF]; unfold cutF
        have := atL_bd l t' ol.all
        split <;> omega)
      exact ⟨normB_of K.2 K.1, F.asc, fun t' => (F.at_ t').trans (hF t')⟩
  · rw [if_neg e] at h; exact absurd h e
theorem sh_pw {l : List St} {m : Int} (h : shE l m = 0) : Good (shL l m) (fun t => atL l (t - m)) ∧ (l ≠ [] → -268435456 ≤ m ∧ m ≤ 268435456) := by
  unfold shE at h
  by_cases e : validE l = 0
  · have ol := (ok_iff l).1 e
    rw [if_pos e] at h
    by_cases c : mvOk m l = true
    · have om := mv_ok ol c
      have e2 : shL l m = nL 0 (mvL m l) := by unfold shL; rw [if_pos e, if_pos c]
      have F := nL_fin (mvL m l) om.asc
      rw [e2]
      refine ⟨⟨normB_of F.nrm ⟨?_, fun s hs => om.all s (nL_sub _ _ s hs), F.asc⟩, F.asc, fun t => (F.at_ t).trans (mv_at m t l 0)⟩, fun hne => ?_⟩
      · have := nL_len (mvL m l) 0; have := om.len; omega
      · obtain ⟨s, hs⟩ := List.exists_mem_of_ne_nil l hne
        have h1 := List.all_eq_true.1 c s hs
        have h2 := ((okS_iff s).1 (ol.all s hs)).1
        unfold mvB at h1
        simp at h1
        omega
    · rw [if_neg c] at h; cases h
  · rw [if_neg e] at h; exact absurd h e
theorem sh_nil {a : List St} {m : Int} (h : a = []) : shL a m = [] := by
  subst h; unfold shL; split
  · split <;> rfl
  · rfl
/-- What an energy without an error is. -/
theorem en_ok {l : List St} {f t : Int} (h : enE l f t = 0) : Ok l ∧ (0 ≤ f ∧ f ≤ t ∧ t ≤ 268435456) ∧ enV l f t = enR f t l ∧ -9223372036854775808 ≤ enR f t l ∧ enR f t l ≤ 9223372036854775807 := by
  unfold enE at h
  by_cases e : cE l f t = 0
  · obtain ⟨ol, hs⟩ := cE_ok e
    rw [if_pos e] at h
    by_cases c : fitB (enR f t l) = true
    · refine ⟨ol, hs, ?_, fit_bd c⟩
      unfold enV; rw [if_pos e, if_pos c]
    · rw [if_neg c] at h; cases h
  · rw [if_neg e] at h; exact absurd h e
theorem en_split {l : List St} {f m t : Int} (h1 : enE l f t = 0) (h2 : enE l f m = 0) (h3 : enE l m t = 0) : enV l f m + enV l m t = enV l f t ∧ -9223372036854775808 ≤ enV l f t ∧ enV l f t ≤ 9223372036854775807 := by
  obtain ⟨o1, s1, v1, w1⟩ := en_ok h1
  obtain ⟨_, s2, v2, _⟩ := en_ok h2
  obtain ⟨_, s3, v3, _⟩ := en_ok h3
  rw [v1, v2, v3]
  refine ⟨?_, w1⟩
  have := enR_split l o1.asc f m s2.2.1 (t - m).toNat
  rw [show m + ((t - m).toNat : Int) = t by omega] at this
  exact this.symm
theorem en_add {a b : List St} {f t : Int} (ha : addE a b = 0) (h1 : enE a f t = 0) (h2 : enE b f t = 0) (h3 : enE (addL a b) f t = 0) : enV a f t + enV b f t = enV (addL a b) f t ∧ -9223372036854775808 ≤ enV (addL a b) f t ∧ enV (addL a b) f t ≤ 9223372036854775807 := by
  obtain ⟨o1, s1, v1, w1⟩ := en_ok h1
  obtain ⟨o2, _, v2, _⟩ := en_ok h2
  obtain ⟨o3, _, v3, w3⟩ := en_ok h3
  rw [v1, v2, v3]
  refine ⟨?_, w3⟩
  have := enR_add a b (addL a b) o1.asc o2.asc o3.asc (add_pw ha).at_ f (t - f).toNat
  rw [show f + ((t - f).toNat : Int) = t by omega] at this
  exact this.symm
end Go.Proofs.Ytapfinnbfnhdbab
