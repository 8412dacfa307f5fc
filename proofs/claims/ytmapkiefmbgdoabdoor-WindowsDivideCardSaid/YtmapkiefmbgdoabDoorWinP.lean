/-
  Plain facts: the next change of a window, as the reference looks for it.
-/
import Derived.Test.YtmapkiefmbgdoabDoorWinN
namespace Go.Proofs.YtmapkiefmbgdoabDoor
open Go.RowKit
open Cal
set_option linter.unusedVariables false

def waitI (a m : Int) : Int := if a < m then m - a else m - a + 1440
theorem waitI_bd (a m : Int) (a0 : 0 ≤ a) (a1 : a ≤ 1439) (m0 : 0 ≤ m) (m1 : m ≤ 1439) : 1 ≤ waitI a m ∧ waitI a m ≤ 1440 := by unfold waitI; split <;> omega
theorem waitI_not (L m k : Int) (m0 : 0 ≤ m) (m1 : m ≤ 1439) (k0 : 1 ≤ k) (k1 : k < waitI (L % 1440) m) : (L + k) % 1440 ≠ m := by
  unfold waitI at k1
  split at k1 <;> omega
/-- The next time at which the reference looks. -/
noncomputable def candI (s e f u o : Int) (sm : Bool) (t : Int) : Int :=
  let m := (t + offI o sm t) % 1440
  let n := min (min (min (waitI m s) (waitI m e)) (waitI m 0)) (waitI (t % 1440) 60)
  let u1 := if t < f then min (t + n) f else t + n
  if t < u then min u1 u else u1
theorem summer_same {t : Int} (t0 : 0 ≤ t) (n : Nat) (t1 : t + n ≤ 268435456) (h : (n : Int) < waitI (t % 1440) 60) : summerB (t + n) = summerB t := by
  refine Classical.byContradiction fun hne => ?_
  obtain ⟨q, q1, q2, q3⟩ := step_ex summerB t n hne
  obtain ⟨y, m, _, hy⟩ := sun_change q (by omega) (by omega) q3
  exact waitI_not t 60 (q + 1 - t) (by decide) (by decide) (by omega) (by omega) (by omega)
variable {d s e f u o : Int} {sm : Bool} {t : Int}
theorem cand_facts (hok : OkW d s e f u) (o0 : -840 ≤ o) (o1 : o ≤ 840) (t0 : 0 ≤ t) (t1 : t ≤ 268435456) :
    t < candI s e f u o sm t ∧ candI s e f u o sm t ≤ t + 1440 ∧ ∀ v, t < v → v < candI s e f u o sm t → v ≤ 268435456 → hB d s e f u o sm v = hB d s e f u o sm (v - 1) := by
  obtain ⟨_, hs, he, hf, hu⟩ := hok
  obtain ⟨F, hF⟩ : ∃ F, offI o sm t = F := ⟨_, rfl⟩
  have b1 := waitI_bd ((t + F) % 1440) s (by omega) (by omega) hs.1 hs.2
  have b2 := waitI_bd ((t + F) % 1440) e (by omega) (by omega) he.1 he.2
  have b3 := waitI_bd ((t + F) % 1440) 0 (by omega) (by omega) (by decide) (by decide)
  have b4 := waitI_bd (t % 1440) 60 (by omega) (by omega) (by decide) (by decide)
  have hr : t < candI s e f u o sm t ∧ candI s e f u o sm t ≤ t + waitI ((t + F) % 1440) s ∧ candI s e f u o sm t ≤ t + waitI ((t + F) % 1440) e ∧ candI s e f u o sm t ≤ t + waitI ((t + F) % 1440) 0 ∧ candI s e f u o sm t ≤ t + waitI (t % 1440) 60 ∧
      (t < f → candI s e f u o sm t ≤ f) ∧ (t < u → candI s e f u o sm t ≤ u) := by
    unfold candI
    rw [hF]
    simp only
    split <;> split <;> omega
  obtain ⟨r0, r1, r2, r3, r4, r5, r6⟩ := hr
  refine ⟨r0, by omega, fun v v1 v2 v3 => ?_⟩
  have sm1 := summer_same t0 (v - t).toNat (by omega) (by omega)
  have sm2 := summer_same t0 (v - 1 - t).toNat (by omega) (by omega)
  rw [show t + ((v - t).toNat : Int) = v by omega] at sm1
  rw [show t + ((v - 1 - t).toNat : Int) = v - 1 by omega] at sm2
  have f1 : offI o sm v = F := by rw [← hF]; exact offI_same sm1
  have f2 : offI o sm (v - 1) = F := by rw [← hF]; exact offI_same sm2
  have n1 := waitI_not (t + F) s (v - t) hs.1 hs.2 (by omega) (by omega)
  have n2 := waitI_not (t + F) e (v - t) he.1 he.2 (by omega) (by omega)
  have n3 := waitI_not (t + F) 0 (v - t) (by decide) (by decide) (by omega) (by omega)
  rw [show t + F + (v - t) = v + F by omega] at n1 n2 n3
  have hd : dB d s e o sm v = dB d s e o sm (v - 1) := by
    unfold dB
    rw [f1, f2, lB_calm d s e (v + F) hs he (by unfold tgt; split <;> simp [n1, n2, n3]), show v + F - 1 = v - 1 + F by omega]
  unfold hB
  rw [hd]
  congr 1
  rw [Bool.eq_iff_iff]
  simp only [decide_eq_true_eq]
  omega
/-- The time from which the reference looks. -/
def fromI (t f : Int) : Int := if t < f - 1 then f - 1 else t
theorem from_quiet (hok : OkW d s e f u) (t0 : 0 ≤ t) : ∀ v, t < v → v ≤ fromI t f → hB d s e f u o sm v = hB d s e f u o sm (v - 1) := by
  intro v h1 h2
  unfold fromI at h2
  rw [hB_out (by split at h2 <;> omega), hB_out (by split at h2 <;> omega)]
/-- It has met a change. -/
theorem rx_hit (hok : OkW d s e f u) (o0 : -840 ≤ o) (o1 : o ≤ 840) (t0 : 0 ≤ t) (t1 : t ≤ 268435456) {U : Int} (h1 : fromI t f < U) (h2 : U ≤ 268435456) (hq : ∀ v, fromI t f < v → v < U → v ≤ 268435456 → hB d s e f u o sm v = hB d s e f u o sm (v - 1))
    (hx : hB d s e f u o sm U ≠ hB d s e f u o sm (U - 1)) : NX (hB d s e f u o sm) t U := by
  have hft : t ≤ fromI t f := by unfold fromI; split <;> omega
  refine .inr ⟨by omega, h2, hx, fun v v1 v2 => ?_⟩
  by_cases h : v ≤ fromI t f
  · exact from_quiet hok t0 v v1 h
  · exact hq v (by omega) v2 (by omega)
/-- It has met none within 15 days. -/
theorem rx_none (hok : OkW d s e f u) (o0 : -840 ≤ o) (o1 : o ≤ 840) (t0 : 0 ≤ t) (t1 : t ≤ 268435456) {U : Int} (h1 : fromI t f < U) (h2 : fromI t f + 21600 < U ∨ 268435456 < U) (hq : ∀ v, fromI t f < v → v < U → v ≤ 268435456 → hB d s e f u o sm v = hB d s e f u o sm (v - 1)) :
    NX (hB d s e f u o sm) t (if fromI t f < u ∧ hB d s e f u o sm (u - 1) = true then u else -1) := by
  have hft : t ≤ fromI t f := by unfold fromI; split <;> omega
  have hlow := from_quiet (o := o) (sm := sm) hok t0
  obtain ⟨t', ht'⟩ : ∃ t', fromI t f = t' := ⟨_, rfl⟩
  have hf1 : f ≤ t' + 1 := by rw [← ht']; unfold fromI; split <;> omega
  have hf2 : t' ≤ 268435456 := by rw [← ht']; unfold fromI; have := hok.2.2.2.1; split <;> omega
  rw [ht'] at hft h1 h2 hq hlow ⊢
  have hfu := hok.2.2.2
  -- all the values from t' on, up to the last time that was looked at
  have hval : ∀ v, t' ≤ v → v < U → v ≤ 268435456 → hB d s e f u o sm v = hB d s e f u o sm t' := fun v v1 v2 v3 =>
    const_of (hB d s e f u o sm) t' v (fun x x1 x2 => hq x x1 (by omega) (by omega)) v v1 (Int.le_refl _)
  have fin : (∀ v, t' < v → v ≤ 268435456 → hB d s e f u o sm v = hB d s e f u o sm (v - 1)) → ∀ v, t < v → v ≤ 268435456 → hB d s e f u o sm v = hB d s e f u o sm (v - 1) := fun h v v1 v2 => by
    by_cases c : v ≤ t'
    · exact hlow v v1 c
    · exact h v (by omega) v2
  by_cases hM : 268435456 < U
  · -- the end of time has come
    have hno : ¬ (t' < u ∧ hB d s e f u o sm (u - 1) = true) := fun ⟨a, b⟩ => by
      have := hval u (by omega) (by omega) (by omega)
      rw [hB_out (by omega)] at this
      rw [hval (u - 1) (by omega) (by omega) (by omega), ← this] at b
      cases b
    rw [if_neg hno]
    exact .inl ⟨rfl, fin fun v v1 v2 => hq v v1 (by omega) v2⟩
  · have hU : t' + 21600 < U := by omega
    by_cases hu : u ≠ -1 ∧ u < U
    · -- the window has ended
      have hno : ¬ (t' < u ∧ hB d s e f u o sm (u - 1) = true) := fun ⟨a, b⟩ => by
        have := hval u (by omega) (by omega) (by omega)
        rw [hB_out (by omega)] at this
        rw [hval (u - 1) (by omega) (by omega) (by omega), ← this] at b
        cases b
      rw [if_neg hno]
      refine .inl ⟨rfl, fin fun v v1 v2 => ?_⟩
      by_cases c : v < U
      · exact hq v v1 c v2
      · rw [hB_out (by omega), hB_out (by omega)]
    · -- a week decides
      have hall : ∀ c, dB d s e o sm c = dB d s e o sm (t' + 1) := dB_all d s e o sm (t' + 1) (by omega) (by omega) (fun v v1 v2 => by
        have e1 := hval v (by omega) (by omega) (by omega)
        have e2 := hval (t' + 1) (by omega) (by omega) (by omega)
        rw [hB_in (by omega)] at e1
        rw [hB_in (by omega)] at e2
        rw [e1, e2])
      have hdv : ∀ v, t' < v → v ≤ 268435456 → (u = -1 ∨ v < u) → hB d s e f u o sm v = dB d s e o sm (t' + 1) := fun v v1 v2 v3 => by
        rw [hB_in (by omega), hall v]
      have ht : hB d s e f u o sm t' = dB d s e o sm (t' + 1) := by
        rw [← hval (t' + 1) (by omega) (by omega) (by omega), hdv (t' + 1) (by omega) (by omega) (by omega)]
      have hprev : ∀ v, t' ≤ v → v ≤ 268435456 → (u = -1 ∨ v < u) → hB d s e f u o sm v = dB d s e o sm (t' + 1) := fun v v1 v2 v3 => by
        by_cases c : v = t'
        · rw [c, ht]
        · exact hdv v (by omega) v2 v3
      cases hb : dB d s e o sm (t' + 1) with
      | false =>
        have hno : ¬ (t' < u ∧ hB d s e f u o sm (u - 1) = true) := fun ⟨a, b⟩ => by
          rw [hprev (u - 1) (by omega) (by omega) (by omega), hb] at b; cases b
        rw [if_neg hno]
        refine .inl ⟨rfl, fin fun v v1 v2 => ?_⟩
        have e0 : ∀ x, t' ≤ x → x ≤ 268435456 → hB d s e f u o sm x = false := fun x x1 x2 => by
          by_cases c : u = -1 ∨ x < u
          · rw [hprev x x1 x2 c, hb]
          · exact hB_out (by omega)
        rw [e0 v (by omega) v2, e0 (v - 1) (by omega) (by omega)]
      | true =>
        by_cases c : u = -1
        · rw [if_neg (fun h => by omega)]
          refine .inl ⟨rfl, fin fun v v1 v2 => ?_⟩
          rw [hprev v (by omega) v2 (.inl c), hprev (v - 1) (by omega) (by omega) (.inl c)]
        · have hyes : t' < u ∧ hB d s e f u o sm (u - 1) = true := ⟨by omega, by rw [hprev (u - 1) (by omega) (by omega) (by omega), hb]⟩
          rw [if_pos hyes]
          refine .inr ⟨by omega, by omega, ?_, fun v v1 v2 => ?_⟩
          · rw [hyes.2, hB_out (by omega)]; decide
          · by_cases c2 : v ≤ t'
            · exact hlow v v1 c2
            · rw [hprev v (by omega) (by omega) (.inr v2), hprev (v - 1) (by omega) (by omega) (.inr (by omega))]
/-- There is a next change, or none. -/
theorem next_ex (hok : OkW d s e f u) (o0 : -840 ≤ o) (o1 : o ≤ 840) (t0 : 0 ≤ t) (t1 : t ≤ 268435456) : NX (hB d s e f u o sm) t (nxt (hB d s e f u o sm) t) := by
  unfold nxt
  refine Classical.epsilon_spec (p := NX (hB d s e f u o sm) t) ?_
  obtain ⟨L, hL⟩ : ∃ L, edL d s e o sm (wiF (t + 1) f) (wiT 268435456 u) = L := ⟨_, rfl⟩
  by_cases h : ∀ y ∈ L, hB d s e f u o sm y = hB d s e f u o sm t
  · exact ⟨-1, nx_none hok o0 o1 t0 t1 (by rw [hL]; exact h)⟩
  · have key : ∀ (q p : List Int), p ++ q = L → (∀ y ∈ p, hB d s e f u o sm y = hB d s e f u o sm t) → ∃ p x, p ++ [x] <+: L ∧ (∀ y ∈ p, hB d s e f u o sm y = hB d s e f u o sm t) ∧ hB d s e f u o sm x ≠ hB d s e f u o sm t := by
      intro q
      induction q with
      | nil => intro p hp hy; exact absurd (by rw [← hp, List.append_nil]; exact hy) h
      | cons x q ih =>
        intro p hp hy
        by_cases hx : hB d s e f u o sm x = hB d s e f u o sm t
        · refine ih (p ++ [x]) (by rw [List.append_assoc]; exact hp) fun y hm => ?_
          rcases List.mem_append.1 hm with hm | hm
          · exact hy y hm
          · obtain rfl : y = x := by simpa using hm
            exact hx
        · exact ⟨p, x, ⟨q, by rw [List.append_assoc]; exact hp⟩, hy, hx⟩
    obtain ⟨p, x, h1, h2, h3⟩ := key L [] rfl (by simp)
    exact ⟨x, nx_hit hok o0 o1 t0 t1 (by rw [hL]; exact h1) h3 h2⟩
end Go.Proofs.YtmapkiefmbgdoabDoor
