/-
  Plain facts: the next change of a window.
-/
import Derived.Test.YtmapkiefmbgdoabDoorWinK
namespace Go.Proofs.YtmapkiefmbgdoabDoor
open Go.RowKit
open Cal
set_option linter.unusedVariables false

/-- r is the next change after t, or -1. -/
def NX (H : Int → Bool) (t r : Int) : Prop :=
  (r = -1 ∧ ∀ v, t < v → v ≤ 268435456 → H v = H (v - 1)) ∨ (t < r ∧ r ≤ 268435456 ∧ H r ≠ H (r - 1) ∧ ∀ v, t < v → v < r → H v = H (v - 1))
theorem NX.unique {H : Int → Bool} {t r r' : Int} (h0 : 0 ≤ t) (h : NX H t r) (h' : NX H t r') : r = r' := by
  rcases h with ⟨rfl, a⟩ | ⟨a1, a2, a3, a4⟩ <;> rcases h' with ⟨rfl, b⟩ | ⟨b1, b2, b3, b4⟩
  · rfl
  · exact absurd (a r' b1 b2) b3
  · exact absurd (b r a1 a2) a3
  · by_cases c1 : r < r'
    · exact absurd (b4 r a1 c1) a3
    · by_cases c2 : r' < r
      · exact absurd (a4 r' b1 c2) b3
      · omega
noncomputable def nxt (H : Int → Bool) (t : Int) : Int := Classical.epsilon (NX H t)
theorem nxt_eq {H : Int → Bool} {t r : Int} (h0 : 0 ≤ t) (h : NX H t r) : nxt H t = r := NX.unique h0 (Classical.epsilon_spec ⟨r, h⟩) h
/-- H keeps its value through the times of a list that holds all changes. -/
theorem keeps_val {H : Int → Bool} {L : List Int} {F T x : Int} {b : Bool} (hF : F ≤ x) (hb : H F = b) (hL : ∀ y ∈ L, F < y → y ≤ x → H y = b)
    (hc : ∀ v, F < v → v ≤ x → v ∉ L → H v = H (v - 1)) : ∀ v, F ≤ v → v ≤ x → H v = b := by
  have key : ∀ n : Nat, F + n ≤ x → H (F + n) = b := by
    intro n
    induction n with
    | zero => intro _; simpa using hb
    | succ n ih =>
      intro hn
      have h1 := ih (by omega)
      by_cases hm : F + ((n + 1 : Nat) : Int) ∈ L
      · exact hL _ hm (by omega) (by omega)
      · rw [hc _ (by omega) (by omega) hm, show F + ((n + 1 : Nat) : Int) - 1 = F + n by omega, h1]
  intro v h1 h2
  have := key (v - F).toNat (by omega)
  rwa [show F + ((v - F).toNat : Int) = v by omega] at this
theorem onB_all (W : Int) (h1 : 1 ≤ W) (h2 : W ≤ 7) (d : Int) (hd : d = 0 ∨ d = 127) : onB d W = true := by
  rcases hd with rfl | rfl
  · rfl
  · have h : W = 1 ∨ W = 2 ∨ W = 3 ∨ W = 4 ∨ W = 5 ∨ W = 6 ∨ W = 7 := by omega
    rcases h with rfl | rfl | rfl | rfl | rfl | rfl | rfl <;> decide
theorem alw_dB {d s e : Int} (h : alwB d s e = true) (o : Int) (sm : Bool) (t : Int) : dB d s e o sm t = true := by
  unfold alwB at h
  simp only [Bool.and_eq_true, Bool.or_eq_true, decide_eq_true_eq] at h
  obtain ⟨a, b⟩ := wd_bd ((t + offI o sm t) / 1440)
  unfold dB lB
  rw [dayB_eq h.1]
  exact onB_all _ a b d h.2
/-- Between two times that edges yields, a window does not change. -/
theorem hB_quiet {d s e f u o F T : Int} {sm : Bool} (hok : OkW d s e f u) (o0 : -840 ≤ o) (o1 : o ≤ 840) (f0 : 0 ≤ F) (fF : f ≤ F) (tU : u = -1 ∨ T ≤ u) (tM : T ≤ 268435456) (hFT : F ≤ T) (v : Int)
    (h1 : F < v) (h2 : v ≤ T) (hn : v ∉ edL d s e o sm F T) : hB d s e f u o sm v = hB d s e f u o sm (v - 1) := by
  obtain ⟨_, hs, he, hf, hu⟩ := hok
  obtain ⟨_, _, _, e4, e5⟩ := edL_facts (d := d) (o := o) (sm := sm) hs he hFT
  have hvT : v ≠ T := fun e' => hn (e' ▸ e4)
  by_cases ha : alwB d s e = true
  · unfold hB
    rw [alw_dB ha, alw_dB ha]
    congr 1
    rw [Bool.eq_iff_iff]
    simp only [decide_eq_true_eq]
    omega
  · have ha : alwB d s e = false := by simpa using ha
    have hE : isE s e o sm v = false := by
      cases hE : isE s e o sm v with
      | false => rfl
      | true => exact absurd (e5 v h1 (by omega) hE ha) hn
    exact hB_calm d s e f u o sm v hs he o0 o1 (by omega) (by omega) (by omega) (by omega) hE
theorem prefix_lt {L p : List Int} {x : Int} (hs : L.Pairwise (· < ·)) (hp : p ++ [x] <+: L) : ∀ y ∈ L, y < x → y ∈ p := by
  obtain ⟨q, rfl⟩ := hp
  intro y hy hlt
  have h1 := (List.pairwise_append.1 hs).2.2
  rcases List.mem_append.1 hy with h | h
  · rcases List.mem_append.1 h with h | h
    · exact h
    · obtain rfl : y = x := by simpa using h
      omega
  · have := h1 x (by simp) y h
    omega
variable {d s e f u o : Int} {sm : Bool} {t : Int}
/-- Where a change has been met. -/
theorem nx_hit (hok : OkW d s e f u) (o0 : -840 ≤ o) (o1 : o ≤ 840) (t0 : 0 ≤ t) (t1 : t ≤ 268435456) {p : List Int} {x : Int} (hp : p ++ [x] <+: edL d s e o sm (wiF (t + 1) f) (wiT 268435456 u))
    (hx : hB d s e f u o sm x ≠ hB d s e f u o sm t) (hy : ∀ y ∈ p, hB d s e f u o sm y = hB d s e f u o sm t) : NX (hB d s e f u o sm) t x := by
  obtain ⟨F, hF⟩ : ∃ F, wiF (t + 1) f = F := ⟨_, rfl⟩
  obtain ⟨T, hT⟩ : ∃ T, wiT 268435456 u = T := ⟨_, rfl⟩
  rw [hF, hT] at hp
  have hFT : F ≤ T := by
    refine Classical.byContradiction fun h => ?_
    unfold edL at hp
    rw [if_pos (by omega)] at hp
    simpa using hp.length_le
  have q1 : t + 1 ≤ F := by rw [← hF]; unfold wiF; omega
  have q2 : f ≤ F := by rw [← hF]; unfold wiF; omega
  have q3 : F = t + 1 ∨ F = f := by rw [← hF]; unfold wiF; omega
  have q4 : u = -1 ∨ T ≤ u := by rw [← hT]; unfold wiT; split <;> omega
  have q5 : T ≤ 268435456 := by rw [← hT]; unfold wiT; split <;> omega
  obtain ⟨⟨M, e1⟩, e2, e3, e4, e5⟩ := edL_facts (d := d) (o := o) (sm := sm) hok.2.1 hok.2.2.1 hFT
  have hxL : x ∈ edL d s e o sm F T := hp.subset (by simp)
  have hxb := e3 x hxL
  have hlow : ∀ v, t < v → v < F → hB d s e f u o sm v = hB d s e f u o sm t := fun v h1 h2 => by
    rw [hB_out (by omega), hB_out (by omega)]
  have hval : ∀ v, t < v → v < x → hB d s e f u o sm v = hB d s e f u o sm t := by
    intro v h1 h2
    by_cases h3 : v < F
    · exact hlow v h1 h3
    · have hFp : F ∈ p := prefix_lt e2 hp F (by rw [e1]; simp) (by omega)
      exact keeps_val (L := edL d s e o sm F T) (F := F) (T := T) (x := v) (by omega) (hy F hFp) (fun y hyL _ hyv => hy y (prefix_lt e2 hp y hyL (by omega)))
        (fun z z1 z2 z3 => hB_quiet hok o0 o1 (by omega) q2 q4 q5 hFT z z1 (by omega) z3) v (by omega) (Int.le_refl _)
  refine .inr ⟨by omega, by omega, ?_, fun v h1 h2 => ?_⟩
  · by_cases h : x - 1 = t
    · rw [h]; exact hx
    · rw [hval (x - 1) (by omega) (by omega)]; exact hx
  · by_cases h : v - 1 = t
    · rw [h]; exact hval v h1 h2
    · rw [hval v h1 h2, hval (v - 1) (by omega) (by omega)]
/-- Where no change has been met. -/
theorem nx_none (hok : OkW d s e f u) (o0 : -840 ≤ o) (o1 : o ≤ 840) (t0 : 0 ≤ t) (t1 : t ≤ 268435456)
    (hy : ∀ y ∈ edL d s e o sm (wiF (t + 1) f) (wiT 268435456 u), hB d s e f u o sm y = hB d s e f u o sm t) : NX (hB d s e f u o sm) t (-1) := by
  obtain ⟨F, hF⟩ : ∃ F, wiF (t + 1) f = F := ⟨_, rfl⟩
  obtain ⟨T, hT⟩ : ∃ T, wiT 268435456 u = T := ⟨_, rfl⟩
  rw [hF, hT] at hy
  have q1 : t + 1 ≤ F := by rw [← hF]; unfold wiF; omega
  have q2 : f ≤ F := by rw [← hF]; unfold wiF; omega
  have q3 : F = t + 1 ∨ F = f := by rw [← hF]; unfold wiF; omega
  have q4 : u = -1 ∨ T ≤ u := by rw [← hT]; unfold wiT; split <;> omega
  have q5 : T ≤ 268435456 := by rw [← hT]; unfold wiT; split <;> omega
  have q6 : (u = -1 ∧ T = 268435456) ∨ (u ≠ -1 ∧ (T = u ∨ T = 268435456)) := by rw [← hT]; unfold wiT; split <;> omega
  have hfu := hok.2.2.2
  refine .inl ⟨rfl, fun v h1 h2 => ?_⟩
  by_cases hFT : F ≤ T
  · obtain ⟨⟨M, e1⟩, e2, e3, e4, e5⟩ := edL_facts (d := d) (o := o) (sm := sm) hok.2.1 hok.2.2.1 hFT
    have hval : ∀ v, t ≤ v → v ≤ 268435456 → hB d s e f u o sm v = hB d s e f u o sm t := by
      intro v h1 h2
      by_cases h0 : v = t
      · rw [h0]
      by_cases h3 : v < F
      · rw [hB_out (by omega), hB_out (by omega)]
      · by_cases h4 : v ≤ T
        · exact keeps_val (L := edL d s e o sm F T) (F := F) (T := T) (x := v) (by omega) (hy F (by rw [e1]; simp)) (fun y hyL _ hyv => hy y hyL)
            (fun z z1 z2 z3 => hB_quiet hok o0 o1 (by omega) q2 q4 q5 hFT z z1 (by omega) z3) v (by omega) (Int.le_refl _)
        · have hT0 := hy T e4
          rw [← hT0, hB_out (by omega), hB_out (by omega)]
    rw [hval v (by omega) h2, hval (v - 1) (by omega) (by omega)]
  · rw [hB_out (by omega), hB_out (by omega)]
end Go.Proofs.YtmapkiefmbgdoabDoor
