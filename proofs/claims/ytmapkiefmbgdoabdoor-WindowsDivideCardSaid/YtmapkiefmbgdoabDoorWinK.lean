/-
  Plain facts on the times at which a window may change: they ascend, and none is left out.
-/
import Derived.Test.YtmapkiefmbgdoabDoorWinH
namespace Go.Proofs.YtmapkiefmbgdoabDoor
open Go.RowKit
open Cal
set_option linter.unusedVariables false

/-- Of a day's minutes those within a span. -/
def inn (F T : Int) (l : List Int) : List Int := l.filter fun t => decide (F < t) && decide (t < T)
def midL (s e o : Int) (sm : Bool) (F T : Int) : List Int := (List.finRange (nD F T)).flatMap fun i => inn F T (dE s e o sm (F / 1440 + (i.1 : Int)))
/-- What edges yields. -/
def edL (d s e o : Int) (sm : Bool) (F T : Int) : List Int := if T < F then [] else F :: ((if alwB d s e then [] else midL s e o sm F T) ++ (if F < T then [T] else []))


theorem comp_facts (zs : List Int) (hs : zs.Pairwise (· ≤ ·)) : (Lib.compact zs).Pairwise (· < ·) ∧ ∀ x, x ∈ Lib.compact zs ↔ x ∈ zs := by
  have hsz : zs.toArray.size = zs.length := by simp
  have hle : ∀ i j, i < j → j < zs.length → zs.toArray[i]! ≤ zs.toArray[j]! := fun i j h1 h2 => by
    have := List.pairwise_iff_getElem.1 hs i j (by omega) h2 h1
    simpa [getElem!_pos, h2, show i < zs.length by omega] using this
  have key : ∀ m, m ≤ zs.length → (Lib.compactUpTo zs.toArray m).Pairwise (· < ·) ∧ (∀ x ∈ Lib.compactUpTo zs.toArray m, ∃ j, j < m ∧ x = zs.toArray[j]!) ∧ (∀ j, j < m → zs.toArray[j]! ∈ Lib.compactUpTo zs.toArray m) := by
    intro m
    induction m with
    | zero => intro _; exact ⟨by simp [Lib.compactUpTo], by simp [Lib.compactUpTo], fun j hj => by omega⟩
    | succ m ih =>
      intro hm
      obtain ⟨i1, i2, i3⟩ := ih (by omega)
      rw [Lib.compactUpTo_succ]
      by_cases hk : Lib.keeps zs.toArray m = true
      · rw [if_pos hk]
        refine ⟨List.pairwise_append.2 ⟨i1, by simp, fun a ha b hb => ?_⟩, fun x hx => ?_, fun j hj => ?_⟩
        · obtain rfl : b = zs.toArray[m]! := by simpa using hb
          obtain ⟨j, hj, rfl⟩ := i2 a ha
          have h0 : m ≠ 0 := by omega
          have hne : zs.toArray[m]! ≠ zs.toArray[m - 1]! := by
            have : m = 0 ∨ zs.toArray[m]! ≠ zs.toArray[m - 1]! := of_decide_eq_true hk
            rcases this with h | h
            · exact absurd h h0
            · exact h
          have h1 := hle (m - 1) m (by omega) (by omega)
          by_cases hjm : j = m - 1
          · rw [hjm]; omega
          · have h2 := hle j (m - 1) (by omega) (by omega); omega
        · rcases List.mem_append.1 hx with hx | hx
          · obtain ⟨j, hj, e⟩ := i2 x hx; exact ⟨j, by omega, e⟩
          · exact ⟨m, by omega, by simpa using hx⟩
        · by_cases hjm : j = m
          · rw [hjm]; exact List.mem_append_right _ (by simp)
          · exact List.mem_append_left _ (i3 j (by omega))
      · rw [if_neg hk, List.append_nil]
        refine ⟨i1, fun x hx => ?_, fun j hj => ?_⟩
        · obtain ⟨j, hj, e⟩ := i2 x hx; exact ⟨j, by omega, e⟩
        · by_cases hjm : j = m
          · have h0 : ¬ (m = 0 ∨ zs.toArray[m]! ≠ zs.toArray[m - 1]!) := fun h => hk (decide_eq_true h)
            have h1 : m ≠ 0 := fun h => h0 (.inl h)
            have h2 : zs.toArray[m]! = zs.toArray[m - 1]! := Classical.byContradiction fun h => h0 (.inr h)
            rw [hjm, h2]; exact i3 (m - 1) (by omega)
          · exact i3 j (by omega)
  obtain ⟨k1, k2, k3⟩ := key zs.length (Nat.le_refl _)
  refine ⟨k1, fun x => ⟨fun hx => ?_, fun hx => ?_⟩⟩
  · obtain ⟨j, hj, rfl⟩ := k2 x hx
    simp [getElem!_pos, hj]
  · obtain ⟨j, hj, rfl⟩ := List.getElem_of_mem hx
    have := k3 j hj
    have e : zs.toArray[j]! = zs[j] := by simp [getElem!_pos, hj]
    rw [e] at this
    exact this
theorem sortI_le (l : List Int) : (sortI l).Pairwise (· ≤ ·) := by
  have := List.pairwise_mergeSort (le := fun x y : Int => decide (x ≤ y)) (by intro a b c h1 h2; simp only [decide_eq_true_eq] at *; omega) (by intro a b; simp only [Bool.or_eq_true, decide_eq_true_eq]; omega) l
  exact this.imp (fun h => by simpa using h)
theorem dE_facts (s e o : Int) (sm : Bool) (day : Int) : (dE s e o sm day).Pairwise (· < ·) ∧ ∀ t, t ∈ dE s e o sm day ↔ ∃ x ∈ rawE s e o sm, t = x + day * 1440 := by
  have h1 : ((sortI (rawE s e o sm)).map fun x => x + day * 1440).Pairwise (· ≤ ·) := List.pairwise_map.2 ((sortI_le _).imp (fun h => by omega))
  obtain ⟨a, b⟩ := comp_facts _ h1
  refine ⟨a, fun t => ?_⟩
  unfold dE
  rw [b t, List.mem_map]
  constructor
  · rintro ⟨x, hx, rfl⟩; exact ⟨x, (sortI_mem _ _).1 hx, rfl⟩
  · rintro ⟨x, hx, rfl⟩; exact ⟨x, (sortI_mem _ _).2 hx, rfl⟩
theorem rawE_bd (s e o : Int) (sm : Bool) : ∀ x ∈ rawE s e o sm, 0 ≤ x ∧ x < 1440 := by
  unfold rawE
  exact flat_bd s e _ _ (by cases sm <;> simp)
theorem rawE_ne (s e o : Int) (sm : Bool) : rawE s e o sm ≠ [] := by
  unfold rawE
  have := flat_pos s e (offs o sm) (by unfold offs; split <;> simp)
  simp [this]
theorem dE_ne (s e o : Int) (sm : Bool) (day : Int) : dE s e o sm day ≠ [] := by
  obtain ⟨x, hx⟩ := List.exists_mem_of_ne_nil _ (rawE_ne s e o sm)
  exact List.ne_nil_of_mem (((dE_facts s e o sm day).2 _).2 ⟨x, hx, rfl⟩)
theorem dE_bd (s e o : Int) (sm : Bool) (day : Int) : ∀ t ∈ dE s e o sm day, day * 1440 ≤ t ∧ t < day * 1440 + 1440 := by
  intro t ht
  obtain ⟨x, hx, rfl⟩ := ((dE_facts s e o sm day).2 t).1 ht
  have := rawE_bd s e o sm x hx
  omega
theorem offM_of {s e g t : Int} (hs : 0 ≤ s ∧ s ≤ 1439) (he : 0 ≤ e ∧ e ≤ 1439) (h : tgt s e ((t + g) % 1440) = true) : t % 1440 ∈ offM s e g := by
  unfold tgt at h
  unfold offM mOf
  split at h
  · rename_i hse
    rw [if_pos hse]
    have : (t + g) % 1440 = 0 := by simpa using h
    simp; omega
  · rename_i hse
    rw [if_neg hse]
    rcases (by simpa using h : (t + g) % 1440 = s ∨ (t + g) % 1440 = e) with h | h
    · have : t % 1440 = (s - g + 1440) % 1440 := by omega
      simp [this]
    · have : t % 1440 = (e - g + 1440) % 1440 := by omega
      simp [this]
theorem dE_all {s e o : Int} {sm : Bool} {t : Int} (hs : 0 ≤ s ∧ s ≤ 1439) (he : 0 ≤ e ∧ e ≤ 1439) (h : isE s e o sm t = true) : t ∈ dE s e o sm (t / 1440) := by
  refine ((dE_facts s e o sm (t / 1440)).2 t).2 ⟨t % 1440, ?_, by omega⟩
  unfold isE at h
  unfold rawE offs
  cases sm with
  | false =>
    simp only [Bool.false_and, Bool.or_false] at h
    have := offM_of hs he h
    simpa using this
  | true =>
    simp only [Bool.true_and, Bool.or_eq_true, decide_eq_true_eq] at h
    rcases h with h | h | h
    · have := offM_of hs he h
      simp [this]
    · have := offM_of hs he h
      simp [this]
    · simp [h]
theorem finRange_lt (N : Nat) : (List.finRange N).Pairwise (fun a b => a.1 < b.1) := by
  rw [List.pairwise_iff_getElem]
  intro i j hi hj h
  simpa using h
theorem midL_facts {s e o : Int} {sm : Bool} {F T : Int} (hs : 0 ≤ s ∧ s ≤ 1439) (he : 0 ≤ e ∧ e ≤ 1439) :
    (midL s e o sm F T).Pairwise (· < ·) ∧ (∀ t ∈ midL s e o sm F T, F < t ∧ t < T) ∧ ∀ t, F < t → t < T → isE s e o sm t = true → t ∈ midL s e o sm F T := by
  unfold midL
  refine ⟨List.pairwise_flatMap.2 ⟨fun i _ => ?_, (finRange_lt _).imp (fun {a b} h x hx y hy => ?_)⟩, fun t ht => ?_, fun t h1 h2 h3 => ?_⟩
  · exact List.Pairwise.filter _ (dE_facts s e o sm _).1
  · have hx := dE_bd s e o sm _ x (List.mem_filter.1 hx).1
    have hy := dE_bd s e o sm _ y (List.mem_filter.1 hy).1
    omega
  · obtain ⟨i, _, hi⟩ := List.mem_flatMap.1 ht
    have := (List.mem_filter.1 hi).2
    simpa using this
  · have hlt : (t / 1440 - F / 1440).toNat < nD F T := by unfold nD; omega
    refine List.mem_flatMap.2 ⟨⟨(t / 1440 - F / 1440).toNat, hlt⟩, by simp, List.mem_filter.2 ⟨?_, by simp [h1, h2]⟩⟩
    have := dE_all hs he h3
    rwa [show F / 1440 + (((t / 1440 - F / 1440).toNat : Nat) : Int) = t / 1440 by omega]
/-- The times that edges yields, when they are not none. -/
theorem edL_facts {d s e o : Int} {sm : Bool} {F T : Int} (hs : 0 ≤ s ∧ s ≤ 1439) (he : 0 ≤ e ∧ e ≤ 1439) (hFT : F ≤ T) :
    (∃ M, edL d s e o sm F T = F :: M) ∧ (edL d s e o sm F T).Pairwise (· < ·) ∧ (∀ t ∈ edL d s e o sm F T, F ≤ t ∧ t ≤ T) ∧ T ∈ edL d s e o sm F T ∧
      ∀ t, F < t → t < T → isE s e o sm t = true → alwB d s e = false → t ∈ edL d s e o sm F T := by
  obtain ⟨m1, m2, m3⟩ := midL_facts (o := o) (sm := sm) (F := F) (T := T) hs he
  unfold edL
  rw [if_neg (by omega)]
  obtain ⟨X, hX⟩ : ∃ X, (if alwB d s e = true then [] else midL s e o sm F T) = X := ⟨_, rfl⟩
  have x1 : X.Pairwise (· < ·) := by rw [← hX]; split; · simp
                                     · exact m1
  have x2 : ∀ t ∈ X, F < t ∧ t < T := by
    rw [← hX]; split
    · simp
    · exact m2
  rw [hX]
  have y2 : ∀ t ∈ X ++ (if F < T then [T] else []), F < t ∧ t ≤ T := by
    intro t ht
    rcases List.mem_append.1 ht with h | h
    · have := x2 t h; omega
    · split at h
      · obtain rfl : t = T := by simpa using h
        omega
      · simp at h
  refine ⟨⟨_, rfl⟩, List.pairwise_cons.2 ⟨fun t ht => (y2 t ht).1, List.pairwise_append.2 ⟨x1, by split <;> simp, fun a ha b hb => ?_⟩⟩, fun t ht => ?_, ?_, fun t h1 h2 h3 h4 => ?_⟩
  · split at hb
    · obtain rfl : b = T := by simpa using hb
      exact (x2 a ha).2
    · simp at hb
  · rcases List.mem_cons.1 ht with rfl | h
    · omega
    · have := y2 t h; omega
  · by_cases h : F < T
    · rw [if_pos h]; simp
    · obtain rfl : F = T := by omega
      simp
  · refine List.mem_cons_of_mem _ (List.mem_append_left _ ?_)
    rw [← hX, if_neg (by rw [h4]; decide)]
    exact m3 t h1 h2 h3
end Go.Proofs.YtmapkiefmbgdoabDoor
