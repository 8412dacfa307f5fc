/-
  Plain facts: the spans in which a window holds.
-/
import Derived.Test.YtmapkiefmbgdoabDoorWinP
namespace Go.Proofs.YtmapkiefmbgdoabDoor
open Go.RowKit
open Cal
set_option linter.unusedVariables false

/-- R lists the spans within [F, T) in which H holds. -/
structure Runs (H : Int → Bool) (F T : Int) (R : List (Int × Int)) : Prop where
  bd : ∀ p ∈ R, F ≤ p.1 ∧ p.1 < p.2 ∧ p.2 ≤ T
  gap : R.Pairwise (fun p q => p.2 < q.1)
  all : ∀ t, F ≤ t → t < T → (H t = true ↔ ∃ p ∈ R, p.1 ≤ t ∧ t < p.2)
theorem Runs.tail {H : Int → Bool} {F T : Int} {p : Int × Int} {R : List (Int × Int)} (h : Runs H F T (p :: R)) : Runs H p.2 T R := by
  obtain ⟨g1, g2⟩ := List.pairwise_cons.1 h.gap
  have hp := h.bd p (by simp)
  refine ⟨fun q hq => ?_, g2, fun t h1 h2 => ?_⟩
  · have := h.bd q (by simp [hq]); have := g1 q hq; omega
  · rw [h.all t (by omega) h2]
    constructor
    · rintro ⟨q, hq, hq2⟩
      rcases List.mem_cons.1 hq with rfl | hq
      · omega
      · exact ⟨q, hq, hq2⟩
    · rintro ⟨q, hq, hq2⟩; exact ⟨q, by simp [hq], hq2⟩
theorem Runs.head_le {H : Int → Bool} {F T : Int} {p q : Int × Int} {R R' : List (Int × Int)} (h : Runs H F T (p :: R)) (h' : Runs H F T (q :: R')) : p.1 ≤ q.1 := by
  have hq := h'.bd q (by simp)
  have hH : H q.1 = true := (h'.all q.1 (by omega) (by omega)).2 ⟨q, by simp, by omega, by omega⟩
  obtain ⟨r, hr, hr2⟩ := (h.all q.1 (by omega) (by omega)).1 hH
  rcases List.mem_cons.1 hr with rfl | hr
  · omega
  · have := (List.pairwise_cons.1 h.gap).1 r hr
    have := h.bd p (by simp)
    omega
theorem Runs.head_end {H : Int → Bool} {F T : Int} {p q : Int × Int} {R R' : List (Int × Int)} (h : Runs H F T (p :: R)) (h' : Runs H F T (q :: R')) (he : p.1 = q.1) : q.2 ≤ p.2 := by
  refine Classical.byContradiction fun hn => ?_
  have hp := h.bd p (by simp)
  have hq := h'.bd q (by simp)
  have hH : H p.2 = true := (h'.all p.2 (by omega) (by omega)).2 ⟨q, by simp, by omega, by omega⟩
  obtain ⟨r, hr, hr2⟩ := (h.all p.2 (by omega) (by omega)).1 hH
  rcases List.mem_cons.1 hr with rfl | hr
  · omega
  · have := (List.pairwise_cons.1 h.gap).1 r hr
    omega
theorem Runs.unique {H : Int → Bool} {T : Int} : ∀ {R R' : List (Int × Int)} {F : Int}, Runs H F T R → Runs H F T R' → R = R' := by
  intro R
  induction R with
  | nil =>
    intro R' F h h'
    cases R' with
    | nil => rfl
    | cons q R' =>
      have hq := h'.bd q (by simp)
      have hH : H q.1 = true := (h'.all q.1 (by omega) (by omega)).2 ⟨q, by simp, by omega, by omega⟩
      obtain ⟨r, hr, _⟩ := (h.all q.1 (by omega) (by omega)).1 hH
      cases hr
  | cons p R ih =>
    intro R' F h h'
    cases R' with
    | nil =>
      have hp := h.bd p (by simp)
      have hH : H p.1 = true := (h.all p.1 (by omega) (by omega)).2 ⟨p, by simp, by omega, by omega⟩
      obtain ⟨r, hr, _⟩ := (h'.all p.1 (by omega) (by omega)).1 hH
      cases hr
    | cons q R' =>
      have e1 : p.1 = q.1 := Int.le_antisymm (h.head_le h') (h'.head_le h)
      have e2 : p.2 = q.2 := Int.le_antisymm (h'.head_end h e1.symm) (h.head_end h' e1)
      have e : p = q := Prod.ext e1 e2
      subst e
      rw [ih h.tail h'.tail]
noncomputable def runsL (H : Int → Bool) (F T : Int) : List (Int × Int) := Classical.epsilon (Runs H F T)
theorem runsL_eq {H : Int → Bool} {F T : Int} {R : List (Int × Int)} (h : Runs H F T R) : runsL H F T = R := Runs.unique (Classical.epsilon_spec ⟨R, h⟩) h
theorem runsL_ok {H : Int → Bool} {F T : Int} {R : List (Int × Int)} (h : Runs H F T R) : Runs H F T (runsL H F T) := Classical.epsilon_spec ⟨R, h⟩

/-! ### One time after another -/
/-- The state of the loop over the times: the spans so far, and the beginning of the one under way, or -1. -/
def stepS (h : Int → Bool) (s : List (Int × Int) × Int) (x : Int) : List (Int × Int) × Int :=
  if h x then (if s.2 < 0 then (s.1, x) else s) else (if 0 ≤ s.2 then (s.1 ++ [(s.2, x)], -1) else s)
def foldS (h : Int → Bool) (L : List Int) : List (Int × Int) × Int := L.foldl (stepS h) ([], -1)
theorem foldS_snoc (h : Int → Bool) (L : List Int) (x : Int) : foldS h (L ++ [x]) = stepS h (foldS h L) x := by unfold foldS; rw [List.foldl_append]; rfl
/-- What holds of the state when the time x has been looked at. -/
structure Part (h : Int → Bool) (F x : Int) (s : List (Int × Int) × Int) : Prop where
  bd : ∀ p ∈ s.1, F ≤ p.1 ∧ p.1 < p.2 ∧ p.2 ≤ x ∧ (0 ≤ s.2 → p.2 < s.2)
  gap : s.1.Pairwise (fun p q => p.2 < q.1)
  all : ∀ t, F ≤ t → t < x → (h t = true ↔ (∃ p ∈ s.1, p.1 ≤ t ∧ t < p.2) ∨ (0 ≤ s.2 ∧ s.2 ≤ t))
  on : h x = true → 0 ≤ s.2 ∧ F ≤ s.2 ∧ s.2 ≤ x
  off : h x = false → s.2 = -1
theorem Part.start {h : Int → Bool} {F : Int} (hF : 0 ≤ F) : Part h F F (stepS h ([], -1) F) := by
  unfold stepS
  cases hx : h F with
  | true => exact ⟨by simp, by simp, fun t h1 h2 => by omega, fun _ => by simp; omega, fun h' => by rw [hx] at h'; cases h'⟩
  | false => exact ⟨by simp, by simp, fun t h1 h2 => by omega, (fun h' => by rw [hx] at h'; cases h'), fun _ => by simp⟩
theorem Part.next {h : Int → Bool} {F x y : Int} {s : List (Int × Int) × Int} (hp : Part h F x s) (hF : 0 ≤ F) (hFx : F ≤ x) (hxy : x < y) (hc : ∀ t, x ≤ t → t < y → h t = h x) : Part h F y (stepS h s y) := by
  obtain ⟨l, b⟩ := s
  obtain ⟨bd, gap, all, on, off⟩ := hp
  simp only at bd gap all on off
  cases hx : h x with
  | true =>
    obtain ⟨b0, bF, bx⟩ := on hx
    have hall : ∀ t, F ≤ t → t < y → (h t = true ↔ (∃ p ∈ l, p.1 ≤ t ∧ t < p.2) ∨ (0 ≤ b ∧ b ≤ t)) := fun t h1 h2 => by
      by_cases c : t < x
      · exact all t h1 c
      · rw [hc t (by omega) h2, hx]; simp; exact .inr ⟨b0, by omega⟩
    unfold stepS
    cases hy : h y with
    | true =>
      rw [if_pos rfl, if_neg (by show ¬ b < 0; omega)]
      exact ⟨fun p hp => by have := bd p hp; simp only at *; omega, gap, hall, fun _ => ⟨b0, bF, by show b ≤ y; omega⟩, fun h' => by rw [hy] at h'; cases h'⟩
    | false =>
      rw [if_neg (by decide), if_pos (show 0 ≤ b from b0)]
      refine ⟨fun p hp => ?_, ?_, fun t h1 h2 => ?_, (fun h' => by rw [hy] at h'; cases h'), fun _ => rfl⟩
      · simp only at hp ⊢
        rcases List.mem_append.1 hp with h' | h'
        · have := bd p h'; omega
        · obtain rfl : p = (b, y) := by simpa using h'
          simp only; omega
      · refine List.pairwise_append.2 ⟨gap, by simp, fun p hp q hq => ?_⟩
        obtain rfl : q = (b, y) := by simpa using hq
        have := bd p hp
        simp only; omega
      · rw [hall t h1 h2]
        simp only
        constructor
        · rintro (⟨p, hp, hp2⟩ | h')
          · exact .inl ⟨p, by simp [hp], hp2⟩
          · exact .inl ⟨(b, y), by simp, by simp only; omega⟩
        · rintro (⟨p, hp, hp2⟩ | h')
          · rcases List.mem_append.1 hp with h' | h'
            · exact .inl ⟨p, h', hp2⟩
            · obtain rfl : p = (b, y) := by simpa using h'
              simp only at hp2
              exact .inr (by omega)
          · omega
  | false =>
    have hb : b = -1 := off hx
    subst hb
    have hall : ∀ t, F ≤ t → t < y → (h t = true ↔ (∃ p ∈ l, p.1 ≤ t ∧ t < p.2)) := fun t h1 h2 => by
      by_cases c : t < x
      · rw [all t h1 c]; simp
      · rw [hc t (by omega) h2, hx]
        constructor
        · intro h'; cases h'
        · rintro ⟨p, hp, hp2⟩; have := bd p hp; omega
    unfold stepS
    cases hy : h y with
    | true =>
      rw [if_pos rfl, if_pos (show (-1 : Int) < 0 by decide)]
      refine ⟨fun p hp => ?_, gap, fun t h1 h2 => ?_, fun _ => by simp only; omega, fun h' => by rw [hy] at h'; cases h'⟩
      · have := bd p hp; simp only; omega
      · rw [hall t h1 h2]; simp only
        constructor
        · exact .inl
        · rintro (h' | h')
          · exact h'
          · omega
    | false =>
      rw [if_neg (by decide), if_neg (show ¬ (0 : Int) ≤ -1 by decide)]
      exact ⟨fun p hp => by have := bd p hp; simp only at *; omega, gap, fun t h1 h2 => by rw [hall t h1 h2]; simp, (fun h' => by rw [hy] at h'; cases h'), fun _ => rfl⟩
theorem part_fold {h : Int → Bool} {F T : Int} (hF : 0 ≤ F) : ∀ (L : List Int) (x : Int) (s : List (Int × Int) × Int), Part h F x s → F ≤ x → (x :: L).Pairwise (· < ·) → T ∈ x :: L → (∀ y ∈ x :: L, y ≤ T) →
    (∀ v, x < v → v < T → v ∉ L → h v = h (v - 1)) → Part h F T (L.foldl (stepS h) s) := by
  intro L
  induction L with
  | nil =>
    intro x s hp _ _ hT _ _
    have e : T = x := by simpa using hT
    rw [e]
    exact hp
  | cons y L ih =>
    intro x s hp hFx hs hT hle hc
    obtain ⟨s1, s2⟩ := List.pairwise_cons.1 hs
    have hxy := s1 y (by simp)
    have hyT := hle y (by simp)
    have hTne : T ≠ x := by omega
    refine ih y _ (hp.next hF hFx hxy fun t t1 t2 => ?_) (by omega) s2 ?_ (fun z hz => hle z (List.mem_cons_of_mem _ hz)) fun v v1 v2 hv => hc v (by omega) v2 (fun hm => ?_)
    · exact const_of h x t (fun v v1 v2 => hc v v1 (by omega) (fun hm => by
        rcases List.mem_cons.1 hm with rfl | hm
        · omega
        · have := (List.pairwise_cons.1 s2).1 v hm; omega)) t t1 (Int.le_refl _)
    · rcases List.mem_cons.1 hT with h' | h'
      · exact absurd h' hTne
      · exact h'
    · rcases List.mem_cons.1 hm with h' | h'
      · omega
      · exact hv h'
theorem foldS_len (h : Int → Bool) (p q : List Int) : (foldS h p).1.length ≤ (foldS h (p ++ q)).1.length := by
  unfold foldS
  rw [List.foldl_append]
  generalize p.foldl (stepS h) ([], -1) = s
  induction q generalizing s with
  | nil => exact Nat.le_refl _
  | cons y q ih =>
    refine Nat.le_trans ?_ (ih (stepS h s y))
    unfold stepS
    split
    · split <;> simp
    · split <;> simp

variable {d s e f u o : Int} {sm : Bool} {F T : Int}
/-- What the loop of Spans looks at. -/
noncomputable def hS (d s e f u o : Int) (sm : Bool) (T : Int) (x : Int) : Bool := decide (x < T) && hol d s e f u o sm x
theorem spans_runs (hok : OkW d s e f u) (o0 : -840 ≤ o) (o1 : o ≤ 840) (f0 : 0 ≤ F) (hFT : F ≤ T) (tM : T ≤ 268435456) :
    Runs (hB d s e f u o sm) F T (foldS (hS d s e f u o sm (wiT T u)) (edL d s e o sm (wiF F f) (wiT T u))).1 := by
  obtain ⟨F', hF'⟩ : ∃ F', wiF F f = F' := ⟨_, rfl⟩
  obtain ⟨T', hT'⟩ : ∃ T', wiT T u = T' := ⟨_, rfl⟩
  rw [hF', hT']
  have q1 : F ≤ F' ∧ f ≤ F' ∧ (F' = F ∨ F' = f) := by rw [← hF']; unfold wiF; omega
  have q2 : T' ≤ T ∧ (u = -1 ∨ T' ≤ u) ∧ (T' = T ∨ (u ≠ -1 ∧ T' = u)) := by rw [← hT']; unfold wiT; split <;> omega
  have hfu := hok.2.2.2
  have hout : ∀ t, F ≤ t → t < T → (t < F' ∨ T' ≤ t) → hB d s e f u o sm t = false := fun t t1 t2 t3 => hB_out (by omega)
  by_cases hc : F' ≤ T'
  · obtain ⟨⟨M, e1⟩, e2, e3, e4, e5⟩ := edL_facts (d := d) (o := o) (sm := sm) hok.2.1 hok.2.2.1 hc
    have hh : ∀ x, x < T' → hS d s e f u o sm T' x = hB d s e f u o sm x := fun x hx => by unfold hS; rw [decide_eq_true hx, Bool.true_and, hol_yes ⟨hok, o0, o1⟩]
    have hhT : hS d s e f u o sm T' T' = false := by unfold hS; rw [decide_eq_false (by omega)]; rfl
    have hp : Part (hS d s e f u o sm T') F' T' (foldS (hS d s e f u o sm T') (edL d s e o sm F' T')) := by
      unfold foldS
      rw [e1]
      rw [e1] at e2 e3 e4
      refine part_fold (by omega) M F' _ (Part.start (by omega)) (Int.le_refl _) e2 e4 (fun y hy => (e3 y hy).2) fun v v1 v2 hv => ?_
      rw [hh v v2, hh (v - 1) (by omega)]
      refine hB_quiet hok o0 o1 (by omega) q1.2.1 q2.2.1 (by omega) hc v v1 (by omega) (fun hm => ?_)
      rw [e1] at hm
      rcases List.mem_cons.1 hm with h' | h'
      · omega
      · exact hv h'
    have hb := hp.off hhT
    refine ⟨fun p h => ?_, hp.gap, fun t t1 t2 => ?_⟩
    · have := hp.bd p h; omega
    · by_cases c : t < F' ∨ T' ≤ t
      · rw [hout t t1 t2 c]
        constructor
        · intro h'; cases h'
        · rintro ⟨p, h, h2⟩; have := hp.bd p h; omega
      · rw [← hh t (by omega), hp.all t (by omega) (by omega), hb]
        constructor
        · rintro (h' | h')
          · exact h'
          · omega
        · exact .inl
  · have he : edL d s e o sm F' T' = [] := by unfold edL; rw [if_pos (by omega)]
    rw [he]
    refine ⟨by simp [foldS], by simp [foldS], fun t t1 t2 => ?_⟩
    rw [hout t t1 t2 (by omega)]
    simp [foldS]

/-! ### As the reference goes -/
/-- What holds when the reference has come to the time t. -/
structure RPart (H : Int → Bool) (F T t : Int) (l : List (Int × Int)) : Prop where
  bd : ∀ p ∈ l, F ≤ p.1 ∧ p.1 < p.2 ∧ p.2 ≤ t
  gap : l.Pairwise (fun p q => p.2 < q.1)
  all : ∀ v, F ≤ v → v < t → (H v = true ↔ ∃ p ∈ l, p.1 ≤ v ∧ v < p.2)
  new : t < T → F < t → H t ≠ H (t - 1)
theorem RPart.start (H : Int → Bool) (F T : Int) : RPart H F T F [] := ⟨by simp, by simp, fun v h1 h2 => by omega, fun h1 h2 => by omega⟩
/-- The end of the stretch that begins at t. -/
noncomputable def endI (H : Int → Bool) (T t : Int) : Int := if nxt H t < 0 ∨ T < nxt H t then T else nxt H t
theorem nxt_nx {H : Int → Bool} {t r : Int} (h : NX H t r) : NX H t (nxt H t) := Classical.epsilon_spec ⟨r, h⟩
theorem endI_facts {H : Int → Bool} {T t : Int} (h : NX H t (nxt H t)) (t0 : 0 ≤ t) (tT : t < T) (tM : T ≤ 268435456) :
    t < endI H T t ∧ endI H T t ≤ T ∧ (∀ v, t ≤ v → v < endI H T t → H v = H t) ∧ (endI H T t < T → H (endI H T t) ≠ H (endI H T t - 1)) := by
  unfold endI
  rcases h with ⟨h1, h2⟩ | ⟨h1, h2, h3, h4⟩
  · rw [if_pos (by omega)]
    exact ⟨tT, Int.le_refl _, fun v v1 v2 => const_of H t v (fun x x1 x2 => h2 x x1 (by omega)) v v1 (Int.le_refl _), fun h => by omega⟩
  · by_cases c : T < nxt H t
    · rw [if_pos (.inr c)]
      exact ⟨tT, Int.le_refl _, fun v v1 v2 => const_of H t v (fun x x1 x2 => h4 x x1 (by omega)) v v1 (Int.le_refl _), fun h => by omega⟩
    · rw [if_neg (by omega)]
      exact ⟨h1, by omega, fun v v1 v2 => const_of H t v (fun x x1 x2 => h4 x x1 (by omega)) v v1 (Int.le_refl _), fun _ => h3⟩
theorem RPart.next {H : Int → Bool} {F T t : Int} {l : List (Int × Int)} (h : RPart H F T t l) (hn : NX H t (nxt H t)) (t0 : 0 ≤ t) (hFt : F ≤ t) (tT : t < T) (tM : T ≤ 268435456) :
    RPart H F T (endI H T t) (if H t then l ++ [(t, endI H T t)] else l) := by
  obtain ⟨e1, e2, e3, e4⟩ := endI_facts hn t0 tT tM
  generalize endI H T t = U at e1 e2 e3 e4 ⊢
  cases hH : H t with
  | true =>
    rw [if_pos rfl]
    refine ⟨fun p hp => ?_, List.pairwise_append.2 ⟨h.gap, by simp, fun p hp q hq => ?_⟩, fun v v1 v2 => ?_, fun h1 _ => e4 h1⟩
    · rcases List.mem_append.1 hp with hp | hp
      · have := h.bd p hp; omega
      · obtain rfl : p = (t, U) := by simpa using hp
        simp only; omega
    · obtain rfl : q = (t, U) := by simpa using hq
      have hb := h.bd p hp
      have : p.2 ≠ t := fun e => by
        have h1 := h.new tT (by omega)
        have h2 := (h.all (t - 1) (by omega) (by omega)).2 ⟨p, hp, by omega, by omega⟩
        rw [h2, hH] at h1
        exact h1 rfl
      simp only; omega
    · by_cases c : v < t
      · rw [h.all v v1 c]
        constructor
        · rintro ⟨p, hp, hp2⟩; exact ⟨p, by simp [hp], hp2⟩
        · rintro ⟨p, hp, hp2⟩
          rcases List.mem_append.1 hp with hp | hp
          · exact ⟨p, hp, hp2⟩
          · obtain rfl : p = (t, U) := by simpa using hp
            simp only at hp2; omega
      · rw [e3 v (by omega) v2, hH]
        simp only [true_iff]
        exact ⟨(t, U), by simp, by simp only; omega⟩
  | false =>
    rw [if_neg (by decide)]
    refine ⟨fun p hp => by have := h.bd p hp; omega, h.gap, fun v v1 v2 => ?_, fun h1 _ => e4 h1⟩
    by_cases c : v < t
    · exact h.all v v1 c
    · rw [e3 v (by omega) v2, hH]
      constructor
      · intro h'; cases h'
      · rintro ⟨p, hp, hp2⟩; have := h.bd p hp; omega
theorem RPart.runs {H : Int → Bool} {F T : Int} {l : List (Int × Int)} (h : RPart H F T T l) : Runs H F T l := ⟨h.bd, h.gap, h.all⟩
/-- The spans so far are no more than there are. -/
theorem RPart.len {H : Int → Bool} {F T t : Int} {l R : List (Int × Int)} (hR : Runs H F T R) (h : RPart H F T t l) (hFt : F ≤ t) (ht : t ≤ T) : l.length ≤ R.length ∧ (t < T → H t = true → l.length < R.length) := by
  have key : ∀ (l R : List (Int × Int)) (F : Int), Runs H F T R → RPart H F T t l → F ≤ t → (l.length ≤ R.length ∧ (t < T → H t = true → l.length < R.length)) := by
    intro l
    induction l with
    | nil =>
      intro R F hR h hF
      refine ⟨Nat.zero_le _, fun h1 h2 => ?_⟩
      obtain ⟨p, hp, _⟩ := (hR.all t hF h1).1 h2
      cases R with
      | nil => cases hp
      | cons _ _ => simp
    | cons p l ih =>
      intro R F hR h hF
      have hp := h.bd p (by simp)
      have hg := (List.pairwise_cons.1 h.gap)
      have hin : ∀ v, p.1 ≤ v → v < p.2 → H v = true := fun v v1 v2 => (h.all v (by omega) (by omega)).2 ⟨p, by simp, v1, v2⟩
      cases R with
      | nil => obtain ⟨q, hq, _⟩ := (hR.all p.1 (by omega) (by omega)).1 (hin p.1 (by omega) (by omega)); cases hq
      | cons q R =>
        -- the first spans begin alike
        have hq := hR.bd q (by simp)
        obtain ⟨r, hr, hr2⟩ := (hR.all p.1 (by omega) (by omega)).1 (hin p.1 (by omega) (by omega))
        have hqr : q.1 ≤ r.1 := by
          rcases List.mem_cons.1 hr with rfl | hr
          · omega
          · have := (List.pairwise_cons.1 hR.gap).1 r hr; omega
        have hqp : ¬ q.1 < p.1 := fun hlt => by
          have := (hR.all q.1 (by omega) (by omega)).2 ⟨q, by simp, by omega, by omega⟩
          obtain ⟨x, hx, hx2⟩ := (h.all q.1 (by omega) (by omega)).1 this
          rcases List.mem_cons.1 hx with rfl | hx
          · omega
          · have := hg.1 x hx; omega
        have hqe : q.1 = p.1 := by omega
        -- and end alike
        have hend : q.2 = p.2 := by
          by_cases c1 : q.2 < p.2
          · have := hin q.2 (by omega) c1
            obtain ⟨x, hx, hx2⟩ := (hR.all q.2 (by omega) (by omega)).1 this
            rcases List.mem_cons.1 hx with rfl | hx
            · omega
            · have := (List.pairwise_cons.1 hR.gap).1 x hx; omega
          · by_cases c2 : p.2 < q.2
            · have h1 := (hR.all p.2 (by omega) (by omega)).2 ⟨q, by simp, by omega, by omega⟩
              by_cases c3 : p.2 < t
              · obtain ⟨x, hx, hx2⟩ := (h.all p.2 (by omega) c3).1 h1
                rcases List.mem_cons.1 hx with rfl | hx
                · omega
                · have := hg.1 x hx; omega
              · have hpt : p.2 = t := by omega
                have h2 := h.new (by omega) (by omega)
                rw [← hpt, h1, hin (p.2 - 1) (by omega) (by omega)] at h2
                exact absurd rfl h2
            · omega
        have hq' : q = p := Prod.ext hqe hend
        subst hq'
        have hRt := hR.tail
        have hlt : RPart H q.2 T t l := ⟨fun x hx => by have := h.bd x (by simp [hx]); have := hg.1 x hx; omega, hg.2, fun v v1 v2 => by
          rw [h.all v (by omega) v2]
          constructor
          · rintro ⟨x, hx, hx2⟩
            rcases List.mem_cons.1 hx with rfl | hx
            · omega
            · exact ⟨x, hx, hx2⟩
          · rintro ⟨x, hx, hx2⟩; exact ⟨x, by simp [hx], hx2⟩, fun h1 h2 => h.new h1 (by omega)⟩
        obtain ⟨i1, i2⟩ := ih R q.2 hRt hlt (by omega)
        exact ⟨by simp; omega, fun h1 h2 => by have := i2 h1 h2; simp; omega⟩
  exact key l R F hR h hFt
end Go.Proofs.YtmapkiefmbgdoabDoor
