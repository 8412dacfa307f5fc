/-
  Plain facts on series of steps: validity, values at times, normal form. No program is named here.
-/
namespace Go.Proofs.Ytapfinnbfnhdbab.Ser
abbrev St := Int × Int
def okS (s : St) : Bool := decide (0 ≤ s.1 ∧ s.1 ≤ 268435456) && decide (-1099511627776 ≤ s.2 ∧ s.2 ≤ 1099511627776)
def vL (prev : Int) : List St → Int
  | [] => 0
  | s :: l => if okS s = false then 2 else if s.1 ≤ prev then 1 else vL s.1 l
def validE (l : List St) : Int := if 512 < l.length then 3 else vL (-1) l
/-- The steps ascend in time, from behind p. -/
def Asc (p : Int) : List St → Prop
  | [] => True
  | s :: l => p < s.1 ∧ Asc s.1 l
theorem Asc.mono {p q : Int} (h : q ≤ p) : ∀ {l : List St}, Asc p l → Asc q l
  | [], _ => trivial
  | _ :: _, ⟨a, b⟩ => ⟨by omega, b⟩
theorem Asc.all {p : Int} : ∀ {l : List St}, Asc p l → ∀ s ∈ l, p < s.1
  | x :: l, ⟨a, b⟩, s, hs => by
    rcases List.mem_cons.1 hs with rfl | h
    · exact a
    · exact Asc.all (b.mono (Int.le_of_lt a)) s h
theorem vL_zero : ∀ (l : List St) (p : Int), vL p l = 0 ↔ ((∀ s ∈ l, okS s = true) ∧ Asc p l)
  | [], p => by simp [vL, Asc]
  | s :: l, p => by
    unfold vL Asc
    cases h : okS s with
    | false => simp [h]
    | true =>
      by_cases h2 : s.1 ≤ p
      · simp only [h2, if_true, Bool.true_eq_false, if_false]
        constructor
        · intro x; cases x
        · rintro ⟨_, x, _⟩; omega
      · simp only [h2, if_false, Bool.true_eq_false]
        rw [vL_zero l s.1]
        simp only [List.mem_cons, forall_eq_or_imp, h, true_and]
        constructor
        · rintro ⟨x, y⟩; exact ⟨x, by omega, y⟩
        · rintro ⟨x, _, y⟩; exact ⟨x, y⟩
theorem vL_cases (l : List St) (p : Int) : vL p l = 0 ∨ vL p l = 1 ∨ vL p l = 2 := by
  induction l generalizing p with
  | nil => exact .inl rfl
  | cons s l ih => unfold vL; split; exact .inr (.inr rfl); split; exact .inr (.inl rfl); exact ih _
/-- A valid series. -/
structure Ok (l : List St) : Prop where
  len : l.length ≤ 512
  all : ∀ s ∈ l, okS s = true
  asc : Asc (-1) l
theorem ok_iff (l : List St) : validE l = 0 ↔ Ok l := by
  unfold validE
  by_cases h : 512 < l.length
  · rw [if_pos h]; exact ⟨fun x => absurd x (by decide), fun x => by have := x.len; omega⟩
  · rw [if_neg h, vL_zero]; exact ⟨fun x => ⟨by omega, x.1, x.2⟩, fun x => ⟨x.all, x.asc⟩⟩
theorem okS_iff (s : St) : okS s = true ↔ (0 ≤ s.1 ∧ s.1 ≤ 268435456) ∧ (-1099511627776 ≤ s.2 ∧ s.2 ≤ 1099511627776) := by
  unfold okS; simp

/-- The time before place k. -/
def pv (l : List St) : Nat → Int
  | 0 => -1
  | k + 1 => (l.getD k (0, 0)).1
theorem pv_succ (l : List St) (k : Nat) (h : k < l.length) : pv l (k + 1) = l[k].1 := by
  unfold pv; simp [h]
theorem vL_step (l : List St) (k : Nat) (h : k < l.length) : vL (pv l k) (l.drop k) = if okS l[k] = false then 2 else if l[k].1 ≤ pv l k then 1 else vL (pv l (k + 1)) (l.drop (k + 1)) := by
  rw [List.drop_eq_getElem_cons h, pv_succ l k h]; rfl
def tB (t : Int) : Bool := decide (0 ≤ t ∧ t ≤ 268435456)
def vB (v : Int) : Bool := decide (-1099511627776 ≤ v ∧ v ≤ 1099511627776)
theorem okS_of (s : St) : okS s = (tB s.1 && vB s.2) := rfl

/-! The value at a time. -/
def atFrom (v : Int) (t : Int) : List St → Int
  | [] => v
  | s :: l => atFrom (if s.1 ≤ t then s.2 else v) t l
def atL (l : List St) (t : Int) : Int := atFrom 0 t l
theorem atFrom_snoc (t : Int) : ∀ (l : List St) (v : Int) (s : St), atFrom v t (l ++ [s]) = if s.1 ≤ t then s.2 else atFrom v t l
  | [], v, s => rfl
  | x :: l, v, s => by rw [List.cons_append]; unfold atFrom; exact atFrom_snoc t l _ s
theorem atL_snoc (l : List St) (s : St) (t : Int) : atL (l ++ [s]) t = if s.1 ≤ t then s.2 else atL l t := atFrom_snoc t l 0 s
theorem atFrom_none (t : Int) : ∀ (l : List St) (v : Int), (∀ s ∈ l, t < s.1) → atFrom v t l = v
  | [], v, _ => rfl
  | x :: l, v, h => by
    unfold atFrom
    rw [if_neg (by have := h x List.mem_cons_self; omega)]
    exact atFrom_none t l v fun s hs => h s (List.mem_cons_of_mem _ hs)
theorem atFrom_append (t : Int) : ∀ (l m : List St) (v : Int), atFrom v t (l ++ m) = atFrom (atFrom v t l) t m
  | [], m, v => rfl
  | x :: l, m, v => by rw [List.cons_append]; show atFrom _ t (l ++ m) = atFrom (atFrom _ t l) t m; exact atFrom_append t l m _
/-- By a cut between what is at or before the time and what is behind it. -/
theorem atL_cut (l : List St) (t : Int) (k : Nat) (h2 : ∀ s ∈ l.drop k, t < s.1) : atL l t = atL (l.take k) t := by
  conv => lhs; rw [← List.take_append_drop k l]
  unfold atL
  rw [atFrom_append, atFrom_none _ _ _ h2]
theorem atL_same (t t' : Int) : ∀ (l : List St) (v : Int), t ≤ t' → (∀ s ∈ l, t < s.1 → t' < s.1) → atFrom v t l = atFrom v t' l
  | [], _, _, _ => rfl
  | x :: l, v, ht, h => by
    unfold atFrom
    have hx := h x List.mem_cons_self
    by_cases c : x.1 ≤ t
    · rw [if_pos c, if_pos (by omega)]; exact atL_same t t' l _ ht fun s hs => h s (List.mem_cons_of_mem _ hs)
    · rw [if_neg c, if_neg (by have := hx (by omega); omega)]; exact atL_same t t' l _ ht fun s hs => h s (List.mem_cons_of_mem _ hs)
theorem atL_bd (l : List St) (t : Int) (h : ∀ s ∈ l, okS s = true) : -1099511627776 ≤ atL l t ∧ atL l t ≤ 1099511627776 := by
  have : ∀ (l : List St) (v : Int), (∀ s ∈ l, okS s = true) → -1099511627776 ≤ v → v ≤ 1099511627776 → -1099511627776 ≤ atFrom v t l ∧ atFrom v t l ≤ 1099511627776 := by
    intro l
    induction l with
    | nil => intro v _ a b; exact ⟨a, b⟩
    | cons x l ih =>
      intro v h a b
      unfold atFrom
      have hx := (okS_iff x).1 (h x List.mem_cons_self)
      by_cases c : x.1 ≤ t
      · rw [if_pos c]; exact ih _ (fun s hs => h s (List.mem_cons_of_mem _ hs)) hx.2.1 hx.2.2
      · rw [if_neg c]; exact ih _ (fun s hs => h s (List.mem_cons_of_mem _ hs)) a b
  exact this l 0 h (by decide) (by decide)

theorem Asc.get {p : Int} : ∀ {l : List St}, Asc p l → ∀ i j (hi : i < l.length) (hj : j < l.length), i < j → (l[i]).1 < (l[j]).1
  | x :: l, ⟨a, b⟩, 0, j + 1, _, hj, _ => b.all _ (List.getElem_mem _)
  | x :: l, ⟨a, b⟩, i + 1, j + 1, hi, hj, h => Asc.get b i j (by simpa using hi) (by simpa using hj) (by omega)
/-- The value by the place where the later steps begin. -/
def atR (l : List St) : Nat → Int
  | 0 => 0
  | k + 1 => (l.getD k (0, 0)).2
theorem atR_succ (l : List St) (k : Nat) (h : k < l.length) : atR l (k + 1) = l[k].2 := by unfold atR; simp [h]
theorem atL_of (l : List St) (p t : Int) (r : Nat) (ha : Asc p l) (hr : r ≤ l.length) (h1 : ∀ k (hk : k < l.length), k + 1 = r → (l[k]).1 ≤ t) (h2 : ∀ (hk : r < l.length), t < (l[r]).1) : atL l t = atR l r := by
  rw [atL_cut l t r]
  · match r, hr, h1 with
    | 0, _, _ => rfl
    | k + 1, hr, h1 =>
      have hk : k < l.length := by omega
      rw [List.take_succ_eq_append_getElem hk, atL_snoc, if_pos (h1 k hk rfl), atR_succ l k hk]
  · intro s hs
    obtain ⟨i, hi, rfl⟩ := List.mem_iff_getElem.1 hs
    rw [List.getElem_drop]
    have hlen : r + i < l.length := by rw [List.length_drop] at hi; omega
    have hr' : r < l.length := by omega
    by_cases e : i = 0
    · subst e; exact h2 hr'
    · have := ha.get r (r + i) hr' hlen (by omega)
      have := h2 hr'
      omega

/-! Without steps that change nothing. -/
def nL (was : Int) : List St → List St
  | [] => []
  | s :: l => if s.2 = was then nL was l else s :: nL s.2 l
def lastV (was : Int) : List St → Int
  | [] => was
  | s :: l => lastV s.2 l
theorem lastV_snoc : ∀ (l : List St) (w : Int) (s : St), lastV w (l ++ [s]) = s.2
  | [], _, _ => rfl
  | _ :: l, _, s => lastV_snoc l _ s
theorem nL_snoc : ∀ (l : List St) (w : Int) (s : St), nL w (l ++ [s]) = if s.2 = lastV w l then nL w l else nL w l ++ [s]
  | [], w, s => by
    show nL w [s] = if s.2 = w then [] else [s]
    unfold nL; split <;> rfl
  | x :: l, w, s => by
    rw [List.cons_append]
    unfold nL lastV
    by_cases c : x.2 = w
    · rw [if_pos c, if_pos c, nL_snoc l w s, c]
    · rw [if_neg c, if_neg c, nL_snoc l x.2 s]
      split <;> rfl
theorem lastV_nL : ∀ (l : List St) (w : Int), lastV w (nL w l) = lastV w l
  | [], _ => rfl
  | x :: l, w => by
    unfold nL
    by_cases c : x.2 = w
    · rw [if_pos c, lastV_nL l w]; show _ = lastV x.2 l; rw [c]
    · rw [if_neg c]; exact lastV_nL l x.2
theorem nL_len : ∀ (l : List St) (w : Int), (nL w l).length ≤ l.length
  | [], _ => Nat.le_refl _
  | x :: l, w => by
    unfold nL
    have := nL_len l w
    have := nL_len l x.2
    split <;> (simp only [List.length_cons]; omega)
theorem nL_sub : ∀ (l : List St) (w : Int), ∀ s ∈ nL w l, s ∈ l
  | x :: l, w, s, hs => by
    unfold nL at hs
    split at hs
    · exact List.mem_cons_of_mem _ (nL_sub l w s hs)
    · rcases List.mem_cons.1 hs with rfl | h
      · exact List.mem_cons_self
      · exact List.mem_cons_of_mem _ (nL_sub l _ s h)
theorem nL_asc : ∀ (l : List St) (w p : Int), Asc p l → Asc p (nL w l)
  | [], _, _, _ => trivial
  | x :: l, w, p, ⟨a, b⟩ => by
    unfold nL
    split
    · exact nL_asc l w p (b.mono (by omega))
    · exact ⟨a, nL_asc l _ _ b⟩
/-- Each step changes something. -/
def Nrm (w : Int) : List St → Prop
  | [] => True
  | s :: l => s.2 ≠ w ∧ Nrm s.2 l
theorem nL_nrm : ∀ (l : List St) (w : Int), Nrm w (nL w l)
  | [], _ => trivial
  | x :: l, w => by
    unfold nL
    split
    · exact nL_nrm l w
    · exact ⟨‹_›, nL_nrm l _⟩
theorem nL_at (t : Int) : ∀ (l : List St) (w p : Int), Asc p l → atFrom w t (nL w l) = atFrom w t l
  | [], _, _, _ => rfl
  | x :: l, w, p, ⟨a, b⟩ => by
    unfold nL
    by_cases c : x.2 = w
    · rw [if_pos c]
      rw [nL_at t l w _ b]
      show _ = atFrom (if x.1 ≤ t then x.2 else w) t l
      rw [c, ite_self]
    · rw [if_neg c]
      show atFrom (if x.1 ≤ t then x.2 else w) t (nL x.2 l) = atFrom (if x.1 ≤ t then x.2 else w) t l
      by_cases e : x.1 ≤ t
      · rw [if_pos e]; exact nL_at t l x.2 _ b
      · rw [if_neg e, atFrom_none, atFrom_none]
        · intro s hs; have := b.all s hs; omega
        · intro s hs; have := b.all s (nL_sub l _ s hs); omega
/-- A normal series is told by its values. -/
theorem nrm_unique : ∀ (l m : List St) (w p : Int), Asc p l → Asc p m → Nrm w l → Nrm w m → (∀ t, atFrom w t l = atFrom w t m) → l = m
  | [], [], _, _, _, _, _, _, _ => rfl
  | [], y :: m, w, p, _, ⟨a, b⟩, _, ⟨c, _⟩, h => by
    have := h y.1
    unfold atFrom at this
    rw [if_pos (Int.le_refl _), atFrom_none _ _ _ b.all] at this
    exact absurd this.symm c
  | x :: l, [], w, p, ⟨a, b⟩, _, ⟨c, _⟩, _, h => by
    have := h x.1
    unfold atFrom at this
    rw [if_pos (Int.le_refl _), atFrom_none _ _ _ b.all] at this
    exact absurd this c
  | x :: l, y :: m, w, p, ⟨a, b⟩, ⟨a', b'⟩, ⟨c, d⟩, ⟨c', d'⟩, h => by
    have hxy : x.1 = y.1 := by
      have h1 := h x.1
      have h2 := h y.1
      unfold atFrom at h1 h2
      rw [if_pos (Int.le_refl _), atFrom_none _ _ _ b.all] at h1
      rw [if_pos (Int.le_refl _), atFrom_none _ _ _ b'.all] at h2
      by_cases e1 : x.1 < y.1
      · rw [if_neg (by omega), atFrom_none _ m _ (fun s hs => by have := b'.all s hs; omega)] at h1
        exact absurd h1 c
      · by_cases e2 : y.1 < x.1
        · rw [if_neg (by omega), atFrom_none _ l _ (fun s hs => by have := b.all s hs; omega)] at h2
          exact absurd h2.symm c'
        · omega
    have hv : x.2 = y.2 := by
      have h1 := h x.1
      unfold atFrom at h1
      rw [if_pos (Int.le_refl _), atFrom_none _ _ _ b.all, if_pos (by omega), atFrom_none _ m _ (fun s hs => by have := b'.all s hs; omega)] at h1
      exact h1
    have hx : x = y := Prod.ext hxy hv
    subst hx
    congr 1
    refine nrm_unique l m x.2 x.1 b b' d d' fun t => ?_
    by_cases e : x.1 ≤ t
    · have := h t
      unfold atFrom at this
      rw [if_pos e] at this
      exact this
    · rw [atFrom_none, atFrom_none]
      · intro s hs; have := b'.all s hs; omega
      · intro s hs; have := b.all s hs; omega
end Go.Proofs.Ytapfinnbfnhdbab.Ser
