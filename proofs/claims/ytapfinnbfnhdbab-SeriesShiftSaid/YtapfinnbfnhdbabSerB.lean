/-
  Plain facts on series of steps: two series as one, the next time of a step, what is put behind. No program is named here.
-/
import Derived.Test.YtapfinnbfnhdbabSerA
namespace Go.Proofs.Ytapfinnbfnhdbab.Ser
set_option linter.unusedVariables false

/-- Two lists of steps as one, with the values of a function of both. -/
def mergeV (f : Int → Int → Int) (x y : Int) : List St → List St → List St
  | [], [] => []
  | s :: a, [] => (s.1, f s.2 y) :: mergeV f s.2 y a []
  | [], u :: b => (u.1, f x u.2) :: mergeV f x u.2 [] b
  | s :: a, u :: b =>
    if s.1 < u.1 then (s.1, f s.2 y) :: mergeV f s.2 y a (u :: b)
    else if u.1 < s.1 then (u.1, f x u.2) :: mergeV f x u.2 (s :: a) b
    else (s.1, f s.2 u.2) :: mergeV f s.2 u.2 a b
termination_by a b => a.length + b.length
theorem mergeV_nil (f : Int → Int → Int) (x y : Int) : mergeV f x y [] [] = [] := by rw [mergeV]
theorem mergeV_left (f : Int → Int → Int) (x y : Int) (s : St) (a : List St) : mergeV f x y (s :: a) [] = (s.1, f s.2 y) :: mergeV f s.2 y a [] := by rw [mergeV]
theorem mergeV_right (f : Int → Int → Int) (x y : Int) (u : St) (b : List St) : mergeV f x y [] (u :: b) = (u.1, f x u.2) :: mergeV f x u.2 [] b := by rw [mergeV]
theorem mergeV_lt (f : Int → Int → Int) (x y : Int) (s u : St) (a b : List St) (h : s.1 < u.1) : mergeV f x y (s :: a) (u :: b) = (s.1, f s.2 y) :: mergeV f s.2 y a (u :: b) := by rw [mergeV, if_pos h]
theorem mergeV_gt (f : Int → Int → Int) (x y : Int) (s u : St) (a b : List St) (h : u.1 < s.1) : mergeV f x y (s :: a) (u :: b) = (u.1, f x u.2) :: mergeV f x u.2 (s :: a) b := by rw [mergeV, if_neg (by omega), if_pos h]
theorem mergeV_eq (f : Int → Int → Int) (x y : Int) (s u : St) (a b : List St) (h : s.1 = u.1) : mergeV f x y (s :: a) (u :: b) = (s.1, f s.2 u.2) :: mergeV f s.2 u.2 a b := by rw [mergeV, if_neg (by omega), if_neg (by omega)]
theorem mergeV_spec (f : Int → Int → Int) : ∀ (n : Nat) (a b : List St) (x y p : Int), a.length + b.length ≤ n → Asc p a → Asc p b →
    Asc p (mergeV f x y a b) ∧ (mergeV f x y a b).length ≤ a.length + b.length ∧ ∀ t, atFrom (f x y) t (mergeV f x y a b) = f (atFrom x t a) (atFrom y t b)
  | _, [], [], x, y, p, _, _, _ => by rw [mergeV_nil]; exact ⟨trivial, Nat.zero_le _, fun _ => rfl⟩
  | 0, _ :: _, _, _, _, _, h, _, _ => absurd h (by simp)
  | 0, [], _ :: _, _, _, _, h, _, _ => absurd h (by simp)
  | n + 1, s :: a, [], x, y, p, h, ⟨h1, h2⟩, hb => by
    rw [mergeV_left]
    obtain ⟨i1, i2, i3⟩ := mergeV_spec f n a [] s.2 y s.1 (by simp at h ⊢; omega) h2 trivial
    refine ⟨⟨h1, i1⟩, by simp at i2 ⊢; omega, fun t => ?_⟩
    show atFrom (if s.1 ≤ t then f s.2 y else f x y) t _ = f (atFrom (if s.1 ≤ t then s.2 else x) t a) y
    by_cases c : s.1 ≤ t
    · rw [if_pos c, if_pos c]; exact i3 t
    · rw [if_neg c, if_neg c, atFrom_none, atFrom_none]
      · intro z hz; have := h2.all z hz; omega
      · intro z hz; have := i1.all z hz; omega
  | n + 1, [], u :: b, x, y, p, h, ha, ⟨h1, h2⟩ => by
    rw [mergeV_right]
    obtain ⟨i1, i2, i3⟩ := mergeV_spec f n [] b x u.2 u.1 (by simp at h ⊢; omega) trivial h2
    refine ⟨⟨h1, i1⟩, by simp at i2 ⊢; omega, fun t => ?_⟩
    show atFrom (if u.1 ≤ t then f x u.2 else f x y) t _ = f x (atFrom (if u.1 ≤ t then u.2 else y) t b)
    by_cases c : u.1 ≤ t
    · rw [if_pos c, if_pos c]; exact i3 t
    · rw [if_neg c, if_neg c, atFrom_none, atFrom_none]
      · intro z hz; have := h2.all z hz; omega
      · intro z hz; have := i1.all z hz; omega
  | n + 1, s :: a, u :: b, x, y, p, h, ⟨h1, h2⟩, ⟨h3, h4⟩ => by
    simp only [List.length_cons] at h
    by_cases c1 : s.1 < u.1
    · rw [mergeV_lt _ _ _ _ _ _ _ c1]
      obtain ⟨i1, i2, i3⟩ := mergeV_spec f n a (u :: b) s.2 y s.1 (by simp; omega) h2 ⟨c1, h4⟩
      refine ⟨⟨h1, i1⟩, by simp at i2 ⊢; omega, fun t => ?_⟩
      show atFrom (if s.1 ≤ t then f s.2 y else f x y) t _ = f (atFrom (if s.1 ≤ t then s.2 else x) t a) (atFrom y t (u :: b))
      by_cases c : s.1 ≤ t
      · rw [if_pos c, if_pos c]; exact i3 t
      · rw [if_neg c, if_neg c, atFrom_none, atFrom_none, atFrom_none t (u :: b)]
        · intro z hz; rcases List.mem_cons.1 hz with rfl | hz
          · omega
          · have := h4.all z hz; omega
        · intro z hz; have := h2.all z hz; omega
        · intro z hz; have := i1.all z hz; omega
    · by_cases c2 : u.1 < s.1
      · rw [mergeV_gt _ _ _ _ _ _ _ c2]
        obtain ⟨i1, i2, i3⟩ := mergeV_spec f n (s :: a) b x u.2 u.1 (by simp; omega) ⟨c2, h2⟩ h4
        refine ⟨⟨h3, i1⟩, by simp at i2 ⊢; omega, fun t => ?_⟩
        show atFrom (if u.1 ≤ t then f x u.2 else f x y) t _ = f (atFrom x t (s :: a)) (atFrom (if u.1 ≤ t then u.2 else y) t b)
        by_cases c : u.1 ≤ t
        · rw [if_pos c, if_pos c]; exact i3 t
        · rw [if_neg c, if_neg c, atFrom_none, atFrom_none t (s :: a), atFrom_none t b]
          · intro z hz; have := h4.all z hz; omega
          · intro z hz; rcases List.mem_cons.1 hz with rfl | hz
            · omega
            · have := h2.all z hz; omega
          · intro z hz; have := i1.all z hz; omega
      · have c3 : s.1 = u.1 := by omega
        rw [mergeV_eq _ _ _ _ _ _ _ c3]
        obtain ⟨i1, i2, i3⟩ := mergeV_spec f n a b s.2 u.2 s.1 (by omega) h2 (c3 ▸ h4)
        refine ⟨⟨h1, i1⟩, by simp at i2 ⊢; omega, fun t => ?_⟩
        show atFrom (if s.1 ≤ t then f s.2 u.2 else f x y) t _ = f (atFrom (if s.1 ≤ t then s.2 else x) t a) (atFrom (if u.1 ≤ t then u.2 else y) t b)
        by_cases c : s.1 ≤ t
        · rw [if_pos c, if_pos c, if_pos (by omega)]; exact i3 t
        · rw [if_neg c, if_neg c, if_neg (by omega), atFrom_none, atFrom_none, atFrom_none]
          · intro z hz; have := h4.all z hz; omega
          · intro z hz; have := h2.all z hz; omega
          · intro z hz; have := i1.all z hz; omega
def combL (f : Int → Int → Int) (a b : List St) : List St := nL 0 (mergeV f 0 0 a b)
/-- A normal series with these values. -/
structure Fin (F : Int → Int) (l : List St) : Prop where
  asc : Asc (-1) l
  nrm : Nrm 0 l
  at_ : ∀ t, atL l t = F t
theorem Fin.unique {F : Int → Int} {l m : List St} (h : Fin F l) (k : Fin F m) : l = m :=
  nrm_unique l m 0 (-1) h.asc k.asc h.nrm k.nrm fun t => (h.at_ t).trans (k.at_ t).symm
theorem combL_fin (f : Int → Int → Int) (h0 : f 0 0 = 0) (a b : List St) (ha : Asc (-1) a) (hb : Asc (-1) b) : Fin (fun t => f (atL a t) (atL b t)) (combL f a b) := by
  obtain ⟨i1, i2, i3⟩ := mergeV_spec f _ a b 0 0 (-1) (Nat.le_refl _) ha hb
  refine ⟨nL_asc _ _ _ i1, nL_nrm _ _, fun t => ?_⟩
  have h1 := nL_at t (mergeV f 0 0 a b) 0 (-1) i1
  have h2 := i3 t
  rw [h0] at h2
  exact h1.trans h2
theorem combL_len (f : Int → Int → Int) (a b : List St) (ha : Asc (-1) a) (hb : Asc (-1) b) : (combL f a b).length ≤ a.length + b.length :=
  Nat.le_trans (nL_len _ _) (mergeV_spec f _ a b 0 0 (-1) (Nat.le_refl _) ha hb).2.1
theorem nL_fin (l : List St) (h : Asc (-1) l) : Fin (atL l) (nL 0 l) := ⟨nL_asc _ _ _ h, nL_nrm _ _, fun t => nL_at t l 0 (-1) h⟩

/-! The next time of a step. -/
def nx (t best : Int) (s : St) : Int := if t < s.1 ∧ (best < 0 ∨ s.1 < best) then s.1 else best
def nextF (t : Int) (l : List St) : Int := l.foldl (nx t) (-1)
theorem nextF_snoc (t : Int) (l : List St) (s : St) : nextF t (l ++ [s]) = nx t (nextF t l) s := by unfold nextF; rw [List.foldl_append]; rfl
theorem nextF_spec (t : Int) (ht : -1 ≤ t) : ∀ l : List St, (∀ s ∈ l, 0 ≤ s.1) →
    (nextF t l = -1 ∧ ∀ s ∈ l, s.1 ≤ t) ∨ (t < nextF t l ∧ 0 ≤ nextF t l ∧ (∃ s ∈ l, s.1 = nextF t l) ∧ ∀ s ∈ l, t < s.1 → nextF t l ≤ s.1) := by
  have key : ∀ (l : List St) (done : List St) (best : Int), (∀ s ∈ l, 0 ≤ s.1) → (∀ s ∈ done, 0 ≤ s.1) →
      ((best = -1 ∧ ∀ s ∈ done, s.1 ≤ t) ∨ (t < best ∧ 0 ≤ best ∧ (∃ s ∈ done, s.1 = best) ∧ ∀ s ∈ done, t < s.1 → best ≤ s.1)) →
      ((l.foldl (nx t) best = -1 ∧ ∀ s ∈ done ++ l, s.1 ≤ t) ∨ (t < l.foldl (nx t) best ∧ 0 ≤ l.foldl (nx t) best ∧ (∃ s ∈ done ++ l, s.1 = l.foldl (nx t) best) ∧ ∀ s ∈ done ++ l, t < s.1 → l.foldl (nx t) best ≤ s.1)) := by
    intro l
    induction l with
    | nil => intro done best _ _ h; simpa using h
    | cons x l ih =>
      intro done best hl hd h
      have hx := hl x List.mem_cons_self
      have := ih (done ++ [x]) (nx t best x) (fun s hs => hl s (List.mem_cons_of_mem _ hs)) (fun s hs => by
        rcases List.mem_append.1 hs with h | h
        · exact hd s h
        · rw [List.mem_singleton.1 h]; exact hx) (by
        unfold nx
        rcases h with ⟨rfl, h2⟩ | ⟨h1, h2, ⟨s0, h3, h3'⟩, h4⟩
        · by_cases c : t < x.1
          · rw [if_pos ⟨c, .inl (by decide)⟩]
            refine .inr ⟨c, hx, ⟨x, by simp, rfl⟩, fun s hs hts => ?_⟩
            rcases List.mem_append.1 hs with h | h
            · have := h2 s h; omega
            · rw [List.mem_singleton.1 h]; exact Int.le_refl _
          · rw [if_neg (by omega)]
            refine .inl ⟨rfl, fun s hs => ?_⟩
            rcases List.mem_append.1 hs with h | h
            · exact h2 s h
            · rw [List.mem_singleton.1 h]; omega
        · by_cases c : t < x.1 ∧ (best < 0 ∨ x.1 < best)
          · rw [if_pos c]
            refine .inr ⟨c.1, hx, ⟨x, by simp, rfl⟩, fun s hs hts => ?_⟩
            rcases List.mem_append.1 hs with h | h
            · have := h4 s h hts; omega
            · rw [List.mem_singleton.1 h]; exact Int.le_refl _
          · rw [if_neg c]
            refine .inr ⟨h1, h2, ⟨s0, by simp [h3], h3'⟩, fun s hs hts => ?_⟩
            rcases List.mem_append.1 hs with h | h
            · exact h4 s h hts
            · rw [List.mem_singleton.1 h] at hts ⊢; omega)
      rw [List.append_assoc] at this
      exact this
  intro l hl
  have := key l [] (-1) hl (fun s hs => by cases hs) (.inl ⟨rfl, fun s hs => by cases hs⟩)
  simp only [List.nil_append] at this
  exact this

theorem countP_less {α : Type} (p q : α → Bool) : ∀ (l : List α), (∀ x ∈ l, p x = true → q x = true) → (∃ x ∈ l, q x = true ∧ p x = false) → l.countP p + 1 ≤ l.countP q
  | [], _, ⟨x, hx, _⟩ => by cases hx
  | y :: l, h, ⟨x, hx, h1, h2⟩ => by
    rw [List.countP_cons, List.countP_cons]
    have mono : l.countP p ≤ l.countP q := List.countP_mono_left fun z hz hp => h z (List.mem_cons_of_mem _ hz) hp
    rcases List.mem_cons.1 hx with rfl | hx
    · rw [h1, h2]; simp; omega
    · have := countP_less p q l (fun z hz => h z (List.mem_cons_of_mem _ hz)) ⟨x, hx, h1, h2⟩
      have hy := h y List.mem_cons_self
      cases e : p y with
      | false => simp; split <;> omega
      | true => rw [hy e]; simp; omega

/-- What is put behind a series unless it changes nothing. -/
def putL (l : List St) (at_ v : Int) : List St := if v = lastV 0 l then l else l ++ [(at_, v)]
def cnt (l : List St) (t : Int) : Nat := l.countP fun s => decide (s.1 < t)
/-- Where the reference's loop stands, at the time t. -/
structure Cmb (F : Int → Int) (m out : List St) (t : Int) : Prop where
  asc : Asc (-1) out
  lt : ∀ s ∈ out, s.1 < t
  nrm : Nrm 0 out
  at_ : ∀ t', t' < t → atL out t' = F t'
  t0 : 0 ≤ t
  st : ∃ s ∈ m, s.1 = t
  len : out.length ≤ cnt m t
theorem lastV_at (l : List St) (t : Int) (h : ∀ s ∈ l, s.1 ≤ t) : atL l t = lastV 0 l := by
  have : ∀ (l : List St) (w : Int), (∀ s ∈ l, s.1 ≤ t) → atFrom w t l = lastV w l := by
    intro l
    induction l with
    | nil => intro w _; rfl
    | cons x l ih =>
      intro w h
      unfold atFrom lastV
      rw [if_pos (h x List.mem_cons_self)]
      exact ih _ fun s hs => h s (List.mem_cons_of_mem _ hs)
  exact this l 0 h
theorem Asc.snoc {p : Int} : ∀ {l : List St} (s : St), Asc p l → p < s.1 → (∀ x ∈ l, x.1 < s.1) → Asc p (l ++ [s])
  | [], s, _, h, _ => ⟨h, trivial⟩
  | x :: l, s, ⟨a, b⟩, h, hl => ⟨a, Asc.snoc s b (hl x List.mem_cons_self) fun y hy => hl y (List.mem_cons_of_mem _ hy)⟩
theorem Nrm.snoc {w : Int} : ∀ {l : List St} (s : St), Nrm w l → s.2 ≠ lastV w l → Nrm w (l ++ [s])
  | [], s, _, h => ⟨h, trivial⟩
  | x :: l, s, ⟨a, b⟩, h => ⟨a, Nrm.snoc s b h⟩
theorem putL_len (l : List St) (t v : Int) : (putL l t v).length ≤ l.length + 1 := by unfold putL; split <;> simp
theorem Cmb.put {F : Int → Int} {m out : List St} {t : Int} (h : Cmb F m out t) : Asc (-1) (putL out t (F t)) ∧ Nrm 0 (putL out t (F t)) ∧ (∀ s ∈ putL out t (F t), s.1 ≤ t) ∧ (∀ t', t' < t → atL (putL out t (F t)) t' = F t') ∧ ∀ t', t ≤ t' → atL (putL out t (F t)) t' = F t := by
  unfold putL
  by_cases c : F t = lastV 0 out
  · rw [if_pos c]
    refine ⟨h.asc, h.nrm, fun s hs => Int.le_of_lt (h.lt s hs), h.at_, fun t' ht' => ?_⟩
    rw [c, lastV_at out t' fun s hs => by have := h.lt s hs; omega]
  · rw [if_neg c]
    refine ⟨h.asc.snoc _ (by have := h.t0; show -1 < t; omega) h.lt, h.nrm.snoc _ c, fun s hs => ?_, fun t' ht' => ?_, fun t' ht' => ?_⟩
    · rcases List.mem_append.1 hs with h1 | h1
      · exact Int.le_of_lt (h.lt s h1)
      · rw [List.mem_singleton.1 h1]; exact Int.le_refl _
    · rw [atL_snoc, if_neg (by show ¬ t ≤ t'; omega)]; exact h.at_ t' ht'
    · rw [atL_snoc, if_pos ht']
/-- F changes at steps only. -/
def Steps (F : Int → Int) (m : List St) : Prop := ∀ t t', t ≤ t' → (∀ s ∈ m, t < s.1 → t' < s.1) → F t = F t'
theorem Cmb.next {F : Int → Int} {m out : List St} {t : Int} (h : Cmb F m out t) (hF : Steps F m) (h0 : ∀ s ∈ m, 0 ≤ s.1) :
    (nextF t m = -1 ∧ Fin F (putL out t (F t))) ∨ (t < nextF t m ∧ Cmb F m (putL out t (F t)) (nextF t m)) := by
  obtain ⟨p1, p2, p3, p4, p5⟩ := h.put
  rcases nextF_spec t (by have := h.t0; omega) m h0 with ⟨n1, n2⟩ | ⟨n1, n2, n3, n4⟩
  · refine .inl ⟨n1, p1, p2, fun t' => ?_⟩
    by_cases c : t' < t
    · exact p4 t' c
    · rw [p5 t' (by omega)]
      exact hF t t' (by omega) fun s hs hts => by have := n2 s hs; omega
  · refine .inr ⟨n1, p1, fun s hs => by have := p3 s hs; omega, p2, fun t' ht' => ?_, n2, n3, ?_⟩
    · by_cases c : t' < t
      · exact p4 t' c
      · rw [p5 t' (by omega)]
        exact hF t t' (by omega) fun s hs hts => by have := n4 s hs hts; omega
    · have h1 := putL_len out t (F t)
      have h2 := h.len
      have h3 : cnt m t + 1 ≤ cnt m (nextF t m) := by
        refine countP_less _ _ m (fun x _ hx => by simp at hx ⊢; omega) ?_
        obtain ⟨s, hs, e⟩ := h.st
        exact ⟨s, hs, by simp; omega, by simp; omega⟩
      omega
theorem Cmb.start (F : Int → Int) (m : List St) (hF : Steps F m) (h0 : ∀ s ∈ m, 0 ≤ s.1) (hz : F (-1) = 0) : (nextF (-1) m = -1 ∧ Fin F []) ∨ Cmb F m [] (nextF (-1) m) := by
  have hneg : ∀ t, t ≤ -1 → F t = 0 := fun t ht => by
    rw [hF t (-1) ht (fun s hs _ => by have := h0 s hs; omega)]; exact hz
  rcases nextF_spec (-1) (Int.le_refl _) m h0 with ⟨n1, n2⟩ | ⟨n1, n2, n3, n4⟩
  · refine .inl ⟨n1, trivial, trivial, fun t => ?_⟩
    by_cases c : t ≤ -1
    · exact (hneg t c).symm
    · show (0 : Int) = F t
      rw [← hz]
      exact hF (-1) t (by omega) fun s hs hts => by have := n2 s hs; omega
  · refine .inr ⟨trivial, fun s hs => (by cases hs), trivial, fun t' ht' => ?_, n2, n3, Nat.zero_le _⟩
    show (0 : Int) = F t'
    by_cases c : t' ≤ -1
    · exact (hneg t' c).symm
    · rw [← hz]
      exact hF (-1) t' (by omega) fun s hs hts => by have := n4 s hs hts; omega
theorem steps_at (f : Int → Int → Int) (a b : List St) : Steps (fun t => f (atL a t) (atL b t)) (a ++ b) := fun t t' h1 h2 => by
  show f (atL a t) (atL b t) = f (atL a t') (atL b t')
  unfold atL
  rw [atL_same t t' a 0 h1 fun s hs => h2 s (List.mem_append.2 (.inl hs)), atL_same t t' b 0 h1 fun s hs => h2 s (List.mem_append.2 (.inr hs))]
end Go.Proofs.Ytapfinnbfnhdbab.Ser
