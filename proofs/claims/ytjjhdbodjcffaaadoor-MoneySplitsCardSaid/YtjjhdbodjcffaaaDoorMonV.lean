/-
  The order of remainders, and the rank of a place in it: plain facts.
-/
import Derived.Test.YtjjhdbodjcffaaaDoorSym
import Derived.Shelf.SlSortCmp.Insertion
namespace Go.Proofs.YtjjhdbodjcffaaaDoor.Rk
open Go.Sort Go.Shelf

variable {n : Nat}
/-- The greater remainder, and of two equal ones the first. -/
def lex (r : Fin n → Int) (j x : Fin n) : Bool := decide (r x < r j) || (decide (r x = r j) && decide (j.val < x.val))
def gt0 (r : Fin n → Int) (j x : Fin n) : Bool := decide (r x < r j)
theorem lex_iff (r : Fin n → Int) (j x : Fin n) : lex r j x = true ↔ r x < r j ∨ (r x = r j ∧ j.val < x.val) := by unfold lex; simp
theorem lex_not (r : Fin n → Int) (j x : Fin n) : lex r j x = false ↔ ¬ (r x < r j ∨ (r x = r j ∧ j.val < x.val)) := by
  rw [← lex_iff]; simp
theorem lex_swo (r : Fin n → Int) : SWO (lex r) where
  irrefl x := by rw [lex_not]; omega
  trans x y z h1 h2 := by rw [lex_iff] at *; omega
  ntrans x y z h1 h2 := by rw [lex_not] at *; omega
theorem lex_total (r : Fin n → Int) {x y : Fin n} (h : x ≠ y) (h2 : lex r x y = false) : lex r y x = true := by
  have : x.val ≠ y.val := fun e => h (Fin.ext e)
  rw [lex_not] at h2; rw [lex_iff]; omega
theorem gt_lex (r : Fin n → Int) (x y : Fin n) (h : y.val < x.val) : gt0 r x y = lex r x y := by
  unfold gt0 lex
  have : decide (x.val < y.val) = false := by simp; omega
  rw [this]; simp
theorem nodup_inj {α : Type} {l : List α} (h : l.Nodup) {i j : Nat} (hi : i < l.length) (hj : j < l.length) (e : l[i] = l[j]) : i = j := by
  have hp := List.pairwise_iff_getElem.1 h
  rcases Nat.lt_trichotomy i j with c | c | c
  · exact absurd e (hp i j hi hj c)
  · exact c
  · exact absurd e.symm (hp j i hj hi c)
/-- How many places come before one. -/
def rank (r : Fin n → Int) (x : Fin n) : Nat := (List.finRange n).countP (fun j => lex r j x)
theorem rank_at (r : Fin n → Int) (l : List (Fin n)) (hp : l.Perm (List.finRange n)) (hs : ∀ i j (hi : i < l.length) (hj : j < l.length), i < j → lex r l[j] l[i] = false) (q : Nat) (hq : q < l.length) : rank r l[q] = q := by
  have hnd : l.Nodup := hp.symm.nodup (List.nodup_finRange n)
  obtain ⟨x, hx⟩ : ∃ x, x = l[q] := ⟨_, rfl⟩
  have h1 : (l.take q).countP (fun j => lex r j l[q]) = q := by
    rw [List.countP_eq_length.2]
    · rw [List.length_take]; omega
    · intro a ha
      obtain ⟨p, hp1, hp2⟩ := List.getElem_of_mem ha
      rw [List.length_take] at hp1
      rw [List.getElem_take] at hp2
      subst hp2
      refine lex_total r (fun e => ?_) (hs p q (by omega) hq (by omega))
      have := nodup_inj hnd _ _ e
      omega
  have h2 : (l.drop q).countP (fun j => lex r j l[q]) = 0 := by
    rw [List.countP_eq_zero]
    intro a ha
    obtain ⟨p, hp1, hp2⟩ := List.getElem_of_mem ha
    rw [List.length_drop] at hp1
    rw [List.getElem_drop] at hp2
    subst hp2
    by_cases e : p = 0
    · subst e; simp [(lex_swo r).irrefl]
    · rw [hs q (q + p) hq (by omega) (by omega)]; simp
  rw [← hx] at h1 h2 ⊢
  unfold rank
  rw [← hp.countP_eq, ← List.take_append_drop q l, List.countP_append, h1, h2, Nat.add_zero]
theorem rank_take (r : Fin n → Int) (l : List (Fin n)) (hp : l.Perm (List.finRange n)) (hs : ∀ i j (hi : i < l.length) (hj : j < l.length), i < j → lex r l[j] l[i] = false) (x : Fin n) (k : Nat) : x ∈ l.take k ↔ rank r x < k := by
  have hx : x ∈ l := hp.mem_iff.2 (List.mem_finRange x)
  obtain ⟨q, hq, e⟩ := List.getElem_of_mem hx
  have hr := rank_at r l hp hs q hq
  have hnd : l.Nodup := hp.symm.nodup (List.nodup_finRange n)
  rw [e] at hr
  rw [hr]
  constructor
  · intro h
    obtain ⟨p, hp1, hp2⟩ := List.getElem_of_mem h
    rw [List.length_take] at hp1
    rw [List.getElem_take, ← e] at hp2
    have := nodup_inj hnd _ _ hp2
    omega
  · intro h
    rw [List.mem_iff_getElem]
    exact ⟨q, by rw [List.length_take]; omega, by rw [List.getElem_take]; exact e⟩
/-- The places, ascending. -/
def ids (n : Nat) : Array (Fin n) := (List.finRange n).toArray
theorem ids_size : (ids n).size = n := by simp [ids]
theorem ids_at [Inhabited (Fin n)] (p : Nat) (h : p < n) : ((ids n)[p]!).val = p := by
  rw [getElem!_pos _ p (by rw [ids_size]; exact h)]; simp [ids]
/-- What a sort that is right leaves. -/
structure Ord (r : Fin n → Int) (d : Array (Fin n)) : Prop where
  size : d.size = n
  take : ∀ x k, x ∈ d.toList.take k ↔ rank r x < k
  nodup : d.toList.Nodup
theorem ord_of [Inhabited (Fin n)] (r : Fin n → Int) (d : Array (Fin n)) (h : Sym.Done (lex r) (ids n) 0 n d) : Ord r d := by
  obtain ⟨⟨hsz, _, hp⟩, hs⟩ := h
  rw [ids_size] at hsz
  have e1 : (d.extract 0 n).toList = d.toList := by rw [Array.extract_eq_self_of_le (by omega)]
  have e2 : ((ids n).extract 0 n).toList = List.finRange n := by
    rw [Array.extract_eq_self_of_le (by rw [ids_size]; exact Nat.le_refl _)]; simp [ids]
  rw [e1, e2] at hp
  have hs' : ∀ i j (hi : i < d.toList.length) (hj : j < d.toList.length), i < j → lex r d.toList[j] d.toList[i] = false := fun i j hi hj hij => by
    have := hs i j (Nat.zero_le _) hij (by simp at hj; omega)
    rw [getElem!_pos _ j (by simpa using hj), getElem!_pos _ i (by simpa using hi)] at this
    simpa using this
  exact ⟨hsz, rank_take r _ hp hs', hp.symm.nodup (List.nodup_finRange n)⟩
theorem ord_small [Inhabited (Fin n)] (r : Fin n → Int) : Ord r (insertionSort (gt0 r) (ids n) 0 n) := by
  rw [Sym.insertion_same (v := Fin.val) (lt := lex r) 0 n (ids n) (gt_lex r) (by rw [ids_size]; exact Nat.le_refl _) (fun p _ h => ids_at p h)]
  exact ord_of r _ (insertionSort_holds (lex_swo r) (ids n) 0 n (Nat.zero_le _) (by rw [ids_size]; exact Nat.le_refl _))
end Go.Proofs.YtjjhdbodjcffaaaDoor.Rk
