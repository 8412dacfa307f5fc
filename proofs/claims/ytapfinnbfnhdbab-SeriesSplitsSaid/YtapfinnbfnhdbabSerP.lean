/-
  Plain facts on series of steps: what is cut out by a span; what is moved; energies. No program is named here.
-/
import Derived.Test.YtapfinnbfnhdbabSerB
namespace Go.Proofs.Ytapfinnbfnhdbab.Ser
set_option linter.unusedVariables false

theorem put_spec {out : List St} {τ v : Int} (h1 : Asc (-1) out) (h2 : ∀ s ∈ out, s.1 < τ) (h3 : Nrm 0 out) (h0 : 0 ≤ τ) :
    Asc (-1) (putL out τ v) ∧ Nrm 0 (putL out τ v) ∧ (∀ s ∈ putL out τ v, s.1 ≤ τ) ∧ (∀ t', t' < τ → atL (putL out τ v) t' = atL out t') ∧ ∀ t', τ ≤ t' → atL (putL out τ v) t' = v := by
  unfold putL
  by_cases c : v = lastV 0 out
  · rw [if_pos c]
    refine ⟨h1, h3, fun s hs => Int.le_of_lt (h2 s hs), fun _ _ => rfl, fun t' ht' => ?_⟩
    rw [c, lastV_at out t' fun s hs => by have := h2 s hs; omega]
  · rw [if_neg c]
    refine ⟨h1.snoc _ (by show -1 < τ; omega) h2, h3.snoc _ c, fun s hs => ?_, fun t' ht' => ?_, fun t' ht' => ?_⟩
    · rcases List.mem_append.1 hs with h | h
      · exact Int.le_of_lt (h2 s h)
      · rw [List.mem_singleton.1 h]; exact Int.le_refl _
    · rw [atL_snoc, if_neg (by show ¬ τ ≤ t'; omega)]
    · rw [atL_snoc, if_pos ht']

/-- The values in a span. -/
def cutF (l : List St) (f t : Int) (t' : Int) : Int := if f ≤ t' ∧ t' < t then atL l t' else 0
structure Clp (l : List St) (f t : Int) (k : Nat) (out : List St) : Prop where
  asc : Asc (-1) out
  nrm : Nrm 0 out
  lt : ∀ s ∈ out, s.1 < t
  nxt : ∀ j (hj : j < l.length), k ≤ j → f < (l[j]'hj).1 → ∀ s ∈ out, s.1 < (l[j]'hj).1
  at_ : ∀ t', t' < t → (∀ j (hj : j < l.length), k ≤ j → f < (l[j]'hj).1 → t' < (l[j]'hj).1) → atL out t' = cutF l f t t'
  len : out.length ≤ k + 1
theorem Clp.start {l : List St} {f t : Int} (h0 : 0 ≤ f) (h : f < t) : Clp l f t 0 (putL [] f (atL l f)) := by
  obtain ⟨p1, p2, p3, p4, p5⟩ := put_spec (out := []) (τ := f) (v := atL l f) trivial (fun s hs => by cases hs) trivial h0
  refine ⟨p1, p2, fun s hs => by have := p3 s hs; omega, fun j hj _ hf s hs => by have := p3 s hs; omega, fun t' ht' hn => ?_, putL_len _ _ _⟩
  unfold cutF
  by_cases c : f ≤ t'
  · rw [p5 t' c, if_pos ⟨c, ht'⟩]
    exact atL_same f t' l 0 c fun s hs hfs => by
      obtain ⟨i, hi, rfl⟩ := List.mem_iff_getElem.1 hs
      exact hn i hi (Nat.zero_le _) hfs
  · rw [p4 t' (by omega), if_neg (by omega)]; rfl
theorem Clp.skip {l : List St} {f t : Int} {k : Nat} {out : List St} (h : Clp l f t k out) (hk : k < l.length) (hs : ¬ (f < (l[k]'hk).1 ∧ (l[k]'hk).1 < t)) : Clp l f t (k + 1) out := by
  refine ⟨h.asc, h.nrm, h.lt, fun j hj hkj hf s hs => h.nxt j hj (by omega) hf s hs, fun t' ht' hn => h.at_ t' ht' fun j hj hkj hf => ?_, by have := h.len; omega⟩
  by_cases c : j = k
  · subst c; omega
  · exact hn j hj (by omega) hf
theorem Clp.take {l : List St} {f t : Int} {k : Nat} {out : List St} (h : Clp l f t k out) (ha : Asc (-1) l) (h0 : 0 ≤ f) (hk : k < l.length) (h1 : f < (l[k]'hk).1) (h2 : (l[k]'hk).1 < t) : Clp l f t (k + 1) (putL out (l[k]'hk).1 (l[k]'hk).2) := by
  obtain ⟨p1, p2, p3, p4, p5⟩ := put_spec (out := out) (τ := (l[k]'hk).1) (v := (l[k]'hk).2) h.asc (h.nxt k hk (Nat.le_refl _) h1) h.nrm (by omega)
  refine ⟨p1, p2, fun s hs => by have := p3 s hs; omega, fun j hj hkj hf s hs => ?_, fun t' ht' hn => ?_, ?_⟩
  · have := p3 s hs
    have := ha.get k j hk hj (by omega)
    omega
  · by_cases c : t' < (l[k]'hk).1
    · rw [p4 t' c]
      refine h.at_ t' ht' fun j hj hkj hf => ?_
      by_cases e : j = k
      · subst e; exact c
      · exact hn j hj (by omega) hf
    · rw [p5 t' (by omega)]
      unfold cutF
      rw [if_pos ⟨by omega, ht'⟩, atL_of l (-1) t' (k + 1) ha (by omega) (fun j hj e => ?_) (fun hj => ?_), atR_succ l k hk]
      · obtain rfl : j = k := by omega
        omega
      · have := ha.get k (k + 1) hk hj (by omega)
        exact hn (k + 1) hj (Nat.le_refl _) (by omega)
  · have := putL_len out (l[k]'hk).1 (l[k]'hk).2
    have := h.len
    omega
theorem Clp.done {l : List St} {f t : Int} {out : List St} (h : Clp l f t l.length out) (h0 : 0 ≤ t) : Fin (cutF l f t) (putL out t 0) := by
  obtain ⟨p1, p2, p3, p4, p5⟩ := put_spec (out := out) (τ := t) (v := 0) h.asc h.lt h.nrm h0
  refine ⟨p1, p2, fun t' => ?_⟩
  by_cases c : t' < t
  · rw [p4 t' c]; exact h.at_ t' c fun j hj hkj => by omega
  · rw [p5 t' (by omega)]; unfold cutF; rw [if_neg (by omega)]
end Go.Proofs.Ytapfinnbfnhdbab.Ser
