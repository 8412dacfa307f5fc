/-
  Plain facts on series of steps: validity, values at times, normal form. No program is named here.
  How a series of steps lies in memory, and what becomes of it when memory grows.
  What series.Normal returns.
  What Valid returns, in the package series and in its reference.
  What the reference's Valid returns; both for every value that reads as a series.
  What At returns, in the package series and in its reference.
  Plain facts on series of steps: two series as one, the next time of a step, what is put behind. No program is named here.
  What the reference's next returns.
  What the reference's put, combine and Normal return.
  What the reference's combine and Normal return.
  What firstTime, limited and the closures of the package series return, and the reference's limited and Normal.
  What combine of the package series returns.
  What combine of the package series returns, with one of its closures.
  What combine of the package series returns, with one of its closures.
  What combine of the package series returns, with one of its closures.
  What Add and Least return, in the package series and in its reference.
  What the reference's Add, and Least of both, return.
  Plain facts on series of steps: what is cut out by a span; what is moved; energies. No program is named here.
  What checked and Clip of the package series return, and Span of its reference.
  Plain facts on series of steps: what is moved; energies. No program is named here.
  What Clip of the reference returns.
  What Shift returns, in the package series and in its reference.
  What Energy returns, in the package series.
  What Energy returns, in the reference.
  What slices.Equal returns for two series, and what the law's function normal returns.
  The examples of the chapter hold.
-/
import Derived.Test.YtmapkiefmbgdoabDoorRows
import Derived.WalkKit
import Derived.WalkSpells
import Derived.WalkLawsBesides
import Derived.Lib.Hide
import Derived.Below
import Derived.BigQuiet
import Derived.Deep.QuietTactic
import Derived.Laws.AppendOwn
import Derived.Deep.LoopGhost
import Derived.Shelf.Abstract
import Derived.StillTailTactics
import Derived.Deep.RegionHeld3
import Derived.Laws.MakeOwn
import Derived.OwnWalk
import Derived.Deep.AppendLies
import Derived.Laws.BitsLemmas
import Derived.Laws.StructEq
import Derived.Tactics2
namespace Go.Proofs.YtmapkiefmbgdoabDoor.S.Ser
abbrev St := Int × Int
def okS (s : St) : Bool := decide (0 ≤ s.1 ∧ s.1 ≤ 268435456) && decide (-1099511627776 ≤ s.2 ∧ s.2 ≤ 1099511627776)
def vL (prev : Int) : List St → Int
  | [] => 0
  | s :: l => if okS s = false then 2 else if s.1 ≤ prev then 1 else vL s.1 l
def validE (l : List St) : Int := if 512 < l.length then 3 else vL (-1) l
/-- The steps ascend in time, from behind p. -/
def Asc (p : Int) : List St → Prop
  | [] => True
  | s :: l => p < s.1 ∧ Asc s.1 l
theorem Asc.mono {p q : Int} (h : q ≤ p) : ∀ {l : List St}, Asc p l → Asc q l
  | [], _ => trivial
  | _ :: _, ⟨a, b⟩ => ⟨by omega, b⟩
theorem Asc.all {p : Int} : ∀ {l : List St}, Asc p l → ∀ s ∈ l, p < s.1
  | x :: l, ⟨a, b⟩, s, hs => by
    rcases List.mem_cons.1 hs with rfl | h
    · exact a
    · exact Asc.all (b.mono (Int.le_of_lt a)) s h
theorem vL_zero : ∀ (l : List St) (p : Int), vL p l = 0 ↔ ((∀ s ∈ l, okS s = true) ∧ Asc p l)
  | [], p => by simp [vL, Asc]
  | s :: l, p => by
    unfold vL Asc
    cases h : okS s with
    | false => simp [h]
    | true =>
      by_cases h2 : s.1 ≤ p
      · simp only [h2, if_true, Bool.true_eq_false, if_false]
        constructor
        · intro x; cases x
        · rintro ⟨_, x, _⟩; omega
      · simp only [h2, if_false, Bool.true_eq_false]
        rw [vL_zero l s.1]
        simp only [List.mem_cons, forall_eq_or_imp, h, true_and]
        constructor
        · rintro ⟨x, y⟩; exact ⟨x, by omega, y⟩
        · rintro ⟨x, _, y⟩; exact ⟨x, y⟩
theorem vL_cases (l : List St) (p : Int) : vL p l = 0 ∨ vL p l = 1 ∨ vL p l = 2 := by
  induction l generalizing p with
  | nil => exact .inl rfl
  | cons s l ih => unfold vL; split; exact .inr (.inr rfl); split; exact .inr (.inl rfl); exact ih _
/-- A valid series. -/
structure Ok (l : List St) : Prop where
  len : l.length ≤ 512
  all : ∀ s ∈ l, okS s = true
  asc : Asc (-1) l
theorem ok_iff (l : List St) : validE l = 0 ↔ Ok l := by
  unfold validE
  by_cases h : 512 < l.length
  · rw [if_pos h]; exact ⟨fun x => absurd x (by decide), fun x => by have := x.len; omega⟩
  · rw [if_neg h, vL_zero]; exact ⟨fun x => ⟨by omega, x.1, x.2⟩, fun x => ⟨x.all, x.asc⟩⟩
theorem okS_iff (s : St) : okS s = true ↔ (0 ≤ s.1 ∧ s.1 ≤ 268435456) ∧ (-1099511627776 ≤ s.2 ∧ s.2 ≤ 1099511627776) := by
  unfold okS; simp

/-- The time before place k. -/
def pv (l : List St) : Nat → Int
  | 0 => -1
  | k + 1 => (l.getD k (0, 0)).1
theorem pv_succ (l : List St) (k : Nat) (h : k < l.length) : pv l (k + 1) = l[k].1 := by
  unfold pv; simp [h]
theorem vL_step (l : List St) (k : Nat) (h : k < l.length) : vL (pv l k) (l.drop k) = if okS l[k] = false then 2 else if l[k].1 ≤ pv l k then 1 else vL (pv l (k + 1)) (l.drop (k + 1)) := by
  rw [List.drop_eq_getElem_cons h, pv_succ l k h]; rfl
def tB (t : Int) : Bool := decide (0 ≤ t ∧ t ≤ 268435456)
def vB (v : Int) : Bool := decide (-1099511627776 ≤ v ∧ v ≤ 1099511627776)
theorem okS_of (s : St) : okS s = (tB s.1 && vB s.2) := rfl

/-! The value at a time. -/
def atFrom (v : Int) (t : Int) : List St → Int
  | [] => v
  | s :: l => atFrom (if s.1 ≤ t then s.2 else v) t l
def atL (l : List St) (t : Int) : Int := atFrom 0 t l
theorem atFrom_snoc (t : Int) : ∀ (l : List St) (v : Int) (s : St), atFrom v t (l ++ [s]) = if s.1 ≤ t then s.2 else atFrom v t l
  | [], v, s => rfl
  | x :: l, v, s => by rw [List.cons_append]; unfold atFrom; exact atFrom_snoc t l _ s
theorem atL_snoc (l : List St) (s : St) (t : Int) : atL (l ++ [s]) t = if s.1 ≤ t then s.2 else atL l t := atFrom_snoc t l 0 s
theorem atFrom_none (t : Int) : ∀ (l : List St) (v : Int), (∀ s ∈ l, t < s.1) → atFrom v t l = v
  | [], v, _ => rfl
  | x :: l, v, h => by
    unfold atFrom
    rw [if_neg (by have := h x List.mem_cons_self; omega)]
    exact atFrom_none t l v fun s hs => h s (List.mem_cons_of_mem _ hs)
theorem atFrom_append (t : Int) : ∀ (l m : List St) (v : Int), atFrom v t (l ++ m) = atFrom (atFrom v t l) t m
  | [], m, v => rfl
  | x :: l, m, v => by rw [List.cons_append]; show atFrom _ t (l ++ m) = atFrom (atFrom _ t l) t m; exact atFrom_append t l m _
/-- By a cut between what is at or before the time and what is behind it. -/
theorem atL_cut (l : List St) (t : Int) (k : Nat) (h2 : ∀ s ∈ l.drop k, t < s.1) : atL l t = atL (l.take k) t := by
  conv => lhs; rw [← List.take_append_drop k l]
  unfold atL
  rw [atFrom_append, atFrom_none _ _ _ h2]
theorem atL_same (t t' : Int) : ∀ (l : List St) (v : Int), t ≤ t' → (∀ s ∈ l, t < s.1 → t' < s.1) → atFrom v t l = atFrom v t' l
  | [], _, _, _ => rfl
  | x :: l, v, ht, h => by
    unfold atFrom
    have hx := h x List.mem_cons_self
    by_cases c : x.1 ≤ t
    · rw [if_pos c, if_pos (by omega)]; exact atL_same t t' l _ ht fun s hs => h s (List.mem_cons_of_mem _ hs)
    · rw [if_neg c, if_neg (by have := hx (by omega); omega)]; exact atL_same t t' l _ ht fun s hs => h s (List.mem_cons_of_mem _ hs)
theorem atL_bd (l : List St) (t : Int) (h : ∀ s ∈ l, okS s = true) : -1099511627776 ≤ atL l t ∧ atL l t ≤ 1099511627776 := by
  have : ∀ (l : List St) (v : Int), (∀ s ∈ l, okS s = true) → -1099511627776 ≤ v → v ≤ 1099511627776 → -1099511627776 ≤ atFrom v t l ∧ atFrom v t l ≤ 1099511627776 := by
    intro l
    induction l with
    | nil => intro v _ a b; exact ⟨a, b⟩
    | cons x l ih =>
      intro v h a b
      unfold atFrom
      have hx := (okS_iff x).1 (h x List.mem_cons_self)
      by_cases c : x.1 ≤ t
      · rw [if_pos c]; exact ih _ (fun s hs => h s (List.mem_cons_of_mem _ hs)) hx.2.1 hx.2.2
      · rw [if_neg c]; exact ih _ (fun s hs => h s (List.mem_cons_of_mem _ hs)) a b
  exact this l 0 h (by decide) (by decide)

theorem Asc.get {p : Int} : ∀ {l : List St}, Asc p l → ∀ i j (hi : i < l.length) (hj : j < l.length), i < j → (l[i]).1 < (l[j]).1
  | x :: l, ⟨a, b⟩, 0, j + 1, _, hj, _ => b.all _ (List.getElem_mem _)
  | x :: l, ⟨a, b⟩, i + 1, j + 1, hi, hj, h => Asc.get b i j (by simpa using hi) (by simpa using hj) (by omega)
/-- The value by the place where the later steps begin. -/
def atR (l : List St) : Nat → Int
  | 0 => 0
  | k + 1 => (l.getD k (0, 0)).2
theorem atR_succ (l : List St) (k : Nat) (h : k < l.length) : atR l (k + 1) = l[k].2 := by unfold atR; simp [h]
theorem atL_of (l : List St) (p t : Int) (r : Nat) (ha : Asc p l) (hr : r ≤ l.length) (h1 : ∀ k (hk : k < l.length), k + 1 = r → (l[k]).1 ≤ t) (h2 : ∀ (hk : r < l.length), t < (l[r]).1) : atL l t = atR l r := by
  rw [atL_cut l t r]
  · match r, hr, h1 with
    | 0, _, _ => rfl
    | k + 1, hr, h1 =>
      have hk : k < l.length := by omega
      rw [List.take_succ_eq_append_getElem hk, atL_snoc, if_pos (h1 k hk rfl), atR_succ l k hk]
  · intro s hs
    obtain ⟨i, hi, rfl⟩ := List.mem_iff_getElem.1 hs
    rw [List.getElem_drop]
    have hlen : r + i < l.length := by rw [List.length_drop] at hi; omega
    have hr' : r < l.length := by omega
    by_cases e : i = 0
    · subst e; exact h2 hr'
    · have := ha.get r (r + i) hr' hlen (by omega)
      have := h2 hr'
      omega

/-! Without steps that change nothing. -/
def nL (was : Int) : List St → List St
  | [] => []
  | s :: l => if s.2 = was then nL was l else s :: nL s.2 l
def lastV (was : Int) : List St → Int
  | [] => was
  | s :: l => lastV s.2 l
theorem lastV_snoc : ∀ (l : List St) (w : Int) (s : St), lastV w (l ++ [s]) = s.2
  | [], _, _ => rfl
  | _ :: l, _, s => lastV_snoc l _ s
theorem nL_snoc : ∀ (l : List St) (w : Int) (s : St), nL w (l ++ [s]) = if s.2 = lastV w l then nL w l else nL w l ++ [s]
  | [], w, s => by
    show nL w [s] = if s.2 = w then [] else [s]
    unfold nL; split <;> rfl
  | x :: l, w, s => by
    rw [List.cons_append]
    unfold nL lastV
    by_cases c : x.2 = w
    · rw [if_pos c, if_pos c, nL_snoc l w s, c]
    · rw [if_neg c, if_neg c, nL_snoc l x.2 s]
      split <;> rfl
theorem lastV_nL : ∀ (l : List St) (w : Int), lastV w (nL w l) = lastV w l
  | [], _ => rfl
  | x :: l, w => by
    unfold nL
    by_cases c : x.2 = w
    · rw [if_pos c, lastV_nL l w]; show _ = lastV x.2 l; rw [c]
    · rw [if_neg c]; exact lastV_nL l x.2
theorem nL_len : ∀ (l : List St) (w : Int), (nL w l).length ≤ l.length
  | [], _ => Nat.le_refl _
  | x :: l, w => by
    unfold nL
    have := nL_len l w
    have := nL_len l x.2
    split <;> (simp only [List.length_cons]; omega)
theorem nL_sub : ∀ (l : List St) (w : Int), ∀ s ∈ nL w l, s ∈ l
  | x :: l, w, s, hs => by
    unfold nL at hs
    split at hs
    · exact List.mem_cons_of_mem _ (nL_sub l w s hs)
    · rcases List.mem_cons.1 hs with rfl | h
      · exact List.mem_cons_self
      · exact List.mem_cons_of_mem _ (nL_sub l _ s h)
theorem nL_asc : ∀ (l : List St) (w p : Int), Asc p l → Asc p (nL w l)
  | [], _, _, _ => trivial
  | x :: l, w, p, ⟨a, b⟩ => by
    unfold nL
    split
    · exact nL_asc l w p (b.mono (by omega))
    · exact ⟨a, nL_asc l _ _ b⟩
/-- Each step changes something. -/
def Nrm (w : Int) : List St → Prop
  | [] => True
  | s :: l => s.2 ≠ w ∧ Nrm s.2 l
theorem nL_nrm : ∀ (l : List St) (w : Int), Nrm w (nL w l)
  | [], _ => trivial
  | x :: l, w => by
    unfold nL
    split
    · exact nL_nrm l w
    · exact ⟨‹_›, nL_nrm l _⟩
theorem nL_at (t : Int) : ∀ (l : List St) (w p : Int), Asc p l → atFrom w t (nL w l) = atFrom w t l
  | [], _, _, _ => rfl
  | x :: l, w, p, ⟨a, b⟩ => by
    unfold nL
    by_cases c : x.2 = w
    · rw [if_pos c]
      rw [nL_at t l w _ b]
      show _ = atFrom (if x.1 ≤ t then x.2 else w) t l
      rw [c, ite_self]
    · rw [if_neg c]
      show atFrom (if x.1 ≤ t then x.2 else w) t (nL x.2 l) = atFrom (if x.1 ≤ t then x.2 else w) t l
      by_cases e : x.1 ≤ t
      · rw [if_pos e]; exact nL_at t l x.2 _ b
      · rw [if_neg e, atFrom_none, atFrom_none]
        · intro s hs; have := b.all s hs; omega
        · intro s hs; have := b.all s (nL_sub l _ s hs); omega
/-- A normal series is told by its values. -/
theorem nrm_unique : ∀ (l m : List St) (w p : Int), Asc p l → Asc p m → Nrm w l → Nrm w m → (∀ t, atFrom w t l = atFrom w t m) → l = m
  | [], [], _, _, _, _, _, _, _ => rfl
  | [], y :: m, w, p, _, ⟨a, b⟩, _, ⟨c, _⟩, h => by
    have := h y.1
    unfold atFrom at this
    rw [if_pos (Int.le_refl _), atFrom_none _ _ _ b.all] at this
    exact absurd this.symm c
  | x :: l, [], w, p, ⟨a, b⟩, _, ⟨c, _⟩, _, h => by
    have := h x.1
    unfold atFrom at this
    rw [if_pos (Int.le_refl _), atFrom_none _ _ _ b.all] at this
    exact absurd this c
  | x :: l, y :: m, w, p, ⟨a, b⟩, ⟨a', b'⟩, ⟨c, d⟩, ⟨c', d'⟩, h => by
    have hxy : x.1 = y.1 := by
      have h1 := h x.1
      have h2 := h y.1
      unfold atFrom at h1 h2
      rw [if_pos (Int.le_refl _), atFrom_none _ _ _ b.all] at h1
      rw [if_pos (Int.le_refl _), atFrom_none _ _ _ b'.all] at h2
      by_cases e1 : x.1 < y.1
      · rw [if_neg (by omega), atFrom_none _ m _ (fun s hs => by have := b'.all s hs; omega)] at h1
        exact absurd h1 c
      · by_cases e2 : y.1 < x.1
        · rw [if_neg (by omega), atFrom_none _ l _ (fun s hs => by have := b.all s hs; omega)] at h2
          exact absurd h2.symm c'
        · omega
    have hv : x.2 = y.2 := by
      have h1 := h x.1
      unfold atFrom at h1
      rw [if_pos (Int.le_refl _), atFrom_none _ _ _ b.all, if_pos (by omega), atFrom_none _ m _ (fun s hs => by have := b'.all s hs; omega)] at h1
      exact h1
    have hx : x = y := Prod.ext hxy hv
    subst hx
    congr 1
    refine nrm_unique l m x.2 x.1 b b' d d' fun t => ?_
    by_cases e : x.1 ≤ t
    · have := h t
      unfold atFrom at this
      rw [if_pos e] at this
      exact this
    · rw [atFrom_none, atFrom_none]
      · intro s hs; have := b'.all s hs; omega
      · intro s hs; have := b.all s hs; omega
end Go.Proofs.YtmapkiefmbgdoabDoor.S.Ser
namespace Go.Proofs.YtmapkiefmbgdoabDoor.S
open Go.RowKit
open Ser
set_option linter.unusedVariables false

theorem ret_int {k : IntKind} {a b : Int} (h : a = b) : Ending.returned (.int k a) = .returned (.int k b) := by rw [h]
theorem ret_bool {a b : Bool} (h : a = b) : Ending.returned (.bool a) = .returned (.bool b) := by rw [h]
theorem bcell {W w1 : World} (hb : Below W.heap.size W w1) : (∀ b o, b < W.heap.size → w1.cell? ⟨b, o, none⟩ = W.cell? ⟨b, o, none⟩) ∧ (∀ b o, b < W.heap.size → w1.frozen? ⟨b, o, none⟩ = W.frozen? ⟨b, o, none⟩) :=
  ⟨fun b o h => hb.cell (p := ⟨b, o, none⟩) h, fun b o h => hb.frozen (p := ⟨b, o, none⟩) h⟩
theorem b2 {W w1 w2 : World} (h1 : Below W.heap.size W w1) (h2 : Below w1.heap.size w1 w2) : Below W.heap.size W w2 := h1.trans (h2.mono h1.size)
theorem b_new (W : World) (o : Obj) : Below W.heap.size W (W.alloc o) := (Below.refl _ _).alloc (Nat.le_refl _) _

theorem dNb {B : Nat} {a w : World} (h : Below B a w) (n : Nat) : Below B a (w.drewN n) := ⟨h.os, h.tape, h.output, h.size, h.block⟩

/-- The cells of a list of steps. -/
def stV (l : List St) : List Value := l.flatMap fun s => [.int .i64 s.1, .int .i64 s.2]
theorem stV_len : ∀ l : List St, (stV l).length = l.length * 2
  | [] => rfl
  | s :: l => by show ([_, _] ++ stV l).length = _; rw [List.length_append, stV_len l]; simp; omega
theorem stV_snoc (l : List St) (s : St) : stV (l ++ [s]) = stV l ++ [.int .i64 s.1, .int .i64 s.2] := by
  unfold stV; rw [List.flatMap_append]; rfl
theorem stV_at : ∀ (l : List St) (i : Nat) (h : i < l.length), (stV l)[i * 2]? = some (.int .i64 (l[i]'h).1) ∧ (stV l)[i * 2 + 1]? = some (.int .i64 (l[i]'h).2)
  | s :: l, 0, _ => ⟨rfl, rfl⟩
  | s :: l, i + 1, h => by
    have := stV_at l i (by simpa using h)
    have e : stV (s :: l) = [.int .i64 s.1, .int .i64 s.2] ++ stV l := rfl
    rw [e, List.getElem?_append_right (by simp; omega), List.getElem?_append_right (by simp; omega)]
    have e1 : (i + 1) * 2 - ([Value.int .i64 s.1, .int .i64 s.2] : List Value).length = i * 2 := by simp; omega
    have e2 : (i + 1) * 2 + 1 - ([Value.int .i64 s.1, .int .i64 s.2] : List Value).length = i * 2 + 1 := by simp; omega
    rw [e1, e2]
    exact this

/-- The cells of a place read as a list of steps. -/
def At (w : World) (b o : Nat) (l : List St) : Prop :=
  b < w.heap.size ∧ ∀ i (h : i < l.length), w.cell? ⟨b, o + i * 2, none⟩ = some (.int .i64 (l[i]'h).1) ∧ w.cell? ⟨b, o + i * 2 + 1, none⟩ = some (.int .i64 (l[i]'h).2)
/-- A value reads as a list of steps. -/
def Rd (w : World) (v : Value) (l : List St) : Prop :=
  ∃ (p : Option Addr) (c : Nat), v = .slice p l.length c ∧ l.length ≤ c ∧ c ≤ maxLen ∧ (l ≠ [] → ∃ b o, p = some ⟨b, o, none⟩ ∧ At w b o l)
theorem At.below {w w' : World} {b o : Nat} {l : List St} (h : At w b o l) (hb : Below w.heap.size w w') : At w' b o l :=
  ⟨Nat.lt_of_lt_of_le h.1 hb.size, fun i hi => by rw [(bcell hb).1 _ _ h.1, (bcell hb).1 _ _ h.1]; exact h.2 i hi⟩
theorem Rd.below {w w' : World} {v : Value} {l : List St} (h : Rd w v l) (hb : Below w.heap.size w w') : Rd w' v l := by
  obtain ⟨p, c, h1, h2, h3, h4⟩ := h
  exact ⟨p, c, h1, h2, h3, fun hl => by obtain ⟨b, o, e, ha⟩ := h4 hl; exact ⟨b, o, e, ha.below hb⟩⟩
theorem Rd.nil (w : World) : Rd w (.slice none 0 0) [] := ⟨none, 0, rfl, Nat.le_refl _, Nat.zero_le _, fun h => absurd rfl h⟩
theorem Rd.own {w : World} {B : Nat} {v : Value} {l : List St} (h : w.ownsRow B 58 2 v l.length (stV l)) : Rd w v l := by
  rcases h.2 with ⟨rfl, h0⟩ | ⟨g, cap, cur, rfl, hb, hg, hn, hm, hs, hx⟩
  · have : l = [] := List.length_eq_zero_iff.1 h0
    subst this
    exact Rd.nil w
  · refine ⟨_, _, rfl, hn, hm, fun _ => ⟨g, 0, rfl, (Array.getElem?_eq_some_iff.1 hg).1, fun i hi => ?_⟩⟩
    have hc := h.cells (g := g) rfl
    obtain ⟨e1, e2⟩ := stV_at l i hi
    have c1 := hc _ _ e1
    have c2 := hc _ _ e2
    rw [Addr.add_lit] at c1 c2
    exact ⟨c1, c2⟩
theorem info_step : (Tryd.prog.info? 58).map (fun i => (i.zero, i.size, i.bytes)) = some (some (.agg #[.int .i64 0, .int .i64 0]), 2, 16) := by kernel_rfl
theorem take_snoc (l : List St) (k : Nat) (h : k < l.length) : l.take (k + 1) = l.take k ++ [l[k]] := by
  rw [List.take_succ_eq_append_getElem h]
theorem At.get {w wr : World} {b o : Nat} {l : List St} (h : At w b o l) (hb : Below w.heap.size w wr) (k : Nat) (hk : k < l.length) :
    wr.cell? ⟨b, o + k * 2, none⟩ = some (.int .i64 (l[k]'hk).1) ∧ wr.cell? ⟨b, o + k * 2 + 1, none⟩ = some (.int .i64 (l[k]'hk).2) := (h.below hb).2 k hk
theorem news_at (W : World) (x y : Int) (T : TypeId) (b : Nat) (h : b = W.heap.size) : ∀ (j : Nat) (u : Value), ([.int .i64 x, .int .i64 y] : List Value)[j]? = some u → (W.alloc (.cells #[.int .i64 x, .int .i64 y] T)).cell? ((⟨b, 0, none⟩ : Addr).add j) = some u := by
  intro j u hj
  subst h
  rw [Addr.add_lit, World.cell?_alloc_at _ _ _ _ rfl]
  match j, hj with
  | 0, hj => simpa using hj
  | 1, hj => simpa using hj
theorem news_one (x y : Int) : ∀ u ∈ ([.int .i64 x, .int .i64 y] : List Value), u.oneCell' = true := by
  intro u hu; simp at hu; rcases hu with rfl | rfl <;> rfl
/-- A box of two, behind what was appended beside it. -/
theorem box_app {wr w1 : World} {B n : Nat} {T : TypeId} {v : Value} {xs : List Value} {x y : Value} {o' : Obj} (hown : wr.ownsRow B 58 2 v n xs)
    (hg : ((wr.alloc (.cells #[x, y] T)).alloc o').grownBy w1 v.ownBlock) : w1.cell? ⟨wr.heap.size, 0, none⟩ = some x ∧ w1.cell? ⟨wr.heap.size, 1, none⟩ = some y := by
  have hne : some wr.heap.size ≠ v.ownBlock := fun h => by have := (hown.lt _ h.symm).2; omega
  refine ⟨hg.cell ?_ hne, hg.cell ?_ hne⟩
  · rw [World.cell?_alloc_past _ _ _ (by simp), World.cell?_alloc_at _ _ _ _ rfl]; rfl
  · rw [World.cell?_alloc_past _ _ _ (by simp), World.cell?_alloc_at _ _ _ _ rfl]; rfl
/-- What is appended to a list of steps that one owns. -/
theorem own_app {w wr w1 : World} {B : Nat} {v v' : Value} {l : List St} {x y : Int} {o o' : Obj} (hB : B ≤ w.heap.size) (hown : wr.ownsRow B 58 2 v l.length (stV l)) (hb : Below B w wr)
    (h' : w1.ownsRow B 58 2 v' (l.length + 1) (stV l ++ [.int .i64 x, .int .i64 y])) (hg : ((wr.alloc o).alloc o').grownBy w1 v.ownBlock) :
    w1.ownsRow B 58 2 v' (l ++ [(x, y)]).length (stV (l ++ [(x, y)])) ∧ Below B w w1 := by
  refine ⟨by rw [stV_snoc, List.length_append]; exact h', ?_⟩
  have h1 := hb.alloc (by have := hb.size; omega) o
  have h2 := h1.alloc (by have := h1.size; omega) o'
  exact h2.grown hg (by have := hb.size; simp; omega) (fun j hj => by have := (hown.lt j hj).1; omega)
theorem own_app1 {w wr w1 : World} {B : Nat} {v v' : Value} {l : List St} {x y : Int} {o : Obj} (hB : B ≤ w.heap.size) (hown : wr.ownsRow B 58 2 v l.length (stV l)) (hb : Below B w wr)
    (h' : w1.ownsRow B 58 2 v' (l.length + 1) (stV l ++ [.int .i64 x, .int .i64 y])) (hg : (wr.alloc o).grownBy w1 v.ownBlock) :
    w1.ownsRow B 58 2 v' (l ++ [(x, y)]).length (stV (l ++ [(x, y)])) ∧ Below B w w1 := by
  refine ⟨by rw [stV_snoc, List.length_append]; exact h', ?_⟩
  have h1 := hb.alloc (by have := hb.size; omega) o
  exact h1.grown hg (by have := hb.size; simp; omega) (fun j hj => by have := (hown.lt j hj).1; omega)
end Go.Proofs.YtmapkiefmbgdoabDoor.S
namespace Go.Proofs.YtmapkiefmbgdoabDoor.S
open Go.RowKit
open Ser
end Go.Proofs.YtmapkiefmbgdoabDoor.S
namespace Go.Proofs.YtmapkiefmbgdoabDoor.S
open Go.RowKit
open Ser
set_option linter.unusedVariables false

set_option maxHeartbeats 400000 in
theorem isTime_any (t : Int) (w : World) : Calls Tryd.prog 21 #[.int .i64 t] w fun e w' => e = .returned (.bool (tB t)) ∧ w = w' := by
  by_cases h1 : 0 ≤ t
  · have hv : tB t = decide (t ≤ 268435456) := by unfold tB; simp [h1]
    have Hv := Lib.hid hv; clear hv
    go_enter Tryd.func21, Tryd.ntmps21
    go_wp2
    go_ret
    exact ⟨ret_bool Hv.out.symm, rfl⟩
  · have hv : tB t = false := by unfold tB; simp [h1]
    have Hv := Lib.hid hv; clear hv
    go_enter Tryd.func21, Tryd.ntmps21
    go_wp2
    go_ret
    exact ⟨ret_bool Hv.out.symm, rfl⟩
set_option maxHeartbeats 400000 in
theorem isValue_any (t : Int) (w : World) : Calls Tryd.prog 22 #[.int .i64 t] w fun e w' => e = .returned (.bool (vB t)) ∧ w = w' := by
  by_cases h1 : -1099511627776 ≤ t
  · have hv : vB t = decide (t ≤ 1099511627776) := by unfold vB; simp [h1]
    have Hv := Lib.hid hv; clear hv
    go_enter Tryd.func22, Tryd.ntmps22
    go_wp2
    go_ret
    exact ⟨ret_bool Hv.out.symm, rfl⟩
  · have hv : vB t = false := by unfold vB; simp [h1]
    have Hv := Lib.hid hv; clear hv
    go_enter Tryd.func22, Tryd.ntmps22
    go_wp2
    go_ret
    exact ⟨ret_bool Hv.out.symm, rfl⟩
theorem isTime_b (t : Int) (x : Bool) (w : World) (h : tB t = x) : Calls Tryd.prog 21 #[.int .i64 t] w fun e w' => e = .returned (.bool x) ∧ w = w' := h ▸ isTime_any t w
theorem isValue_b (t : Int) (x : Bool) (w : World) (h : vB t = x) : Calls Tryd.prog 22 #[.int .i64 t] w fun e w' => e = .returned (.bool x) ∧ w = w' := h ▸ isValue_any t w

set_option maxHeartbeats 4000000 in
set_option maxRecDepth 1000000 in
theorem valid_some (b o c : Nat) (l : List St) (w : World) (hl : l.length ≤ 2000000) (hR : At w b o l) :
    Calls Tryd.prog 7 #[.slice (some ⟨b, o, none⟩) l.length c] w fun e w' => e = .returned (.int .i64 (validE l)) ∧ Below w.heap.size w w' := by
  by_cases h5 : 512 < l.length
  · have hv : validE l = 3 := if_pos h5
    have Hv := Lib.hid hv; clear hv
    go_enter Tryd.func7, Tryd.ntmps7
    go_wp2
    go_ret
    exact ⟨ret_int Hv.out.symm, Below.refl _ _⟩
  · have hv : validE l = vL (-1) l := if_neg h5
    have Hv := Lib.hid hv; clear hv
    have HR := Lib.hid hR
    clear hR
    go_enter Tryd.func7, Tryd.ntmps7
    go_wp2
    go_loopw [10] (fun i wr => ∃ k : Nat, k ≤ l.length ∧ i = .int .i64 k ∧ Hid (vL (pv l k) (l.drop k) = vL (-1) l) ∧ Below w.heap.size w wr) (fun i _ => l.length - (intOf i).toNat)
    case atStart => exact ⟨0, Nat.zero_le _, rfl, Lib.hid rfl, Below.refl _ _⟩
    case round =>
      obtain ⟨k, hk, rfl, HI, hb⟩ := hrel
      by_cases hlt : k < l.length
      · obtain ⟨h1, h2⟩ := HR.out.get hb k hlt
        have hs := vL_step l k hlt
        rw [HI.out, okS_of] at hs
        obtain ⟨x1, e1⟩ : ∃ x, x = l[k].1 := ⟨_, rfl⟩
        obtain ⟨x2, e2⟩ : ∃ x, x = l[k].2 := ⟨_, rfl⟩
        rw [← e1, ← e2] at hs
        rw [← e1] at h1
        rw [← e2] at h2
        have E1 := Lib.hid e1
        have hb1 := hb.alloc (by have := hb.size; omega) (.cells #[.int .i64 x1, .int .i64 x2] 58)
        clear e1 e2
        cases ht : tB x1 with
        | false =>
          rw [ht] at hs
          have HS := Lib.hid hs
          have T1 := Lib.hid (fun W => isTime_b x1 false W ht)
          clear hs ht
          go_wp2_with fail
          refine (T1.out _).mono ?_
          rintro e w1 ⟨rfl, rfl⟩
          go_wp2_with fail
          go_ret
          exact ⟨ret_int (by rw [Hv.out, HS.out]; rfl), hb1⟩
        | true =>
          rw [ht] at hs
          have T1 := Lib.hid (fun W => isTime_b x1 true W ht)
          have ht2 : 0 ≤ x1 := by unfold tB at ht; simp at ht; exact ht.1
          clear ht
          cases hv : vB x2 with
          | false =>
            rw [hv] at hs
            have HS := Lib.hid hs
            have T2 := Lib.hid (fun W => isValue_b x2 false W hv)
            clear hs hv
            go_wp2_with fail
            refine (T1.out _).mono ?_
            rintro e w1 ⟨rfl, rfl⟩
            go_wp2_with fail
            refine (T2.out _).mono ?_
            rintro e w1 ⟨rfl, rfl⟩
            go_wp2_with fail
            go_ret
            exact ⟨ret_int (by rw [Hv.out, HS.out]; rfl), hb1⟩
          | true =>
            rw [hv] at hs
            have T2 := Lib.hid (fun W => isValue_b x2 true W hv)
            clear hv
            by_cases h0 : 0 < k
            · obtain ⟨j, rfl⟩ : ∃ j, k = j + 1 := ⟨k - 1, by omega⟩
              obtain ⟨g1, _⟩ := HR.out.get hb1 j (by omega)
              have hp := pv_succ l j (by omega)
              obtain ⟨x0, e0⟩ : ∃ x, x = l[j].1 := ⟨_, rfl⟩
              rw [← e0] at g1 hp
              rw [hp] at hs
              have hw1 : IntKind.i64.wrap (((j + 1 : Nat) : Int) - 1) = (j : Int) := by rw [IntKind.wrap_i64]; omega
              by_cases hle : x1 ≤ x0
              · have hs' : vL (-1) l = 1 := by simp [hle] at hs; exact hs
                have HS := Lib.hid hs'
                clear hs hs' hp e0
                go_wp2_with fail
                refine (T1.out _).mono ?_
                rintro e w1 ⟨rfl, rfl⟩
                go_wp2_with fail
                refine (T2.out _).mono ?_
                rintro e w1 ⟨rfl, rfl⟩
                go_wp2_with fail
                go_quiet (fail)
                go_wp2_with fail
                go_ret
                exact ⟨ret_int (by rw [Hv.out, HS.out]), (dNb hb1 _)⟩
              · have hs' : vL (-1) l = vL (pv l (j + 1 + 1)) (l.drop (j + 1 + 1)) := by simpa [hle] using hs
                have HS := Lib.hid hs'
                have hgt : x0 < x1 := by omega
                clear hs hs' hp e0 hle
                go_wp2_with fail
                refine (T1.out _).mono ?_
                rintro e w1 ⟨rfl, rfl⟩
                go_wp2_with fail
                refine (T2.out _).mono ?_
                rintro e w1 ⟨rfl, rfl⟩
                go_wp2_with fail
                go_quiet (fail)
                go_wp2_with fail
                go_roundw
                case rel => exact ⟨j + 1 + 1, by omega, by go_num, HS.out.symm, (dNb hb1 _)⟩
                case measure => simp [intOf]; omega
            · obtain rfl : k = 0 := by omega
              simp only [Nat.zero_mul, Nat.add_zero] at h1 h2
              have hs' : vL (-1) l = vL (pv l 1) (l.drop 1) := by
                have : ¬ x1 ≤ pv l 0 := by show ¬ x1 ≤ -1; omega
                simpa [this] using hs
              have HS := Lib.hid hs'
              clear hs hs'
              go_wp2_with fail
              refine (T1.out _).mono ?_
              rintro e w1 ⟨rfl, rfl⟩
              go_wp2_with fail
              refine (T2.out _).mono ?_
              rintro e w1 ⟨rfl, rfl⟩
              go_wp2_with fail
              go_quiet (fail)
              go_wp2_with fail
              go_roundw
              case rel => exact ⟨1, by omega, by go_num, HS.out.symm, (dNb hb1 _)⟩
              case measure => simp [intOf]; omega
      · go_wp2
        go_ret
        refine ⟨ret_int ?_, hb⟩
        rw [Hv.out, ← HI.out, List.drop_eq_nil_of_le (by omega)]; rfl
end Go.Proofs.YtmapkiefmbgdoabDoor.S
namespace Go.Proofs.YtmapkiefmbgdoabDoor.S
open Go.RowKit
open Ser
set_option linter.unusedVariables false

theorem tB_low {x : Int} (h : x < 0) : tB x = false := by unfold tB; simp; omega
theorem tB_high {x : Int} (h : 268435456 < x) : tB x = false := by unfold tB; simp; omega
theorem tB_in {x : Int} (h : 0 ≤ x) (h' : x ≤ 268435456) : tB x = true := by unfold tB; simp; omega
theorem vB_low {x : Int} (h : x < -1099511627776) : vB x = false := by unfold vB; simp; omega
theorem vB_high {x : Int} (h : 1099511627776 < x) : vB x = false := by unfold vB; simp; omega
theorem vB_in {x : Int} (h : -1099511627776 ≤ x) (h' : x ≤ 1099511627776) : vB x = true := by unfold vB; simp; omega

set_option maxHeartbeats 400000 in
theorem valid_nil (p : Option Addr) (c : Nat) (w : World) : Calls Tryd.prog 7 #[.slice p 0 c] w fun e w' => e = .returned (.int .i64 (validE [])) ∧ Below w.heap.size w w' := by
  have Hv := Lib.hid (show validE [] = 0 from rfl)
  go_enter Tryd.func7, Tryd.ntmps7
  go_wp2
  refine wp_loop_rounds 1 ?_
  rw [rounds_succ]
  go_wp2
  go_ret
  exact ⟨ret_int Hv.out.symm, Below.refl _ _⟩
theorem valid_any (v : Value) (l : List St) (w : World) (hl : l.length ≤ 2000000) (hR : Rd w v l) : Calls Tryd.prog 7 #[v] w fun e w' => e = .returned (.int .i64 (validE l)) ∧ Below w.heap.size w w' := by
  obtain ⟨p, c, rfl, h2, h3, h4⟩ := hR
  by_cases e : l = []
  · subst e; exact valid_nil p c w
  · obtain ⟨b, o, rfl, ha⟩ := h4 e; exact valid_some b o c l w hl ha
/-- What a call returns that makes a series. -/
def GivesL (w : World) (l : List St) (e : Ending) (w' : World) : Prop := ∃ v, e = .returned v ∧ Rd w' v l ∧ Below w.heap.size w w'
end Go.Proofs.YtmapkiefmbgdoabDoor.S
namespace Go.Proofs.YtmapkiefmbgdoabDoor.S
open Go.RowKit
open Ser
set_option linter.unusedVariables false

/-- Does the step at a place lie behind a time. -/
def lateB (l : List St) (t : Int) (i : Nat) : Bool := decide (t < (l.getD i (0, 0)).1)

/-- What At returns: for a series that ascends, its value. -/
def GivesAt (w : World) (l : List St) (t : Int) (e : Ending) (w' : World) : Prop := ∃ x, e = .returned (.int .i64 x) ∧ (Asc (-1) l → x = atL l t) ∧ Below w.heap.size w w'

theorem atL_take (l : List St) (k : Nat) (t : Int) (h : k < l.length) : atL (l.take (k + 1)) t = if l[k].1 ≤ t then l[k].2 else atL (l.take k) t := by
  rw [take_snoc l k h, atL_snoc]
end Go.Proofs.YtmapkiefmbgdoabDoor.S
namespace Go.Proofs.YtmapkiefmbgdoabDoor.S.Ser
set_option linter.unusedVariables false

/-- Two lists of steps as one, with the values of a function of both. -/
def mergeV (f : Int → Int → Int) (x y : Int) : List St → List St → List St
  | [], [] => []
  | s :: a, [] => (s.1, f s.2 y) :: mergeV f s.2 y a []
  | [], u :: b => (u.1, f x u.2) :: mergeV f x u.2 [] b
  | s :: a, u :: b =>
    if s.1 < u.1 then (s.1, f s.2 y) :: mergeV f s.2 y a (u :: b)
    else if u.1 < s.1 then (u.1, f x u.2) :: mergeV f x u.2 (s :: a) b
    else (s.1, f s.2 u.2) :: mergeV f s.2 u.2 a b
termination_by a b => a.length + b.length
theorem mergeV_nil (f : Int → Int → Int) (x y : Int) : mergeV f x y [] [] = [] := by rw [mergeV]
theorem mergeV_left (f : Int → Int → Int) (x y : Int) (s : St) (a : List St) : mergeV f x y (s :: a) [] = (s.1, f s.2 y) :: mergeV f s.2 y a [] := by rw [mergeV]
theorem mergeV_right (f : Int → Int → Int) (x y : Int) (u : St) (b : List St) : mergeV f x y [] (u :: b) = (u.1, f x u.2) :: mergeV f x u.2 [] b := by rw [mergeV]
theorem mergeV_lt (f : Int → Int → Int) (x y : Int) (s u : St) (a b : List St) (h : s.1 < u.1) : mergeV f x y (s :: a) (u :: b) = (s.1, f s.2 y) :: mergeV f s.2 y a (u :: b) := by rw [mergeV, if_pos h]
theorem mergeV_gt (f : Int → Int → Int) (x y : Int) (s u : St) (a b : List St) (h : u.1 < s.1) : mergeV f x y (s :: a) (u :: b) = (u.1, f x u.2) :: mergeV f x u.2 (s :: a) b := by rw [mergeV, if_neg (by omega), if_pos h]
theorem mergeV_eq (f : Int → Int → Int) (x y : Int) (s u : St) (a b : List St) (h : s.1 = u.1) : mergeV f x y (s :: a) (u :: b) = (s.1, f s.2 u.2) :: mergeV f s.2 u.2 a b := by rw [mergeV, if_neg (by omega), if_neg (by omega)]
theorem mergeV_spec (f : Int → Int → Int) : ∀ (n : Nat) (a b : List St) (x y p : Int), a.length + b.length ≤ n → Asc p a → Asc p b →
    Asc p (mergeV f x y a b) ∧ (mergeV f x y a b).length ≤ a.length + b.length ∧ ∀ t, atFrom (f x y) t (mergeV f x y a b) = f (atFrom x t a) (atFrom y t b)
  | _, [], [], x, y, p, _, _, _ => by rw [mergeV_nil]; exact ⟨trivial, Nat.zero_le _, fun _ => rfl⟩
  | 0, _ :: _, _, _, _, _, h, _, _ => absurd h (by simp)
  | 0, [], _ :: _, _, _, _, h, _, _ => absurd h (by simp)
  | n + 1, s :: a, [], x, y, p, h, ⟨h1, h2⟩, hb => by
    rw [mergeV_left]
    obtain ⟨i1, i2, i3⟩ := mergeV_spec f n a [] s.2 y s.1 (by simp at h ⊢; omega) h2 trivial
    refine ⟨⟨h1, i1⟩, by simp at i2 ⊢; omega, fun t => ?_⟩
    show atFrom (if s.1 ≤ t then f s.2 y else f x y) t _ = f (atFrom (if s.1 ≤ t then s.2 else x) t a) y
    by_cases c : s.1 ≤ t
    · rw [if_pos c, if_pos c]; exact i3 t
    · rw [if_neg c, if_neg c, atFrom_none, atFrom_none]
      · intro z hz; have := h2.all z hz; omega
      · intro z hz; have := i1.all z hz; omega
  | n + 1, [], u :: b, x, y, p, h, ha, ⟨h1, h2⟩ => by
    rw [mergeV_right]
    obtain ⟨i1, i2, i3⟩ := mergeV_spec f n [] b x u.2 u.1 (by simp at h ⊢; omega) trivial h2
    refine ⟨⟨h1, i1⟩, by simp at i2 ⊢; omega, fun t => ?_⟩
    show atFrom (if u.1 ≤ t then f x u.2 else f x y) t _ = f x (atFrom (if u.1 ≤ t then u.2 else y) t b)
    by_cases c : u.1 ≤ t
    · rw [if_pos c, if_pos c]; exact i3 t
    · rw [if_neg c, if_neg c, atFrom_none, atFrom_none]
      · intro z hz; have := h2.all z hz; omega
      · intro z hz; have := i1.all z hz; omega
  | n + 1, s :: a, u :: b, x, y, p, h, ⟨h1, h2⟩, ⟨h3, h4⟩ => by
    simp only [List.length_cons] at h
    by_cases c1 : s.1 < u.1
    · rw [mergeV_lt _ _ _ _ _ _ _ c1]
      obtain ⟨i1, i2, i3⟩ := mergeV_spec f n a (u :: b) s.2 y s.1 (by simp; omega) h2 ⟨c1, h4⟩
      refine ⟨⟨h1, i1⟩, by simp at i2 ⊢; omega, fun t => ?_⟩
      show atFrom (if s.1 ≤ t then f s.2 y else f x y) t _ = f (atFrom (if s.1 ≤ t then s.2 else x) t a) (atFrom y t (u :: b))
      by_cases c : s.1 ≤ t
      · rw [if_pos c, if_pos c]; exact i3 t
      · rw [if_neg c, if_neg c, atFrom_none, atFrom_none, atFrom_none t (u :: b)]
        · intro z hz; rcases List.mem_cons.1 hz with rfl | hz
          · omega
          · have := h4.all z hz; omega
        · intro z hz; have := h2.all z hz; omega
        · intro z hz; have := i1.all z hz; omega
    · by_cases c2 : u.1 < s.1
      · rw [mergeV_gt _ _ _ _ _ _ _ c2]
        obtain ⟨i1, i2, i3⟩ := mergeV_spec f n (s :: a) b x u.2 u.1 (by simp; omega) ⟨c2, h2⟩ h4
        refine ⟨⟨h3, i1⟩, by simp at i2 ⊢; omega, fun t => ?_⟩
        show atFrom (if u.1 ≤ t then f x u.2 else f x y) t _ = f (atFrom x t (s :: a)) (atFrom (if u.1 ≤ t then u.2 else y) t b)
        by_cases c : u.1 ≤ t
        · rw [if_pos c, if_pos c]; exact i3 t
        · rw [if_neg c, if_neg c, atFrom_none, atFrom_none t (s :: a), atFrom_none t b]
          · intro z hz; have := h4.all z hz; omega
          · intro z hz; rcases List.mem_cons.1 hz with rfl | hz
            · omega
            · have := h2.all z hz; omega
          · intro z hz; have := i1.all z hz; omega
      · have c3 : s.1 = u.1 := by omega
        rw [mergeV_eq _ _ _ _ _ _ _ c3]
        obtain ⟨i1, i2, i3⟩ := mergeV_spec f n a b s.2 u.2 s.1 (by omega) h2 (c3 ▸ h4)
        refine ⟨⟨h1, i1⟩, by simp at i2 ⊢; omega, fun t => ?_⟩
        show atFrom (if s.1 ≤ t then f s.2 u.2 else f x y) t _ = f (atFrom (if s.1 ≤ t then s.2 else x) t a) (atFrom (if u.1 ≤ t then u.2 else y) t b)
        by_cases c : s.1 ≤ t
        · rw [if_pos c, if_pos c, if_pos (by omega)]; exact i3 t
        · rw [if_neg c, if_neg c, if_neg (by omega), atFrom_none, atFrom_none, atFrom_none]
          · intro z hz; have := h4.all z hz; omega
          · intro z hz; have := h2.all z hz; omega
          · intro z hz; have := i1.all z hz; omega
def combL (f : Int → Int → Int) (a b : List St) : List St := nL 0 (mergeV f 0 0 a b)
/-- A normal series with these values. -/
structure Fin (F : Int → Int) (l : List St) : Prop where
  asc : Asc (-1) l
  nrm : Nrm 0 l
  at_ : ∀ t, atL l t = F t
theorem Fin.unique {F : Int → Int} {l m : List St} (h : Fin F l) (k : Fin F m) : l = m :=
  nrm_unique l m 0 (-1) h.asc k.asc h.nrm k.nrm fun t => (h.at_ t).trans (k.at_ t).symm
theorem combL_fin (f : Int → Int → Int) (h0 : f 0 0 = 0) (a b : List St) (ha : Asc (-1) a) (hb : Asc (-1) b) : Fin (fun t => f (atL a t) (atL b t)) (combL f a b) := by
  obtain ⟨i1, i2, i3⟩ := mergeV_spec f _ a b 0 0 (-1) (Nat.le_refl _) ha hb
  refine ⟨nL_asc _ _ _ i1, nL_nrm _ _, fun t => ?_⟩
  have h1 := nL_at t (mergeV f 0 0 a b) 0 (-1) i1
  have h2 := i3 t
  rw [h0] at h2
  exact h1.trans h2
theorem combL_len (f : Int → Int → Int) (a b : List St) (ha : Asc (-1) a) (hb : Asc (-1) b) : (combL f a b).length ≤ a.length + b.length :=
  Nat.le_trans (nL_len _ _) (mergeV_spec f _ a b 0 0 (-1) (Nat.le_refl _) ha hb).2.1
theorem nL_fin (l : List St) (h : Asc (-1) l) : Fin (atL l) (nL 0 l) := ⟨nL_asc _ _ _ h, nL_nrm _ _, fun t => nL_at t l 0 (-1) h⟩

/-! The next time of a step. -/
def nx (t best : Int) (s : St) : Int := if t < s.1 ∧ (best < 0 ∨ s.1 < best) then s.1 else best
def nextF (t : Int) (l : List St) : Int := l.foldl (nx t) (-1)
theorem nextF_snoc (t : Int) (l : List St) (s : St) : nextF t (l ++ [s]) = nx t (nextF t l) s := by unfold nextF; rw [List.foldl_append]; rfl
theorem nextF_spec (t : Int) (ht : -1 ≤ t) : ∀ l : List St, (∀ s ∈ l, 0 ≤ s.1) →
    (nextF t l = -1 ∧ ∀ s ∈ l, s.1 ≤ t) ∨ (t < nextF t l ∧ 0 ≤ nextF t l ∧ (∃ s ∈ l, s.1 = nextF t l) ∧ ∀ s ∈ l, t < s.1 → nextF t l ≤ s.1) := by
  have key : ∀ (l : List St) (done : List St) (best : Int), (∀ s ∈ l, 0 ≤ s.1) → (∀ s ∈ done, 0 ≤ s.1) →
      ((best = -1 ∧ ∀ s ∈ done, s.1 ≤ t) ∨ (t < best ∧ 0 ≤ best ∧ (∃ s ∈ done, s.1 = best) ∧ ∀ s ∈ done, t < s.1 → best ≤ s.1)) →
      ((l.foldl (nx t) best = -1 ∧ ∀ s ∈ done ++ l, s.1 ≤ t) ∨ (t < l.foldl (nx t) best ∧ 0 ≤ l.foldl (nx t) best ∧ (∃ s ∈ done ++ l, s.1 = l.foldl (nx t) best) ∧ ∀ s ∈ done ++ l, t < s.1 → l.foldl (nx t) best ≤ s.1)) := by
    intro l
    induction l with
    | nil => intro done best _ _ h; simpa using h
    | cons x l ih =>
      intro done best hl hd h
      have hx := hl x List.mem_cons_self
      have := ih (done ++ [x]) (nx t best x) (fun s hs => hl s (List.mem_cons_of_mem _ hs)) (fun s hs => by
        rcases List.mem_append.1 hs with h | h
        · exact hd s h
        · rw [List.mem_singleton.1 h]; exact hx) (by
        unfold nx
        rcases h with ⟨rfl, h2⟩ | ⟨h1, h2, ⟨s0, h3, h3'⟩, h4⟩
        · by_cases c : t < x.1
          · rw [if_pos ⟨c, .inl (by decide)⟩]
            refine .inr ⟨c, hx, ⟨x, by simp, rfl⟩, fun s hs hts => ?_⟩
            rcases List.mem_append.1 hs with h | h
            · have := h2 s h; omega
            · rw [List.mem_singleton.1 h]; exact Int.le_refl _
          · rw [if_neg (by omega)]
            refine .inl ⟨rfl, fun s hs => ?_⟩
            rcases List.mem_append.1 hs with h | h
            · exact h2 s h
            · rw [List.mem_singleton.1 h]; omega
        · by_cases c : t < x.1 ∧ (best < 0 ∨ x.1 < best)
          · rw [if_pos c]
            refine .inr ⟨c.1, hx, ⟨x, by simp, rfl⟩, fun s hs hts => ?_⟩
            rcases List.mem_append.1 hs with h | h
            · have := h4 s h hts; omega
            · rw [List.mem_singleton.1 h]; exact Int.le_refl _
          · rw [if_neg c]
            refine .inr ⟨h1, h2, ⟨s0, by simp [h3], h3'⟩, fun s hs hts => ?_⟩
            rcases List.mem_append.1 hs with h | h
            · exact h4 s h hts
            · rw [List.mem_singleton.1 h] at hts ⊢; omega)
      rw [List.append_assoc] at this
      exact this
  intro l hl
  have := key l [] (-1) hl (fun s hs => by cases hs) (.inl ⟨rfl, fun s hs => by cases hs⟩)
  simp only [List.nil_append] at this
  exact this

theorem countP_less {α : Type} (p q : α → Bool) : ∀ (l : List α), (∀ x ∈ l, p x = true → q x = true) → (∃ x ∈ l, q x = true ∧ p x = false) → l.countP p + 1 ≤ l.countP q
  | [], _, ⟨x, hx, _⟩ => by cases hx
  | y :: l, h, ⟨x, hx, h1, h2⟩ => by
    rw [List.countP_cons, List.countP_cons]
    have mono : l.countP p ≤ l.countP q := List.countP_mono_left fun z hz hp => h z (List.mem_cons_of_mem _ hz) hp
    rcases List.mem_cons.1 hx with rfl | hx
    · rw [h1, h2]; simp; omega
    · have := countP_less p q l (fun z hz => h z (List.mem_cons_of_mem _ hz)) ⟨x, hx, h1, h2⟩
      have hy := h y List.mem_cons_self
      cases e : p y with
      | false => simp; split <;> omega
      | true => rw [hy e]; simp; omega

/-- What is put behind a series unless it changes nothing. -/
def putL (l : List St) (at_ v : Int) : List St := if v = lastV 0 l then l else l ++ [(at_, v)]
def cnt (l : List St) (t : Int) : Nat := l.countP fun s => decide (s.1 < t)
/-- Where the reference's loop stands, at the time t. -/
structure Cmb (F : Int → Int) (m out : List St) (t : Int) : Prop where
  asc : Asc (-1) out
  lt : ∀ s ∈ out, s.1 < t
  nrm : Nrm 0 out
  at_ : ∀ t', t' < t → atL out t' = F t'
  t0 : 0 ≤ t
  st : ∃ s ∈ m, s.1 = t
  len : out.length ≤ cnt m t
theorem lastV_at (l : List St) (t : Int) (h : ∀ s ∈ l, s.1 ≤ t) : atL l t = lastV 0 l := by
  have : ∀ (l : List St) (w : Int), (∀ s ∈ l, s.1 ≤ t) → atFrom w t l = lastV w l := by
    intro l
    induction l with
    | nil => intro w _; rfl
    | cons x l ih =>
      intro w h
      unfold atFrom lastV
      rw [if_pos (h x List.mem_cons_self)]
      exact ih _ fun s hs => h s (List.mem_cons_of_mem _ hs)
  exact this l 0 h
theorem Asc.snoc {p : Int} : ∀ {l : List St} (s : St), Asc p l → p < s.1 → (∀ x ∈ l, x.1 < s.1) → Asc p (l ++ [s])
  | [], s, _, h, _ => ⟨h, trivial⟩
  | x :: l, s, ⟨a, b⟩, h, hl => ⟨a, Asc.snoc s b (hl x List.mem_cons_self) fun y hy => hl y (List.mem_cons_of_mem _ hy)⟩
theorem Nrm.snoc {w : Int} : ∀ {l : List St} (s : St), Nrm w l → s.2 ≠ lastV w l → Nrm w (l ++ [s])
  | [], s, _, h => ⟨h, trivial⟩
  | x :: l, s, ⟨a, b⟩, h => ⟨a, Nrm.snoc s b h⟩
theorem putL_len (l : List St) (t v : Int) : (putL l t v).length ≤ l.length + 1 := by unfold putL; split <;> simp
theorem Cmb.put {F : Int → Int} {m out : List St} {t : Int} (h : Cmb F m out t) : Asc (-1) (putL out t (F t)) ∧ Nrm 0 (putL out t (F t)) ∧ (∀ s ∈ putL out t (F t), s.1 ≤ t) ∧ (∀ t', t' < t → atL (putL out t (F t)) t' = F t') ∧ ∀ t', t ≤ t' → atL (putL out t (F t)) t' = F t := by
  unfold putL
  by_cases c : F t = lastV 0 out
  · rw [if_pos c]
    refine ⟨h.asc, h.nrm, fun s hs => Int.le_of_lt (h.lt s hs), h.at_, fun t' ht' => ?_⟩
    rw [c, lastV_at out t' fun s hs => by have := h.lt s hs; omega]
  · rw [if_neg c]
    refine ⟨h.asc.snoc _ (by have := h.t0; show -1 < t; omega) h.lt, h.nrm.snoc _ c, fun s hs => ?_, fun t' ht' => ?_, fun t' ht' => ?_⟩
    · rcases List.mem_append.1 hs with h1 | h1
      · exact Int.le_of_lt (h.lt s h1)
      · rw [List.mem_singleton.1 h1]; exact Int.le_refl _
    · rw [atL_snoc, if_neg (by show ¬ t ≤ t'; omega)]; exact h.at_ t' ht'
    · rw [atL_snoc, if_pos ht']
/-- F changes at steps only. -/
def Steps (F : Int → Int) (m : List St) : Prop := ∀ t t', t ≤ t' → (∀ s ∈ m, t < s.1 → t' < s.1) → F t = F t'
theorem Cmb.next {F : Int → Int} {m out : List St} {t : Int} (h : Cmb F m out t) (hF : Steps F m) (h0 : ∀ s ∈ m, 0 ≤ s.1) :
    (nextF t m = -1 ∧ Fin F (putL out t (F t))) ∨ (t < nextF t m ∧ Cmb F m (putL out t (F t)) (nextF t m)) := by
  obtain ⟨p1, p2, p3, p4, p5⟩ := h.put
  rcases nextF_spec t (by have := h.t0; omega) m h0 with ⟨n1, n2⟩ | ⟨n1, n2, n3, n4⟩
  · refine .inl ⟨n1, p1, p2, fun t' => ?_⟩
    by_cases c : t' < t
    · exact p4 t' c
    · rw [p5 t' (by omega)]
      exact hF t t' (by omega) fun s hs hts => by have := n2 s hs; omega
  · refine .inr ⟨n1, p1, fun s hs => by have := p3 s hs; omega, p2, fun t' ht' => ?_, n2, n3, ?_⟩
    · by_cases c : t' < t
      · exact p4 t' c
      · rw [p5 t' (by omega)]
        exact hF t t' (by omega) fun s hs hts => by have := n4 s hs hts; omega
    · have h1 := putL_len out t (F t)
      have h2 := h.len
      have h3 : cnt m t + 1 ≤ cnt m (nextF t m) := by
        refine countP_less _ _ m (fun x _ hx => by simp at hx ⊢; omega) ?_
        obtain ⟨s, hs, e⟩ := h.st
        exact ⟨s, hs, by simp; omega, by simp; omega⟩
      omega
theorem Cmb.start (F : Int → Int) (m : List St) (hF : Steps F m) (h0 : ∀ s ∈ m, 0 ≤ s.1) (hz : F (-1) = 0) : (nextF (-1) m = -1 ∧ Fin F []) ∨ Cmb F m [] (nextF (-1) m) := by
  have hneg : ∀ t, t ≤ -1 → F t = 0 := fun t ht => by
    rw [hF t (-1) ht (fun s hs _ => by have := h0 s hs; omega)]; exact hz
  rcases nextF_spec (-1) (Int.le_refl _) m h0 with ⟨n1, n2⟩ | ⟨n1, n2, n3, n4⟩
  · refine .inl ⟨n1, trivial, trivial, fun t => ?_⟩
    by_cases c : t ≤ -1
    · exact (hneg t c).symm
    · show (0 : Int) = F t
      rw [← hz]
      exact hF (-1) t (by omega) fun s hs hts => by have := n2 s hs; omega
  · refine .inr ⟨trivial, fun s hs => (by cases hs), trivial, fun t' ht' => ?_, n2, n3, Nat.zero_le _⟩
    show (0 : Int) = F t'
    by_cases c : t' ≤ -1
    · exact (hneg t' c).symm
    · rw [← hz]
      exact hF (-1) t' (by omega) fun s hs hts => by have := n4 s hs hts; omega
theorem steps_at (f : Int → Int → Int) (a b : List St) : Steps (fun t => f (atL a t) (atL b t)) (a ++ b) := fun t t' h1 h2 => by
  show f (atL a t) (atL b t) = f (atL a t') (atL b t')
  unfold atL
  rw [atL_same t t' a 0 h1 fun s hs => h2 s (List.mem_append.2 (.inl hs)), atL_same t t' b 0 h1 fun s hs => h2 s (List.mem_append.2 (.inr hs))]
end Go.Proofs.YtmapkiefmbgdoabDoor.S.Ser
namespace Go.Proofs.YtmapkiefmbgdoabDoor.S
open Go.RowKit
open Ser
set_option linter.unusedVariables false

theorem nx_yes {t b x : Int} (h1 : t < x) (h2 : b < 0 ∨ x < b) (s : St) (h : s.1 = x) : nx t b s = x := by unfold nx; rw [h, if_pos ⟨h1, h2⟩]
theorem nx_no {t b x : Int} (h : ¬ (t < x ∧ (b < 0 ∨ x < b))) (s : St) (e : s.1 = x) : nx t b s = b := by unfold nx; rw [e, if_neg h]

end Go.Proofs.YtmapkiefmbgdoabDoor.S
namespace Go.Proofs.YtmapkiefmbgdoabDoor.S
open Go.RowKit
open Ser
set_option linter.unusedVariables false

/-- What a call returns that has put a step behind an own series. -/
def GivesOwn (B : Nat) (w : World) (l : List St) (e : Ending) (w' : World) : Prop := ∃ v, e = .returned v ∧ w'.ownsRow B 58 2 v l.length (stV l) ∧ Below B w w'

theorem lastV_get : ∀ (l : List St) (w : Int) (h : 0 < l.length), lastV w l = (l[l.length - 1]'(by omega)).2
  | [s], _, _ => rfl
  | s :: u :: l, w, _ => by
    have := lastV_get (u :: l) s.2 (by simp)
    show lastV s.2 (u :: l) = _
    rw [this]; rfl

end Go.Proofs.YtmapkiefmbgdoabDoor.S
namespace Go.Proofs.YtmapkiefmbgdoabDoor.S
open Go.RowKit
open Ser
set_option linter.unusedVariables false

/-- The sum or the lesser. -/
def cf (s : Bool) (x y : Int) : Int := if s then x + y else min x y
theorem cf_sum (x y : Int) : cf true x y = x + y := rfl
theorem cf_le (x y : Int) (h : x ≤ y) : cf false x y = x := by show min x y = x; omega
theorem cf_gt (x y : Int) (h : ¬ x ≤ y) : cf false x y = y := by show min x y = y; omega
theorem cf_00 (s : Bool) : cf s 0 0 = 0 := by cases s <;> rfl
def FF (s : Bool) (la lb : List St) (t : Int) : Int := cf s (atL la t) (atL lb t)
/-- Where the loop stands. -/
def Stand (s : Bool) (la lb al : List St) (T : Int) : Prop := (T = -1 ∧ Fin (FF s la lb) al) ∨ Cmb (FF s la lb) (la ++ lb) al T
theorem times_ok {la lb : List St} (ha : Ok la) (hb : Ok lb) : ∀ s ∈ la ++ lb, 0 ≤ s.1 ∧ s.1 ≤ 268435456 := by
  intro s hs
  rcases List.mem_append.1 hs with h | h
  · exact ((okS_iff s).1 (ha.all s h)).1
  · exact ((okS_iff s).1 (hb.all s h)).1
theorem atL_neg {l : List St} (h : Ok l) : atL l (-1) = 0 := atFrom_none _ _ _ fun s hs => by have := ((okS_iff s).1 (h.all s hs)).1.1; omega
theorem stand_start (s : Bool) {la lb : List St} (ha : Ok la) (hb : Ok lb) : Stand s la lb [] (nextF (-1) (la ++ lb)) := by
  have := Cmb.start (FF s la lb) (la ++ lb) (steps_at (cf s) la lb) (fun x hx => (times_ok ha hb x hx).1) (by unfold FF; rw [atL_neg ha, atL_neg hb]; exact cf_00 s)
  rcases this with ⟨h1, h2⟩ | h
  · exact .inl ⟨h1, h2⟩
  · exact .inr h
theorem stand_next (s : Bool) {la lb al : List St} {T : Int} (ha : Ok la) (hb : Ok lb) (h : Stand s la lb al T) (h0 : 0 ≤ T) :
    Stand s la lb (putL al T (FF s la lb T)) (nextF T (la ++ lb)) ∧ (nextF T (la ++ lb) = -1 ∨ T < nextF T (la ++ lb)) := by
  rcases h with ⟨h1, _⟩ | h
  · omega
  · rcases h.next (steps_at (cf s) la lb) (fun x hx => (times_ok ha hb x hx).1) with ⟨h1, h2⟩ | ⟨h1, h2⟩
    · exact ⟨.inl ⟨h1, h2⟩, .inl h1⟩
    · exact ⟨.inr h2, .inr h1⟩
theorem stand_bd {s : Bool} {la lb al : List St} {T : Int} (ha : Ok la) (hb : Ok lb) (h : Stand s la lb al T) : -1 ≤ T ∧ T ≤ 268435456 ∧ (0 ≤ T → al.length ≤ 1024) := by
  rcases h with ⟨h1, _⟩ | h
  · exact ⟨by omega, by omega, fun h => by omega⟩
  · obtain ⟨x, hx, e⟩ := h.st
    have := times_ok ha hb x hx
    have h2 := h.len
    have h3 : cnt (la ++ lb) T ≤ (la ++ lb).length := List.countP_le_length
    have h4 := ha.len
    have h5 := hb.len
    rw [List.length_append] at h3
    exact ⟨by omega, by omega, fun _ => by omega⟩
theorem stand_done {s : Bool} {la lb al : List St} {T : Int} (ha : Ok la) (hb : Ok lb) (h : Stand s la lb al T) (h0 : ¬ 0 ≤ T) : al = combL (cf s) la lb := by
  rcases h with ⟨_, h⟩ | h
  · exact h.unique (combL_fin (cf s) (cf_00 s) la lb ha.asc hb.asc)
  · exact absurd h.t0 h0

theorem meas_lt (T T' : Int) (h0 : 0 ≤ T) (hT : T ≤ 268435456) (h : T' = -1 ∨ T < T') : (if T' < 0 then 0 else (268435458 - T').toNat) < (if T < 0 then 0 else (268435458 - T).toNat) := by
  rw [if_neg (show ¬ T < 0 by omega)]; split <;> omega

end Go.Proofs.YtmapkiefmbgdoabDoor.S
namespace Go.Proofs.YtmapkiefmbgdoabDoor.S
open Go.RowKit
open Ser
def fMul (x y : Int) : Int := x * y
/-- What a call returns that makes a series or refuses it. -/
def GivesE (w : World) (l : List St) (err : Int) (e : Ending) (w' : World) : Prop := ∃ v, e = .returned (.tuple #[v, .int .i64 err]) ∧ Rd w' v l ∧ Below w.heap.size w w'
theorem ret_e {v : Value} {a b : Int} (h : a = b) : Ending.returned (.tuple #[v, .int .i64 a]) = .returned (.tuple #[v, .int .i64 b]) := by rw [h]
def limL (l : List St) : List St := if 512 < l.length then [] else l
def limE (l : List St) : Int := if 512 < l.length then 3 else 0
theorem ok_nil : Ok [] := ⟨Nat.zero_le _, fun s hs => (by cases hs), trivial⟩
theorem combL_nil (l : List St) (h : Ok l) : combL (cf true) l [] = nL 0 l := by
  refine Fin.unique (F := atL l) ?_ (nL_fin l h.asc)
  have := combL_fin (cf true) (cf_00 true) l [] h.asc trivial
  exact ⟨this.asc, this.nrm, fun t => by rw [this.at_ t]; show atL l t + 0 = atL l t; omega⟩
end Go.Proofs.YtmapkiefmbgdoabDoor.S
namespace Go.Proofs.YtmapkiefmbgdoabDoor.S
open Go.RowKit
open Ser
set_option linter.unusedVariables false

/-- All values lie between two bounds. -/
def Bd (lo hi : Int) (l : List St) : Prop := ∀ s ∈ l, lo ≤ s.2 ∧ s.2 ≤ hi
theorem Bd.head {lo hi : Int} {s : St} {l : List St} (h : Bd lo hi (s :: l)) : lo ≤ s.2 ∧ s.2 ≤ hi := h s List.mem_cons_self
theorem Bd.tail {lo hi : Int} {s : St} {l : List St} (h : Bd lo hi (s :: l)) : Bd lo hi l := fun x hx => h x (List.mem_cons_of_mem _ hx)
theorem mergeV_len (f : Int → Int → Int) : ∀ (n : Nat) (a b : List St) (x y : Int), a.length + b.length ≤ n → (mergeV f x y a b).length ≤ n
  | _, [], [], x, y, _ => by rw [mergeV_nil]; exact Nat.zero_le _
  | 0, _ :: _, _, _, _, h => absurd h (by simp)
  | 0, [], _ :: _, _, _, h => absurd h (by simp)
  | n + 1, s :: a, [], x, y, h => by
    rw [mergeV_left, List.length_cons]
    have := mergeV_len f n a [] s.2 y (by simp at h ⊢; omega)
    omega
  | n + 1, [], u :: b, x, y, h => by
    rw [mergeV_right, List.length_cons]
    have := mergeV_len f n [] b x u.2 (by simp at h ⊢; omega)
    omega
  | n + 1, s :: a, u :: b, x, y, h => by
    simp only [List.length_cons] at h
    by_cases c1 : s.1 < u.1
    · rw [mergeV_lt _ _ _ _ _ _ _ c1, List.length_cons]
      have := mergeV_len f n a (u :: b) s.2 y (by simp; omega)
      omega
    · by_cases c2 : u.1 < s.1
      · rw [mergeV_gt _ _ _ _ _ _ _ c2, List.length_cons]
        have := mergeV_len f n (s :: a) b x u.2 (by simp; omega)
        omega
      · rw [mergeV_eq _ _ _ _ _ _ _ (by omega), List.length_cons]
        have := mergeV_len f n a b s.2 u.2 (by omega)
        omega
/-- Where the loop stands. -/
def Mid (f : Int → Int → Int) (la lb a b : List St) (x y : Int) (al : List St) : Prop := al ++ mergeV f x y a b = mergeV f 0 0 la lb
theorem Mid.len {f : Int → Int → Int} {la lb a b : List St} {x y : Int} {al : List St} (h : Mid f la lb a b x y al) : al.length ≤ la.length + lb.length := by
  have h1 := congrArg List.length h
  rw [List.length_append] at h1
  have := mergeV_len f _ la lb 0 0 (Nat.le_refl _)
  omega
theorem Mid.left {f : Int → Int → Int} {la lb a : List St} {x y s1 s2 : Int} {al : List St} (h : Mid f la lb ((s1, s2) :: a) [] x y al) : Mid f la lb a [] s2 y (al ++ [(s1, f s2 y)]) := by
  unfold Mid at h ⊢; rw [mergeV_left] at h; rw [List.append_assoc]; exact h
theorem Mid.right {f : Int → Int → Int} {la lb b : List St} {x y u1 u2 : Int} {al : List St} (h : Mid f la lb [] ((u1, u2) :: b) x y al) : Mid f la lb [] b x u2 (al ++ [(u1, f x u2)]) := by
  unfold Mid at h ⊢; rw [mergeV_right] at h; rw [List.append_assoc]; exact h
theorem Mid.lt {f : Int → Int → Int} {la lb a b : List St} {x y s1 s2 u1 u2 : Int} {al : List St} (h : Mid f la lb ((s1, s2) :: a) ((u1, u2) :: b) x y al) (c : s1 < u1) : Mid f la lb a ((u1, u2) :: b) s2 y (al ++ [(s1, f s2 y)]) := by
  unfold Mid at h ⊢; rw [mergeV_lt _ _ _ _ _ _ _ c] at h; rw [List.append_assoc]; exact h
theorem Mid.gt {f : Int → Int → Int} {la lb a b : List St} {x y s1 s2 u1 u2 : Int} {al : List St} (h : Mid f la lb ((s1, s2) :: a) ((u1, u2) :: b) x y al) (c : u1 < s1) : Mid f la lb ((s1, s2) :: a) b x u2 (al ++ [(u1, f x u2)]) := by
  unfold Mid at h ⊢; rw [mergeV_gt _ _ _ _ _ _ _ c] at h; rw [List.append_assoc]; exact h
theorem Mid.eq {f : Int → Int → Int} {la lb a b : List St} {x y s1 s2 u2 : Int} {al : List St} (h : Mid f la lb ((s1, s2) :: a) ((s1, u2) :: b) x y al) : Mid f la lb a b s2 u2 (al ++ [(s1, f s2 u2)]) := by
  unfold Mid at h ⊢; rw [mergeV_eq f x y (s1, s2) (s1, u2) a b rfl] at h; rw [List.append_assoc]; exact h
theorem Mid.done {f : Int → Int → Int} {la lb : List St} {x y : Int} {al : List St} (h : Mid f la lb [] [] x y al) : nL 0 al = combL f la lb := by
  unfold Mid at h; rw [mergeV_nil, List.append_nil] at h; rw [h]; rfl
theorem own_dN {w : World} {B n : Nat} {v : Value} {xs : List Value} (h : w.ownsRow B 58 2 v n xs) (k : Nat) : (w.drewN k).ownsRow B 58 2 v n xs := h
/-- The rest of a series, behind its first step. -/
theorem rd_tail {w : World} {b o c : Nat} {s : St} {a : List St} (h : At w b o (s :: a)) (hn : a.length + 1 ≤ c) (hm : c ≤ maxLen) : Rd w (.slice (some ⟨b, o + 2, none⟩) a.length (c - 1)) a := by
  refine ⟨_, _, rfl, by omega, by omega, fun _ => ⟨b, o + 2, rfl, h.1, fun i hi => ?_⟩⟩
  have := h.2 (i + 1) (by simp; omega)
  rw [show o + (i + 1) * 2 = o + 2 + i * 2 by omega] at this
  simpa using this
theorem rd_end {w : World} {p : Option Addr} {a : List St} {c : Nat} (h : c = 1) (hn : a.length + 1 ≤ c) : Rd w (.slice p a.length 0) a := by
  have : a = [] := List.length_eq_zero_iff.1 (by omega)
  subst this
  exact ⟨p, 0, rfl, Nat.le_refl _, Nat.zero_le _, fun h => absurd rfl h⟩
end Go.Proofs.YtmapkiefmbgdoabDoor.S
namespace Go.Proofs.YtmapkiefmbgdoabDoor.S
open Go.RowKit
open Ser
end Go.Proofs.YtmapkiefmbgdoabDoor.S
namespace Go.Proofs.YtmapkiefmbgdoabDoor.S
open Go.RowKit
open Ser
end Go.Proofs.YtmapkiefmbgdoabDoor.S
namespace Go.Proofs.YtmapkiefmbgdoabDoor.S
open Go.RowKit
open Ser
end Go.Proofs.YtmapkiefmbgdoabDoor.S
namespace Go.Proofs.YtmapkiefmbgdoabDoor.S
open Go.RowKit
open Ser
set_option linter.unusedVariables false

/-- The error of two series. -/
def bE (a b : List St) : Int := if validE a = 0 then validE b else validE a
def inR (r : List St) : Bool := r.all fun s => vB s.2
def addL (a b : List St) : List St := if bE a b = 0 then (if inR (combL (cf true) a b) then limL (combL (cf true) a b) else []) else []
def addE (a b : List St) : Int := if bE a b = 0 then (if inR (combL (cf true) a b) then limE (combL (cf true) a b) else 2) else bE a b
def leastL (a b : List St) : List St := if bE a b = 0 then limL (combL (cf false) a b) else []
def leastE (a b : List St) : Int := if bE a b = 0 then limE (combL (cf false) a b) else bE a b
theorem bE_ok {a b : List St} (h : bE a b = 0) : Ok a ∧ Ok b := by
  unfold bE at h
  by_cases e : validE a = 0
  · rw [if_pos e] at h; exact ⟨(ok_iff a).1 e, (ok_iff b).1 h⟩
  · rw [if_neg e] at h; exact absurd h e
theorem Ser.Ok.bd {l : List St} (h : Ok l) : Bd (-1099511627776) 1099511627776 l := fun s hs => ((okS_iff s).1 (h.all s hs)).2
theorem inR_all {r : List St} (h : ∀ j (hj : j < r.length), vB (r[j]'hj).2 = true) : inR r = true := by
  unfold inR
  rw [List.all_eq_true]
  intro s hs
  obtain ⟨i, hi, rfl⟩ := List.mem_iff_getElem.1 hs
  exact h i hi
theorem inR_not {r : List St} (j : Nat) (hj : j < r.length) (h : vB (r[j]'hj).2 = false) : inR r = false := by
  unfold inR
  rw [List.all_eq_false]
  exact ⟨r[j], List.getElem_mem _, by simp [h]⟩

end Go.Proofs.YtmapkiefmbgdoabDoor.S
namespace Go.Proofs.YtmapkiefmbgdoabDoor.S
open Go.RowKit
open Ser
set_option linter.unusedVariables false

theorem vB_of {x : Int} (h : vB x = true) : -1099511627776 ≤ x ∧ x ≤ 1099511627776 := by unfold vB at h; simpa using h
end Go.Proofs.YtmapkiefmbgdoabDoor.S
namespace Go.Proofs.YtmapkiefmbgdoabDoor.S.Ser
set_option linter.unusedVariables false

theorem put_spec {out : List St} {τ v : Int} (h1 : Asc (-1) out) (h2 : ∀ s ∈ out, s.1 < τ) (h3 : Nrm 0 out) (h0 : 0 ≤ τ) :
    Asc (-1) (putL out τ v) ∧ Nrm 0 (putL out τ v) ∧ (∀ s ∈ putL out τ v, s.1 ≤ τ) ∧ (∀ t', t' < τ → atL (putL out τ v) t' = atL out t') ∧ ∀ t', τ ≤ t' → atL (putL out τ v) t' = v := by
  unfold putL
  by_cases c : v = lastV 0 out
  · rw [if_pos c]
    refine ⟨h1, h3, fun s hs => Int.le_of_lt (h2 s hs), fun _ _ => rfl, fun t' ht' => ?_⟩
    rw [c, lastV_at out t' fun s hs => by have := h2 s hs; omega]
  · rw [if_neg c]
    refine ⟨h1.snoc _ (by show -1 < τ; omega) h2, h3.snoc _ c, fun s hs => ?_, fun t' ht' => ?_, fun t' ht' => ?_⟩
    · rcases List.mem_append.1 hs with h | h
      · exact Int.le_of_lt (h2 s h)
      · rw [List.mem_singleton.1 h]; exact Int.le_refl _
    · rw [atL_snoc, if_neg (by show ¬ τ ≤ t'; omega)]
    · rw [atL_snoc, if_pos ht']

/-- The values in a span. -/
def cutF (l : List St) (f t : Int) (t' : Int) : Int := if f ≤ t' ∧ t' < t then atL l t' else 0
structure Clp (l : List St) (f t : Int) (k : Nat) (out : List St) : Prop where
  asc : Asc (-1) out
  nrm : Nrm 0 out
  lt : ∀ s ∈ out, s.1 < t
  nxt : ∀ j (hj : j < l.length), k ≤ j → f < (l[j]'hj).1 → ∀ s ∈ out, s.1 < (l[j]'hj).1
  at_ : ∀ t', t' < t → (∀ j (hj : j < l.length), k ≤ j → f < (l[j]'hj).1 → t' < (l[j]'hj).1) → atL out t' = cutF l f t t'
  len : out.length ≤ k + 1
theorem Clp.start {l : List St} {f t : Int} (h0 : 0 ≤ f) (h : f < t) : Clp l f t 0 (putL [] f (atL l f)) := by
  obtain ⟨p1, p2, p3, p4, p5⟩ := put_spec (out := []) (τ := f) (v := atL l f) trivial (fun s hs => by cases hs) trivial h0
  refine ⟨p1, p2, fun s hs => by have := p3 s hs; omega, fun j hj _ hf s hs => by have := p3 s hs; omega, fun t' ht' hn => ?_, putL_len _ _ _⟩
  unfold cutF
  by_cases c : f ≤ t'
  · rw [p5 t' c, if_pos ⟨c, ht'⟩]
    exact atL_same f t' l 0 c fun s hs hfs => by
      obtain ⟨i, hi, rfl⟩ := List.mem_iff_getElem.1 hs
      exact hn i hi (Nat.zero_le _) hfs
  · rw [p4 t' (by omega), if_neg (by omega)]; rfl
theorem Clp.skip {l : List St} {f t : Int} {k : Nat} {out : List St} (h : Clp l f t k out) (hk : k < l.length) (hs : ¬ (f < (l[k]'hk).1 ∧ (l[k]'hk).1 < t)) : Clp l f t (k + 1) out := by
  refine ⟨h.asc, h.nrm, h.lt, fun j hj hkj hf s hs => h.nxt j hj (by omega) hf s hs, fun t' ht' hn => h.at_ t' ht' fun j hj hkj hf => ?_, by have := h.len; omega⟩
  by_cases c : j = k
  · subst c; omega
  · exact hn j hj (by omega) hf
theorem Clp.take {l : List St} {f t : Int} {k : Nat} {out : List St} (h : Clp l f t k out) (ha : Asc (-1) l) (h0 : 0 ≤ f) (hk : k < l.length) (h1 : f < (l[k]'hk).1) (h2 : (l[k]'hk).1 < t) : Clp l f t (k + 1) (putL out (l[k]'hk).1 (l[k]'hk).2) := by
  obtain ⟨p1, p2, p3, p4, p5⟩ := put_spec (out := out) (τ := (l[k]'hk).1) (v := (l[k]'hk).2) h.asc (h.nxt k hk (Nat.le_refl _) h1) h.nrm (by omega)
  refine ⟨p1, p2, fun s hs => by have := p3 s hs; omega, fun j hj hkj hf s hs => ?_, fun t' ht' hn => ?_, ?_⟩
  · have := p3 s hs
    have := ha.get k j hk hj (by omega)
    omega
  · by_cases c : t' < (l[k]'hk).1
    · rw [p4 t' c]
      refine h.at_ t' ht' fun j hj hkj hf => ?_
      by_cases e : j = k
      · subst e; exact c
      · exact hn j hj (by omega) hf
    · rw [p5 t' (by omega)]
      unfold cutF
      rw [if_pos ⟨by omega, ht'⟩, atL_of l (-1) t' (k + 1) ha (by omega) (fun j hj e => ?_) (fun hj => ?_), atR_succ l k hk]
      · obtain rfl : j = k := by omega
        omega
      · have := ha.get k (k + 1) hk hj (by omega)
        exact hn (k + 1) hj (Nat.le_refl _) (by omega)
  · have := putL_len out (l[k]'hk).1 (l[k]'hk).2
    have := h.len
    omega
theorem Clp.done {l : List St} {f t : Int} {out : List St} (h : Clp l f t l.length out) (h0 : 0 ≤ t) : Fin (cutF l f t) (putL out t 0) := by
  obtain ⟨p1, p2, p3, p4, p5⟩ := put_spec (out := out) (τ := t) (v := 0) h.asc h.lt h.nrm h0
  refine ⟨p1, p2, fun t' => ?_⟩
  by_cases c : t' < t
  · rw [p4 t' c]; exact h.at_ t' c fun j hj hkj => by omega
  · rw [p5 t' (by omega)]; unfold cutF; rw [if_neg (by omega)]
end Go.Proofs.YtmapkiefmbgdoabDoor.S.Ser
namespace Go.Proofs.YtmapkiefmbgdoabDoor.S
open Go.RowKit
open Ser
set_option linter.unusedVariables false

/-- Is a span valid. -/
def spB (f t : Int) : Bool := decide (0 ≤ f ∧ f ≤ t ∧ t ≤ 268435456)
def cE (l : List St) (f t : Int) : Int := if validE l = 0 then (if spB f t then 0 else 2) else validE l
def insL (f t : Int) : List St := [(f, 1), (t, 0)]
def clipL (l : List St) (f t : Int) : List St := if cE l f t = 0 then (if f = t then [] else limL (combL fMul l (insL f t))) else []
def clipE (l : List St) (f t : Int) : Int := if cE l f t = 0 then (if f = t then 0 else limE (combL fMul l (insL f t))) else cE l f t
theorem cE_ok {l : List St} {f t : Int} (h : cE l f t = 0) : Ok l ∧ (0 ≤ f ∧ f ≤ t ∧ t ≤ 268435456) := by
  unfold cE at h
  by_cases e : validE l = 0
  · rw [if_pos e] at h
    refine ⟨(ok_iff l).1 e, ?_⟩
    unfold spB at h
    by_cases c : 0 ≤ f ∧ f ≤ t ∧ t ≤ 268435456
    · exact c
    · simp [c] at h
  · rw [if_neg e] at h; exact absurd h e
theorem fMul_00 : fMul 0 0 = 0 := rfl
theorem ins_asc {f t : Int} (h0 : 0 ≤ f) (h : f < t) : Asc (-1) (insL f t) := ⟨by show -1 < f; omega, h, trivial⟩
theorem ins_bd (f t : Int) : Bd 0 1 (insL f t) := fun s hs => by
  simp only [insL, List.mem_cons, List.not_mem_nil, or_false] at hs
  rcases hs with rfl | rfl
  · exact ⟨(by decide : (0 : Int) ≤ 1), (by decide : (1 : Int) ≤ 1)⟩
  · exact ⟨(by decide : (0 : Int) ≤ 0), (by decide : (0 : Int) ≤ 1)⟩
theorem ins_rd (W : World) (f t : Int) (T : TypeId) (b : Nat) (h : b = W.heap.size) : Rd (W.alloc (.cells #[.int .i64 f, .int .i64 1, .int .i64 t, .int .i64 0] T)) (.slice (some ⟨b, 0, none⟩) 2 2) (insL f t) := by
  subst h
  refine ⟨_, _, rfl, Nat.le_refl _, by unfold maxLen; omega, fun _ => ⟨_, 0, rfl, by simp, fun i hi => ?_⟩⟩
  match i, hi with
  | 0, _ => exact ⟨by rw [World.cell?_alloc_at _ _ _ _ rfl]; rfl, by rw [World.cell?_alloc_at _ _ _ _ rfl]; rfl⟩
  | 1, _ => exact ⟨by rw [World.cell?_alloc_at _ _ _ _ rfl]; rfl, by rw [World.cell?_alloc_at _ _ _ _ rfl]; rfl⟩

set_option maxHeartbeats 1600000 in
set_option maxRecDepth 1000000 in
theorem checked_any (v : Value) (l : List St) (f t : Int) (w : World) (hl : l.length ≤ 2000000) (hR : Rd w v l) :
    Calls Tryd.prog 28 #[v, .agg #[.int .i64 f, .int .i64 t]] w fun e w' => e = .returned (.int .i64 (cE l f t)) ∧ Below w.heap.size w w' := by
  have V := Lib.hid (valid_any v l (w.alloc (.cells #[.int .i64 f, .int .i64 t] 34)) hl (hR.below (b_new _ _)))
  have HB := Lib.hid (b_new w (.cells #[.int .i64 f, .int .i64 t] 34))
  by_cases e : validE l = 0
  · have hv : cE l f t = if spB f t then 0 else 2 := if_pos e
    have HV := Lib.hid hv
    rw [e] at V
    clear e hR hv
    go_enter Tryd.func28, Tryd.ntmps28
    go_wp2_with fail
    refine V.out.mono ?_
    rintro e w1 ⟨rfl, h1⟩
    obtain ⟨hc, hf⟩ := bcell h1
    have H1 := Lib.hid (b2 HB.out h1)
    clear h1
    by_cases c1 : f < 0
    · have S := Lib.hid (show spB f t = false by unfold spB; simp; omega)
      go_wp2_with fail
      go_ret
      exact ⟨ret_int (by rw [HV.out, S.out]; rfl), H1.out⟩
    · by_cases c2 : t < f
      · have S := Lib.hid (show spB f t = false by unfold spB; simp; omega)
        go_wp2_with fail
        go_ret
        exact ⟨ret_int (by rw [HV.out, S.out]; rfl), H1.out⟩
      · by_cases c3 : 268435456 < t
        · have S := Lib.hid (show spB f t = false by unfold spB; simp; omega)
          go_wp2_with fail
          go_ret
          exact ⟨ret_int (by rw [HV.out, S.out]; rfl), H1.out⟩
        · have S := Lib.hid (show spB f t = true by unfold spB; simp; omega)
          go_wp2_with fail
          go_ret
          exact ⟨ret_int (by rw [HV.out, S.out]; rfl), H1.out⟩
  · have hv : cE l f t = validE l := if_neg e
    obtain ⟨E, hE⟩ : ∃ E, validE l = E := ⟨_, rfl⟩
    rw [hE] at hv V e
    have he : (E == 0) = false := by simpa using e
    have HV := Lib.hid hv
    clear hv e hE hR
    go_enter Tryd.func28, Tryd.ntmps28
    go_wp2_with fail
    refine V.out.mono ?_
    rintro e w1 ⟨rfl, h1⟩
    go_wp2_with fail
    go_ret
    exact ⟨ret_int HV.out.symm, b2 HB.out h1⟩

end Go.Proofs.YtmapkiefmbgdoabDoor.S
namespace Go.Proofs.YtmapkiefmbgdoabDoor.S.Ser
set_option linter.unusedVariables false

/-! Moved in time. -/
def mvL (by_ : Int) (l : List St) : List St := l.map fun s => (s.1 + by_, s.2)
def mvB (by_ : Int) (s : St) : Bool := decide (0 ≤ s.1 + by_ ∧ s.1 + by_ ≤ 268435456)
def mvOk (by_ : Int) (l : List St) : Bool := l.all (mvB by_)
theorem mvL_take (b : Int) (l : List St) (k : Nat) (h : k < l.length) : mvL b (l.take (k + 1)) = mvL b (l.take k) ++ [((l[k]'h).1 + b, (l[k]'h).2)] := by
  unfold mvL; rw [List.take_succ_eq_append_getElem h, List.map_append]; rfl
theorem mvL_len (b : Int) (l : List St) : (mvL b l).length = l.length := by unfold mvL; simp
theorem mv_asc (b : Int) : ∀ (l : List St) (p : Int), Asc p l → Asc (p + b) (mvL b l)
  | [], _, _ => trivial
  | s :: l, p, ⟨h1, h2⟩ => ⟨by show p + b < s.1 + b; omega, mv_asc b l s.1 h2⟩
theorem mv_asc' (b q : Int) : ∀ (l : List St) (p : Int), Asc p l → (∀ s ∈ l, q < s.1 + b) → Asc q (mvL b l)
  | [], _, _, _ => trivial
  | s :: l, p, ⟨h1, h2⟩, h => ⟨h s List.mem_cons_self, mv_asc b l s.1 h2⟩
theorem mv_ok {b : Int} {l : List St} (h : Ok l) (hm : mvOk b l = true) : Ok (mvL b l) := by
  have hall : ∀ s ∈ l, 0 ≤ s.1 + b ∧ s.1 + b ≤ 268435456 := fun s hs => by
    have := List.all_eq_true.1 hm s hs
    unfold mvB at this
    simpa using this
  refine ⟨by rw [mvL_len]; exact h.len, fun s hs => ?_, mv_asc' b (-1) l (-1) h.asc fun s hs => by have := hall s hs; omega⟩
  obtain ⟨x, hx, rfl⟩ := List.mem_map.1 hs
  exact (okS_iff _).2 ⟨hall x hx, ((okS_iff x).1 (h.all x hx)).2⟩
theorem mv_at (b t : Int) : ∀ (l : List St) (v : Int), atFrom v t (mvL b l) = atFrom v (t - b) l
  | [], _ => rfl
  | s :: l, v => by
    show atFrom (if s.1 + b ≤ t then s.2 else v) t (mvL b l) = atFrom (if s.1 ≤ t - b then s.2 else v) (t - b) l
    rw [mv_at b t l]
    by_cases c : s.1 + b ≤ t
    · rw [if_pos c, if_pos (by omega)]
    · rw [if_neg c, if_neg (by omega)]

/-! Energies. -/
def nxT (l : List St) (t : Int) (i : Nat) : Int := if i + 1 < l.length then min t (l.getD (i + 1) (0, 0)).1 else t
def mn (l : List St) (f t : Int) (i : Nat) : Int := max 0 (nxT l t i - max f (l.getD i (0, 0)).1)
def hiS (l : List St) (f t : Int) : Nat → Int
  | 0 => 0
  | k + 1 => hiS l f t k + (l.getD k (0, 0)).2 / 1048576 * mn l f t k
def loS (l : List St) (f t : Int) : Nat → Int
  | 0 => 0
  | k + 1 => loS l f t k + (l.getD k (0, 0)).2 % 1048576 * mn l f t k
def enS (l : List St) (f t : Int) : Nat → Int
  | 0 => 0
  | k + 1 => enS l f t k + (l.getD k (0, 0)).2 * mn l f t k
theorem mn_bd (l : List St) (f t : Int) (i : Nat) (f0 : 0 ≤ f) (tm : t ≤ 268435456) : 0 ≤ mn l f t i ∧ mn l f t i ≤ 268435456 := by
  unfold mn nxT; split <;> omega
theorem hl_eq (l : List St) (f t : Int) : ∀ k, hiS l f t k * 1048576 + loS l f t k = enS l f t k
  | 0 => rfl
  | k + 1 => by
    have ih := hl_eq l f t k
    unfold hiS loS enS
    rw [← ih]
    have h := Int.emod_add_mul_ediv (l.getD k (0, 0)).2 1048576
    generalize (l.getD k (0, 0)).2 = v at *
    generalize mn l f t k = m at *
    have e : v * m = v / 1048576 * m * 1048576 + v % 1048576 * m := by
      have : v = v / 1048576 * 1048576 + v % 1048576 := by omega
      conv => lhs; rw [this]
      rw [Int.add_mul, Int.mul_right_comm]
    rw [e, Int.add_mul]; omega
theorem mul_bd (v m lo hi : Int) (m0 : 0 ≤ m) (m1 : m ≤ 268435456) (hv : lo ≤ v) (hv' : v ≤ hi) (h0 : lo ≤ 0) (h1 : 0 ≤ hi) : lo * 268435456 ≤ v * m ∧ v * m ≤ hi * 268435456 := by
  constructor
  · calc lo * 268435456 ≤ lo * m := Int.mul_le_mul_of_nonpos_left h0 m1
      _ ≤ v * m := Int.mul_le_mul_of_nonneg_right hv m0
  · calc v * m ≤ hi * m := Int.mul_le_mul_of_nonneg_right hv' m0
      _ ≤ hi * 268435456 := Int.mul_le_mul_of_nonneg_left m1 h1
theorem hl_bd (l : List St) (f t : Int) (f0 : 0 ≤ f) (tm : t ≤ 268435456) (hv : ∀ s ∈ l, okS s = true) : ∀ k, k ≤ l.length →
    (-(k : Int) * 281474976710656 ≤ hiS l f t k ∧ hiS l f t k ≤ (k : Int) * 281474976710656) ∧ 0 ≤ loS l f t k ∧ loS l f t k ≤ (k : Int) * 281474976710656
  | 0, _ => by unfold hiS loS; simp
  | k + 1, hk => by
    obtain ⟨⟨a1, a2⟩, a3, a4⟩ := hl_bd l f t f0 tm hv k (by omega)
    obtain ⟨m0, m1⟩ := mn_bd l f t k f0 tm
    have hs := ((okS_iff _).1 (hv (l[k]'(by omega)) (List.getElem_mem _))).2
    have e : l.getD k (0, 0) = l[k]'(by omega) := by simp [show k < l.length by omega]
    unfold hiS loS
    rw [e]
    generalize (l[k]'(by omega)).2 = v at *
    generalize mn l f t k = m at *
    have b1 := mul_bd (v / 1048576) m (-1048576) 1048576 m0 m1 (by omega) (by omega) (by omega) (by omega)
    have b2 := mul_bd (v % 1048576) m 0 1048576 m0 m1 (by omega) (by omega) (by omega) (by omega)
    refine ⟨⟨?_, ?_⟩, ?_, ?_⟩ <;> (push_cast; omega)
theorem enS_out {h lo : Int} (h0 : 0 ≤ lo) : ((h + lo / 1048576 < -8796093022208 ∨ 8796093022208 ≤ h + lo / 1048576) ↔ ¬ (-9223372036854775808 ≤ h * 1048576 + lo ∧ h * 1048576 + lo < 9223372036854775808)) ∧
    (h + lo / 1048576) * 1048576 + lo % 1048576 = h * 1048576 + lo := by
  refine ⟨?_, by omega⟩
  omega

/-- The same by the list. -/
def enR (f t : Int) : List St → Int
  | [] => 0
  | s :: l => s.2 * max 0 ((match l with | [] => t | u :: _ => min t u.1) - max f s.1) + enR f t l
theorem enR_drop (l : List St) (f t : Int) (k : Nat) (h : k < l.length) : enR f t (l.drop k) = (l.getD k (0, 0)).2 * mn l f t k + enR f t (l.drop (k + 1)) := by
  rw [List.drop_eq_getElem_cons h]
  show _ * max 0 ((match l.drop (k + 1) with | [] => t | u :: _ => min t u.1) - max f _) + _ = _
  have e : l.getD k (0, 0) = l[k] := by simp [h]
  have e2 : (match l.drop (k + 1) with | [] => t | u :: _ => min t u.1) = nxT l t k := by
    unfold nxT
    by_cases c : k + 1 < l.length
    · rw [List.drop_eq_getElem_cons c, if_pos c]
      have e : l.getD (k + 1) (0, 0) = l[k + 1] := by simp [c]
      rw [e]
    · rw [List.drop_eq_nil_of_le (by omega), if_neg c]
  rw [e2, e]; unfold mn; rw [e]
theorem enS_enR (l : List St) (f t : Int) : ∀ k, k ≤ l.length → enS l f t k + enR f t (l.drop k) = enR f t l
  | 0, _ => by show 0 + enR f t l = _; omega
  | k + 1, h => by
    rw [← enS_enR l f t k (by omega), enR_drop l f t k (by omega)]
    show enS l f t k + (l.getD k (0, 0)).2 * mn l f t k + _ = _
    omega
/-- One minute more. -/
theorem enR_succ (f t : Int) (hft : f ≤ t) : ∀ (l : List St) (p : Int), Asc p l → enR f (t + 1) l = enR f t l + atL l t
  | [], _, _ => rfl
  | [s], p, _ => by
    show s.2 * max 0 (t + 1 - max f s.1) + 0 = s.2 * max 0 (t - max f s.1) + 0 + (if s.1 ≤ t then s.2 else 0)
    by_cases c : s.1 ≤ t
    · rw [if_pos c, show max 0 (t + 1 - max f s.1) = max 0 (t - max f s.1) + 1 by omega, Int.mul_add]; omega
    · rw [if_neg c, show max 0 (t + 1 - max f s.1) = max 0 (t - max f s.1) by omega]; omega
  | s :: u :: l, p, ⟨h1, h2, h3⟩ => by
    have ih := enR_succ f t hft (u :: l) s.1 ⟨h2, h3⟩
    show s.2 * max 0 (min (t + 1) u.1 - max f s.1) + enR f (t + 1) (u :: l) = s.2 * max 0 (min t u.1 - max f s.1) + enR f t (u :: l) + atL (s :: u :: l) t
    rw [ih]
    by_cases c : u.1 ≤ t
    · have e : atL (s :: u :: l) t = atL (u :: l) t := by
        show atFrom (if u.1 ≤ t then u.2 else (if s.1 ≤ t then s.2 else 0)) t l = atFrom (if u.1 ≤ t then u.2 else 0) t l
        rw [if_pos c, if_pos c]
      rw [e, show min (t + 1) u.1 = min t u.1 by omega]; omega
    · have e0 : atL (u :: l) t = 0 := atFrom_none _ _ _ fun x hx => by
        rcases List.mem_cons.1 hx with rfl | hx
        · omega
        · have := h3.all x hx; omega
      have e : atL (s :: u :: l) t = if s.1 ≤ t then s.2 else 0 := atFrom_none t (u :: l) _ fun x hx => by
        rcases List.mem_cons.1 hx with rfl | hx
        · omega
        · have := h3.all x hx; omega
      rw [e, e0]
      by_cases d : s.1 ≤ t
      · rw [if_pos d, show max 0 (min (t + 1) u.1 - max f s.1) = max 0 (min t u.1 - max f s.1) + 1 by omega, Int.mul_add]; omega
      · rw [if_neg d, show max 0 (min (t + 1) u.1 - max f s.1) = max 0 (min t u.1 - max f s.1) by omega]; omega
theorem enR_zero (f t : Int) (h : t ≤ f) : ∀ l : List St, enR f t l = 0
  | [] => rfl
  | s :: l => by
    unfold enR
    rw [enR_zero f t h l]
    have : max 0 ((match l with | [] => t | u :: _ => min t u.1) - max f s.1) = 0 := by
      cases l with
      | nil => show max 0 (t - max f s.1) = 0; omega
      | cons u l => show max 0 (min t u.1 - max f s.1) = 0; omega
    rw [this]; simp
theorem enR_split (l : List St) (hl : Asc (-1) l) (f m : Int) (h1 : f ≤ m) : ∀ n : Nat, enR f (m + n) l = enR f m l + enR m (m + n) l
  | 0 => by rw [show m + ((0 : Nat) : Int) = m by omega, enR_zero m m (Int.le_refl _)]; omega
  | n + 1 => by
    have ih := enR_split l hl f m h1 n
    rw [show m + ((n + 1 : Nat) : Int) = m + n + 1 by omega, enR_succ f (m + n) (by omega) l _ hl, enR_succ m (m + n) (by omega) l _ hl, ih]; omega
theorem enR_add (a b c : List St) (ha : Asc (-1) a) (hb : Asc (-1) b) (hc : Asc (-1) c) (h : ∀ t, atL c t = atL a t + atL b t) (f : Int) : ∀ n : Nat, enR f (f + n) c = enR f (f + n) a + enR f (f + n) b
  | 0 => by rw [show f + ((0 : Nat) : Int) = f by omega, enR_zero, enR_zero, enR_zero] <;> omega
  | n + 1 => by
    have ih := enR_add a b c ha hb hc h f n
    rw [show f + ((n + 1 : Nat) : Int) = f + n + 1 by omega, enR_succ f _ (by omega) a _ ha, enR_succ f _ (by omega) b _ hb, enR_succ f _ (by omega) c _ hc, ih, h]; omega
end Go.Proofs.YtmapkiefmbgdoabDoor.S.Ser
namespace Go.Proofs.YtmapkiefmbgdoabDoor.S
open Go.RowKit
open Ser
set_option linter.unusedVariables false

theorem ins_at {f t : Int} (h : f < t) (t' : Int) : atL (insL f t) t' = if f ≤ t' ∧ t' < t then 1 else 0 := by
  show atFrom (if f ≤ t' then 1 else 0) t' [(t, 0)] = _
  show (if t ≤ t' then (0 : Int) else (if f ≤ t' then 1 else 0)) = _
  by_cases c : t ≤ t'
  · rw [if_pos c, if_neg (by omega)]
  · rw [if_neg c]
    by_cases e : f ≤ t'
    · rw [if_pos e, if_pos ⟨e, by omega⟩]
    · rw [if_neg e, if_neg (by omega)]
theorem clip_comb {l out : List St} {f t : Int} (ol : Ok l) (h0 : 0 ≤ f) (h : f < t) (hF : Fin (cutF l f t) out) : out = combL fMul l (insL f t) := by
  have hC := combL_fin fMul fMul_00 l (insL f t) ol.asc (ins_asc h0 h)
  refine hF.unique ⟨hC.asc, hC.nrm, fun t' => ?_⟩
  rw [hC.at_ t']
  show fMul (atL l t') (atL (insL f t) t') = cutF l f t t'
  rw [ins_at h]
  unfold cutF fMul
  by_cases c : f ≤ t' ∧ t' < t
  · rw [if_pos c, if_pos c, Int.mul_one]
  · rw [if_neg c, if_neg c, Int.mul_zero]

theorem keepS_draws {w W : World} {f t : Int} (h : Below w.heap.size w W ∧ w.heap.size + 1 ≤ W.heap.size ∧ W.cell? ⟨w.heap.size, 0, none⟩ = some (.int .i64 f) ∧ W.cell? ⟨w.heap.size, 1, none⟩ = some (.int .i64 t)) (n : Nat) : Below w.heap.size w (W.drewN n) ∧ w.heap.size + 1 ≤ (W.drewN n).heap.size ∧ (W.drewN n).cell? ⟨w.heap.size, 0, none⟩ = some (.int .i64 f) ∧ (W.drewN n).cell? ⟨w.heap.size, 1, none⟩ = some (.int .i64 t) := ⟨(dNb h.1 n), h.2.1, h.2.2⟩
theorem keepS_drew {w W : World} {f t : Int} (h : Below w.heap.size w W ∧ w.heap.size + 1 ≤ W.heap.size ∧ W.cell? ⟨w.heap.size, 0, none⟩ = some (.int .i64 f) ∧ W.cell? ⟨w.heap.size, 1, none⟩ = some (.int .i64 t)) : Below w.heap.size w W.drew ∧ w.heap.size + 1 ≤ W.drew.heap.size ∧ W.drew.cell? ⟨w.heap.size, 0, none⟩ = some (.int .i64 f) ∧ W.drew.cell? ⟨w.heap.size, 1, none⟩ = some (.int .i64 t) := ⟨h.1.drew, h.2.1, h.2.2⟩
theorem keepS_own {w W W' : World} {f t : Int} (h : Below w.heap.size w W ∧ w.heap.size + 1 ≤ W.heap.size ∧ W.cell? ⟨w.heap.size, 0, none⟩ = some (.int .i64 f) ∧ W.cell? ⟨w.heap.size, 1, none⟩ = some (.int .i64 t)) (g : Below (w.heap.size + 1) W W') : Below w.heap.size w W' ∧ w.heap.size + 1 ≤ W'.heap.size ∧ W'.cell? ⟨w.heap.size, 0, none⟩ = some (.int .i64 f) ∧ W'.cell? ⟨w.heap.size, 1, none⟩ = some (.int .i64 t) :=
  ⟨h.1.trans (g.mono (by omega)), Nat.le_trans h.2.1 g.size, by rw [g.cell (p := ⟨w.heap.size, 0, none⟩) (by show w.heap.size < w.heap.size + 1; omega)]; exact h.2.2.1, by rw [g.cell (p := ⟨w.heap.size, 1, none⟩) (by show w.heap.size < w.heap.size + 1; omega)]; exact h.2.2.2⟩
end Go.Proofs.YtmapkiefmbgdoabDoor.S
namespace Go.Proofs.YtmapkiefmbgdoabDoor.S
open Go.RowKit
open Ser
set_option linter.unusedVariables false

def shL (l : List St) (b : Int) : List St := if validE l = 0 then (if mvOk b l then nL 0 (mvL b l) else []) else []
def shE (l : List St) (b : Int) : Int := if validE l = 0 then (if mvOk b l then 0 else 2) else validE l
theorem mvOk_all {b : Int} {l : List St} (h : ∀ j (hj : j < l.length), mvB b (l[j]'hj) = true) : mvOk b l = true := by
  unfold mvOk
  rw [List.all_eq_true]
  intro s hs
  obtain ⟨i, hi, rfl⟩ := List.mem_iff_getElem.1 hs
  exact h i hi
theorem mvOk_not {b : Int} {l : List St} (j : Nat) (hj : j < l.length) (h : mvB b (l[j]'hj) = false) : mvOk b l = false := by
  unfold mvOk
  rw [List.all_eq_false]
  exact ⟨l[j], List.getElem_mem _, by simp [h]⟩

end Go.Proofs.YtmapkiefmbgdoabDoor.S
namespace Go.Proofs.YtmapkiefmbgdoabDoor.S
open Go.RowKit
open Ser
set_option linter.unusedVariables false

theorem and_mask (n : Int) : bits .and .i64 n 1048575 = n % 1048576 := by
  have h : (BitVec.ofInt 64 1048575).toNat = 2 ^ 20 - 1 := by decide
  have key : (BitVec.ofInt 64 n &&& BitVec.ofInt 64 1048575).toNat = (n % ((2 ^ 64 : Nat) : Int)).toNat % 2 ^ 20 := by
    rw [BitVec.toNat_and, BitVec.toNat_ofInt, h, Nat.and_two_pow_sub_one_eq_mod]
  show IntKind.i64.wrap ((BitVec.ofInt 64 n &&& BitVec.ofInt 64 1048575).toNat : Nat) = n % 1048576
  rw [key, IntKind.wrap_i64]
  omega
theorem w64 (x : Int) (h : -9223372036854775808 ≤ x) (h' : x ≤ 9223372036854775807) : wrap64 x = x := by unfold wrap64; omega
theorem dur1 (n1 t f x1 : Int) : (if (if f < x1 then x1 else f) < (if n1 < t then n1 else t) then (if n1 < t then n1 else t) - (if f < x1 then x1 else f) else 0) = max 0 (min t n1 - max f x1) := by
  have e1 : (if n1 < t then n1 else t) = min t n1 := by split <;> omega
  have e2 : (if f < x1 then x1 else f) = max f x1 := by split <;> omega
  rw [e1, e2]; split <;> omega
theorem dur2 (t f x1 : Int) : (if (if f < x1 then x1 else f) < t then t - (if f < x1 then x1 else f) else 0) = max 0 (t - max f x1) := by
  have e2 : (if f < x1 then x1 else f) = max f x1 := by split <;> omega
  rw [e2]; split <;> omega
theorem acc_hi (hi x2 D : Int) (h1 : -144115188075855872 ≤ hi) (h2 : hi ≤ 144115188075855872) (h3 : 0 ≤ D) (h4 : D ≤ 268435456) (h5 : -1099511627776 ≤ x2) (h6 : x2 ≤ 1099511627776) : wrap64 (hi + wrap64 (x2 / 1048576 * D)) = hi + x2 / 1048576 * D := by
  have := mul_bd (x2 / 1048576) D (-1048576) 1048576 h3 h4 (by omega) (by omega) (by omega) (by omega)
  generalize x2 / 1048576 * D = P at *
  rw [w64 P (by omega) (by omega), w64 _ (by omega) (by omega)]
theorem acc_lo (lo x2 D : Int) (h1 : 0 ≤ lo) (h2 : lo ≤ 144115188075855872) (h3 : 0 ≤ D) (h4 : D ≤ 268435456) : wrap64 (lo + wrap64 (bits .and .i64 x2 1048575 * D)) = lo + x2 % 1048576 * D := by
  rw [and_mask]
  have := mul_bd (x2 % 1048576) D 0 1048576 h3 h4 (by omega) (by omega) (by omega) (by omega)
  generalize x2 % 1048576 * D = P at *
  rw [w64 P (by omega) (by omega), w64 _ (by omega) (by omega)]
def fitB (E : Int) : Bool := decide (-9223372036854775808 ≤ E ∧ E < 9223372036854775808)
def enV (l : List St) (f t : Int) : Int := if cE l f t = 0 then (if fitB (enR f t l) then enR f t l else 0) else 0
def enE (l : List St) (f t : Int) : Int := if cE l f t = 0 then (if fitB (enR f t l) then 0 else 20) else cE l f t
theorem fit_low {h lo E : Int} (h0 : 0 ≤ lo) (e : h * 1048576 + lo = E) (c : h + lo / 1048576 < -8796093022208 ∨ 8796093022208 ≤ h + lo / 1048576) : fitB E = false := by
  unfold fitB
  have := (enS_out (h := h) h0).1.1 c
  rw [e] at this
  exact decide_eq_false this
theorem fit_in {h lo E : Int} (h0 : 0 ≤ lo) (e : h * 1048576 + lo = E) (c : -8796093022208 ≤ h + lo / 1048576) (c' : h + lo / 1048576 < 8796093022208) : fitB E = true ∧ (h + lo / 1048576) * 1048576 + lo % 1048576 = E := by
  have h2 := enS_out (h := h) h0
  refine ⟨?_, by rw [h2.2, e]⟩
  unfold fitB
  refine decide_eq_true ?_
  have := (not_congr h2.1).1 (by omega)
  rw [e] at this
  exact Decidable.not_not.1 this
theorem fit_bd {E : Int} (h : fitB E = true) : -9223372036854775808 ≤ E ∧ E ≤ 9223372036854775807 := by unfold fitB at h; simp at h; omega
theorem ret_ee {a b c d : Int} (h : a = b) (h' : c = d) : Ending.returned (.tuple #[.int .i64 a, .int .i64 c]) = .returned (.tuple #[.int .i64 b, .int .i64 d]) := by rw [h, h']

set_option maxHeartbeats 8000000 in
set_option maxRecDepth 1000000 in
theorem energy_some (b o c : Nat) (l : List St) (f t : Int) (w : World) (hl : l.length ≤ 2000000) (hne : l ≠ []) (hA : At w b o l) (hR : Rd w (.slice (some ⟨b, o, none⟩) l.length c) l) (ol : Ok l) (f0 : 0 ≤ f) (ft : f ≤ t) (tm : t ≤ 268435456) (hc : cE l f t = 0) :
    Calls Tryd.prog 10 #[.slice (some ⟨b, o, none⟩) l.length c, .agg #[.int .i64 f, .int .i64 t]] w fun e w' => e = .returned (.tuple #[.int .i64 (enV l f t), .int .i64 (enE l f t)]) ∧ Below w.heap.size w w' := by
  have V := Lib.hid (checked_any _ l f t (w.alloc (.cells #[.int .i64 f, .int .i64 t] 34)) hl (hR.below (b_new _ _)))
  have HB := Lib.hid (b_new w (.cells #[.int .i64 f, .int .i64 t] 34))
  have HA := Lib.hid hA
  have OL := Lib.hid ol
  have l1 := ol.len
  have HV := Lib.hid (show enV l f t = if fitB (enR f t l) then enR f t l else 0 from if_pos hc)
  have HE := Lib.hid (show enE l f t = if fitB (enR f t l) then 0 else 20 from if_pos hc)
  rw [hc] at V
  clear hR hA ol hc
  go_enter Tryd.func10, Tryd.ntmps10
  go_wp2_with fail
  refine V.out.mono ?_
  rintro e w1 ⟨rfl, h1⟩
  obtain ⟨hc1, hf1⟩ := bcell h1
  have H1 := Lib.hid (b2 HB.out h1)
  have hsz := h1.size
  simp at hsz
  have k0 : w1.cell? ⟨w.heap.size, 0, none⟩ = some (.int .i64 f) := by rw [hc1 _ _ (by simp)]; simp
  have k1 : w1.cell? ⟨w.heap.size, 1, none⟩ = some (.int .i64 t) := by rw [hc1 _ _ (by simp)]; simp
  clear h1 hc1 hf1
  go_wp2_with fail
  go_loopw [7, 8, 21] (fun h lo i wr => ∃ k : Nat, k ≤ l.length ∧ i = .int .i64 k ∧ h = .int .i64 (hiS l f t k) ∧ lo = .int .i64 (loS l f t k) ∧ Below w.heap.size w wr ∧ w.heap.size < wr.heap.size ∧ wr.cell? ⟨w.heap.size, 0, none⟩ = some (.int .i64 f) ∧ wr.cell? ⟨w.heap.size, 1, none⟩ = some (.int .i64 t))
    (fun _ _ i _ => l.length - (intOf i).toNat)
  case atStart => exact ⟨0, Nat.zero_le _, rfl, rfl, rfl, H1.out, hsz, k0, k1⟩
  case round =>
    clear k0 k1 hsz
    obtain ⟨k, hk, rfl, rfl, rfl, hb, hsz, k0, k1⟩ := hrel
    obtain ⟨⟨hb1, hb2⟩, hb3, hb4⟩ := hl_bd l f t f0 tm OL.out.all k hk
    have heq := hl_eq l f t k
    obtain ⟨hi, ehi⟩ : ∃ x, hiS l f t k = x := ⟨_, rfl⟩
    obtain ⟨lo, elo⟩ : ∃ x, loS l f t k = x := ⟨_, rfl⟩
    rw [ehi] at hb1 hb2 heq ⊢
    rw [elo] at hb3 hb4 heq ⊢
    by_cases hlt : k < l.length
    · obtain ⟨g1, g2⟩ := HA.out.get hb k hlt
      have hbd := (okS_iff _).1 (OL.out.all l[k] (List.getElem_mem _))
      have eg : l.getD k (0, 0) = l[k] := by simp [hlt]
      obtain ⟨x1, e1⟩ : ∃ x, l[k].1 = x := ⟨_, rfl⟩
      obtain ⟨x2, e2⟩ : ∃ x, l[k].2 = x := ⟨_, rfl⟩
      have HH : Hid (hiS l f t (k + 1) = hi + x2 / 1048576 * mn l f t k) := Lib.hid (by show hiS l f t k + _ = _; rw [ehi, eg, e2])
      have HL : Hid (loS l f t (k + 1) = lo + x2 % 1048576 * mn l f t k) := Lib.hid (by show loS l f t k + _ = _; rw [elo, eg, e2])
      have HM : Hid (mn l f t k = max 0 (nxT l t k - max f x1)) := Lib.hid (by unfold mn; rw [eg, e1])
      have md := mn_bd l f t k f0 tm
      rw [e1] at g1
      rw [e2] at g2
      rw [e1, e2] at hbd
      obtain ⟨⟨d1, d2⟩, d3, d4⟩ := hbd
      have hbn := hb.alloc (by have := hb.size; omega) (.cells #[.int .i64 x1, .int .i64 x2] 58)
      have hz3 : -144115188075855872 ≤ hi := by omega
      have hz4 : hi ≤ 144115188075855872 := by omega
      have hz5 : lo ≤ 144115188075855872 := by omega
      have q0 : (wr.alloc (.cells #[.int .i64 x1, .int .i64 x2] 58)).cell? ⟨w.heap.size, 0, none⟩ = some (.int .i64 f) := by rw [World.cell?_alloc_past _ _ _ hsz]; exact k0
      have q1 : (wr.alloc (.cells #[.int .i64 x1, .int .i64 x2] 58)).cell? ⟨w.heap.size, 1, none⟩ = some (.int .i64 t) := by rw [World.cell?_alloc_past _ _ _ hsz]; exact k1
      clear e1 e2 eg ehi elo heq hb1 hb2 hb4
      by_cases hn : k + 1 < l.length
      · obtain ⟨g3, _⟩ := HA.out.get hbn (k + 1) hn
        obtain ⟨n1, e3⟩ : ∃ x, l[k + 1].1 = x := ⟨_, rfl⟩
        have hbd := ((okS_iff _).1 (OL.out.all l[k + 1] (List.getElem_mem _))).1
        have HM2 : Hid (mn l f t k = max 0 (min t n1 - max f x1)) := Lib.hid (by rw [HM.out]; unfold nxT; rw [if_pos hn, show l.getD (k + 1) (0, 0) = l[k + 1] by simp [hn], e3])
        rw [e3] at g3 hbd
        obtain ⟨y1, y2⟩ := hbd
        clear e3
        go_wp2_with fail
        go_roundw
        case rel => exact ⟨k + 1, by omega, by go_num, by rw [dur1, ← HM2.out, acc_hi _ _ _ hz3 hz4 md.1 md.2 d3 d4, HH.out], by rw [dur1, ← HM2.out, acc_lo _ _ _ hb3 hz5 md.1 md.2, HL.out], hbn, by simp; omega, q0, q1⟩
        case measure => simp [intOf]; omega
      · have HM2 : Hid (mn l f t k = max 0 (t - max f x1)) := Lib.hid (by rw [HM.out]; unfold nxT; rw [if_neg hn])
        go_wp2_with fail
        go_roundw
        case rel => exact ⟨k + 1, by omega, by go_num, by rw [dur2, ← HM2.out, acc_hi _ _ _ hz3 hz4 md.1 md.2 d3 d4, HH.out], by rw [dur2, ← HM2.out, acc_lo _ _ _ hb3 hz5 md.1 md.2, HL.out], hbn, by simp; omega, q0, q1⟩
        case measure => simp [intOf]; omega
    · obtain rfl : k = l.length := by omega
      have hE := enS_enR l f t l.length (Nat.le_refl _)
      rw [List.drop_eq_nil_of_le (Nat.le_refl _)] at hE
      have heq2 : hi * 1048576 + lo = enR f t l := by rw [heq, ← hE]; show _ = _ + 0; omega
      have EQ := Lib.hid heq2
      have hz3 : -144115188075855872 ≤ hi := by omega
      have hz4 : hi ≤ 144115188075855872 := by omega
      have hz5 : lo ≤ 144115188075855872 := by omega
      clear ehi elo heq hE heq2 hb1 hb2 hb4
      by_cases c1 : hi + lo / 1048576 < -8796093022208
      · have F := Lib.hid (fit_low hb3 EQ.out (.inl c1))
        go_wp2_with fail
        go_ret2
        exact ⟨ret_ee (by rw [HV.out, F.out]; rfl) (by rw [HE.out, F.out]; rfl), hb⟩
      · by_cases c2 : 8796093022208 ≤ hi + lo / 1048576
        · have F := Lib.hid (fit_low hb3 EQ.out (.inr c2))
          go_wp2_with fail
          go_ret2
          exact ⟨ret_ee (by rw [HV.out, F.out]; rfl) (by rw [HE.out, F.out]; rfl), hb⟩
        · have F := Lib.hid (fit_in hb3 EQ.out (by omega) (by omega))
          go_wp2_with fail
          go_ret2
          exact ⟨ret_ee (by rw [HV.out, F.out.1, and_mask, F.out.2]; exact w64 _ (fit_bd F.out.1).1 (fit_bd F.out.1).2) (by rw [HE.out, F.out.1]; rfl), hb⟩

set_option maxHeartbeats 8000000 in
set_option maxRecDepth 1000000 in
theorem energy_nil (p : Option Addr) (c : Nat) (f t : Int) (w : World) (hR : Rd w (.slice p 0 c) []) (hc : cE [] f t = 0) :
    Calls Tryd.prog 10 #[.slice p 0 c, .agg #[.int .i64 f, .int .i64 t]] w fun e w' => e = .returned (.tuple #[.int .i64 (enV [] f t), .int .i64 (enE [] f t)]) ∧ Below w.heap.size w w' := by
  have V := Lib.hid (checked_any _ [] f t (w.alloc (.cells #[.int .i64 f, .int .i64 t] 34)) (Nat.zero_le _) (hR.below (b_new _ _)))
  have HB := Lib.hid (b_new w (.cells #[.int .i64 f, .int .i64 t] 34))
  have HV := Lib.hid (show enV [] f t = 0 by unfold enV; rw [if_pos hc]; rfl)
  have HE := Lib.hid (show enE [] f t = 0 by unfold enE; rw [if_pos hc]; rfl)
  rw [hc] at V
  clear hR hc
  go_enter Tryd.func10, Tryd.ntmps10
  go_wp2_with fail
  refine V.out.mono ?_
  rintro e w1 ⟨rfl, h1⟩
  have H1 := Lib.hid (b2 HB.out h1)
  clear h1
  go_wp2_with fail
  refine wp_loop_rounds 1 ?_
  rw [rounds_succ]
  go_wp2_with fail
  go_ret2
  exact ⟨ret_ee (by rw [HV.out, and_mask]; exact w64 0 (by decide) (by decide)) HE.out.symm, H1.out⟩

set_option maxHeartbeats 8000000 in
set_option maxRecDepth 1000000 in
theorem energy_bad (v : Value) (l : List St) (f t E : Int) (w : World) (hl : l.length ≤ 2000000) (hR : Rd w v l) (hE : cE l f t = E) (h0 : E ≠ 0) :
    Calls Tryd.prog 10 #[v, .agg #[.int .i64 f, .int .i64 t]] w fun e w' => e = .returned (.tuple #[.int .i64 0, .int .i64 E]) ∧ Below w.heap.size w w' := by
  have V := Lib.hid (checked_any _ l f t (w.alloc (.cells #[.int .i64 f, .int .i64 t] 34)) hl (hR.below (b_new _ _)))
  have HB := Lib.hid (b_new w (.cells #[.int .i64 f, .int .i64 t] 34))
  rw [hE] at V
  have he : (E == 0) = false := by simpa using h0
  clear hR h0 hE
  go_enter Tryd.func10, Tryd.ntmps10
  go_wp2_with fail
  refine V.out.mono ?_
  rintro e w1 ⟨rfl, h1⟩
  go_wp2_with fail
  go_ret2
  exact ⟨rfl, b2 HB.out h1⟩

theorem energy_any (v : Value) (l : List St) (f t : Int) (w : World) (hl : l.length ≤ 2000000) (hR : Rd w v l) :
    Calls Tryd.prog 10 #[v, .agg #[.int .i64 f, .int .i64 t]] w fun e w' => e = .returned (.tuple #[.int .i64 (enV l f t), .int .i64 (enE l f t)]) ∧ Below w.heap.size w w' := by
  by_cases e : cE l f t = 0
  · obtain ⟨ol, f0, ft, tm⟩ := cE_ok e
    have hR' := hR
    obtain ⟨p, c, rfl, h2, h3, h4⟩ := hR
    by_cases en : l = []
    · subst en; exact energy_nil p c f t w hR' e
    · obtain ⟨b, o, rfl, ha⟩ := h4 en; exact energy_some b o c l f t w hl en ha hR' ol f0 ft tm e
  · have h1 : enV l f t = 0 := if_neg e
    have h2 : enE l f t = cE l f t := if_neg e
    rw [h1, h2]
    exact energy_bad v l f t _ w hl hR rfl e
end Go.Proofs.YtmapkiefmbgdoabDoor.S
namespace Go.Proofs.YtmapkiefmbgdoabDoor.S
open Go.RowKit
open Ser
set_option linter.unusedVariables false

theorem acc_lo2 (lo x2 D : Int) (h1 : 0 ≤ lo) (h2 : lo ≤ 144115188075855872) (h3 : 0 ≤ D) (h4 : D ≤ 268435456) : wrap64 (lo + wrap64 ((x2 - x2 / 1048576 * 1048576) * D)) = lo + x2 % 1048576 * D := by
  rw [show x2 - x2 / 1048576 * 1048576 = x2 % 1048576 by omega]
  have := mul_bd (x2 % 1048576) D 0 1048576 h3 h4 (by omega) (by omega) (by omega) (by omega)
  generalize x2 % 1048576 * D = P at *
  rw [w64 P (by omega) (by omega), w64 _ (by omega) (by omega)]
theorem none1 {n1 t f x1 : Int} (h : (if n1 < t then n1 else t) ≤ if x1 < f then f else x1) : max 0 (min t n1 - max f x1) = 0 := by
  have e1 : (if n1 < t then n1 else t) = min t n1 := by split <;> omega
  have e2 : (if x1 < f then f else x1) = max f x1 := by split <;> omega
  rw [e1, e2] at h; omega
theorem some1 {n1 t f x1 : Int} (h : (if x1 < f then f else x1) < if n1 < t then n1 else t) : (if n1 < t then n1 else t) - (if x1 < f then f else x1) = max 0 (min t n1 - max f x1) := by
  have e1 : (if n1 < t then n1 else t) = min t n1 := by split <;> omega
  have e2 : (if x1 < f then f else x1) = max f x1 := by split <;> omega
  rw [e1, e2] at h ⊢; omega
theorem none2 {t f x1 : Int} (h : t ≤ if x1 < f then f else x1) : max 0 (t - max f x1) = 0 := by
  have e2 : (if x1 < f then f else x1) = max f x1 := by split <;> omega
  rw [e2] at h; omega
theorem some2 {t f x1 : Int} (h : (if x1 < f then f else x1) < t) : t - (if x1 < f then f else x1) = max 0 (t - max f x1) := by
  have e2 : (if x1 < f then f else x1) = max f x1 := by split <;> omega
  rw [e2] at h ⊢; omega

end Go.Proofs.YtmapkiefmbgdoabDoor.S
namespace Go.Proofs.YtmapkiefmbgdoabDoor.S
open Go.RowKit
open Ser
set_option linter.unusedVariables false

theorem eq_step (a b c d : Int) (w : World) : (Op.equalIn 10000 58 (.agg #[.int .i64 a, .int .i64 b]) (.agg #[.int .i64 c, .int .i64 d])).run Tryd.prog w = .ok (a == c && b == d) w := by
  have u3 := Tryd.underlying3
  have hS : Tryd.prog.underlying 58 = some (.struct (Tryd.prog.fieldsOf 58)) := by kernel_rfl
  have hp : Tryd.prog.stoodInHeld 58 = false := by kernel_rfl
  rw [show (10000 : Nat) = 9999 + 1 from rfl, run_equalIn_agg w 9999 58 _ _ hS hp]
  simp only [Program.fieldsOf, Tryd.underlying58]
  go_simp
  by_cases h1 : a = c <;> by_cases h2 : b = d <;> simp [h1, h2]
theorem guard_step (op : BinOp) (x y : Operand) (a b : Array Value) (w : World) : (eqGuard op 58 x y (.agg a) (.agg b)).run Tryd.prog w = .ok () w := by
  have h : Tryd.prog.eqGuardType Tryd.prog.depth 58 = false := by kernel_rfl
  unfold eqGuard
  cases op <;> simp [h] <;> rfl

theorem list_ne {l m : List St} (k : Nat) (h1 : k < l.length) (h2 : k < m.length) (h : l[k] ≠ m[k]) : decide (l = m) = false := by
  refine decide_eq_false fun e => h ?_
  subst e; rfl
/-- Is a series normal and valid. -/
def nrmB (w0 : Int) : List St → Bool
  | [] => true
  | s :: l => !(s.2 == w0) && nrmB s.2 l
theorem nrmB_iff : ∀ (l : List St) (w : Int), nrmB w l = true ↔ Nrm w l
  | [], _ => by simp [nrmB, Nrm]
  | s :: l, w => by unfold nrmB Nrm; simp [nrmB_iff l s.2]
theorem nrmB_drop (l : List St) (w : Int) (k : Nat) (h : k < l.length) : nrmB w (l.drop k) = (!(l[k].2 == w) && nrmB l[k].2 (l.drop (k + 1))) := by
  rw [List.drop_eq_getElem_cons h]; rfl
def normB (l : List St) : Bool := nrmB 0 l && (validE l == 0)
end Go.Proofs.YtmapkiefmbgdoabDoor.S
namespace Go.Proofs.YtmapkiefmbgdoabDoor.S
open Go.RowKit
open Ser
set_option linter.unusedVariables false

theorem built_rd (W : World) (l : List St) (C : Array Value) (T : TypeId) (n b : Nat) (hC : C = (stV l).toArray) (hn : n = l.length) (hm : n ≤ 1000) (hb : b = W.heap.size) : Rd (W.alloc (.cells C T)) (.slice (some ⟨b, 0, none⟩) n n) l := by
  subst hb hn hC
  refine ⟨_, _, rfl, Nat.le_refl _, by unfold maxLen; omega, fun _ => ⟨_, 0, rfl, by simp, fun i hi => ?_⟩⟩
  obtain ⟨h1, h2⟩ := stV_at l i hi
  rw [World.cell?_alloc_at _ _ _ _ rfl, World.cell?_alloc_at _ _ _ _ rfl]
  simp only [Nat.zero_add, List.getElem?_toArray]
  exact ⟨h1, h2⟩
def exL : List St := [(10, 5), (20, 0), (30, 7)]
def exB : List St := [(15, 1)]
theorem ex_len : exL.length ≤ 2000000 := by decide
theorem ex_lenB : exB.length ≤ 2000000 := by decide
theorem ex_add : addL exL exB = [(10, 5), (15, 6), (20, 1), (30, 8)] ∧ addE exL exB = 0 := by
  constructor <;> simp [addL, addE, bE, validE, exL, exB, vL, okS, combL, mergeV, cf, nL, inR, vB, limL, limE]
theorem ex_least : leastL exL exB = [(15, 1), (20, 0), (30, 1)] := by
  simp [leastL, bE, validE, exL, exB, vL, okS, combL, mergeV, cf, nL, limL, Int.min_def]
theorem ex_clip : clipL exL 12 31 = [(12, 5), (20, 0), (30, 7), (31, 0)] := by
  simp [clipL, cE, spB, validE, exL, vL, okS, combL, insL, mergeV, fMul, nL, limL]
theorem ex_shift : shL exL (-10) = [(0, 5), (10, 0), (20, 7)] := by
  simp [shL, validE, exL, vL, okS, mvOk, mvB, mvL, nL]
theorem ex_out : shE exL (-11) = 2 := by
  simp [shE, validE, exL, vL, okS, mvOk, mvB]
theorem ex_en : enV exL 12 32 = 54 := by
  simp [enV, cE, spB, validE, exL, vL, okS, enR, fitB, Int.min_def, Int.max_def]
theorem ex_over : enE [(0, 1099511627776)] 0 8388608 = 20 := by
  simp [enE, cE, spB, validE, vL, okS, enR, fitB, Int.max_def]
theorem ex_bad : validE [(5, 1), (5, 2)] = 1 := by
  simp [validE, vL, okS]
theorem ex_asc : Asc (-1) exL := by simp [Asc, exL]
theorem ex_at : atL exL 9 = 0 ∧ atL exL 10 = 5 ∧ atL exL 25 = 0 ∧ atL exL 100 = 7 := by
  simp [atL, atFrom, exL]

end Go.Proofs.YtmapkiefmbgdoabDoor.S
