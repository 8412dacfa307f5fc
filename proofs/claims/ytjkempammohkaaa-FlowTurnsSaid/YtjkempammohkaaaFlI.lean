/-
  Six lists that are made in one statement, in whatever order.
-/
import Derived.Test.YtjkempammohkaaaFlD
import Derived.Deep.RegionHeld3
import Derived.OrdersHeld
namespace Go.Proofs.Ytjkempammohkaaa
open Go.RowKit
open IntWalk
set_option linter.unusedVariables false

/-- A table turned at one place. -/
def at_ {α : Type} (f : Nat → α) (k : Nat) (x : α) : Nat → α := fun i => if i = k then x else f i
/-- How many of six are still to come. -/
def cf (d : Nat → Bool) : Nat := (if d 0 then 0 else 1) + (if d 1 then 0 else 1) + (if d 2 then 0 else 1) + (if d 3 then 0 else 1) + (if d 4 then 0 else 1) + (if d 5 then 0 else 1)
theorem six {p : Nat → Prop} (h0 : p 0) (h1 : p 1) (h2 : p 2) (h3 : p 3) (h4 : p 4) (h5 : p 5) : ∀ i, i < 6 → p i := by
  intro i hi
  rcases (by omega : i = 0 ∨ i = 1 ∨ i = 2 ∨ i = 3 ∨ i = 4 ∨ i = 5) with rfl | rfl | rfl | rfl | rfl | rfl <;> assumption
theorem cf_step (d : Nat → Bool) : ∀ i, i < 6 → d i = false → cf (at_ d i true) + 1 = cf d := by
  refine six ?_ ?_ ?_ ?_ ?_ ?_ <;> (intro h; simp [cf, at_, h]; try omega)
theorem cf_zero {d : Nat → Bool} (h : cf d = 0) : ∀ i, i < 6 → d i = true := by
  unfold cf at h
  refine six ?_ ?_ ?_ ?_ ?_ ?_ <;> (refine Classical.byContradiction fun c => ?_; simp [c] at h)
theorem cf_pos {d : Nat → Bool} {k : Nat} (h : cf d = k + 1) : ∃ i, i < 6 ∧ d i = false := by
  refine Classical.byContradiction fun c => ?_
  have all : ∀ i, i < 6 → d i = true := fun i hi => by
    cases e : d i
    · exact absurd ⟨i, hi, e⟩ c
    · rfl
  unfold cf at h
  simp [all 0 (by omega), all 1 (by omega), all 2 (by omega), all 3 (by omega), all 4 (by omega), all 5 (by omega)] at h

section
variable {P : Program} {ops : Array Oper} {Q : Exit → Act → World → Prop} {S : World → Prop}
theorem wpOp_make {i : Nat} {o : Oper} {a : Act} {w w' : World} {K : Act → World → Prop} {T : TypeId} {x : Operand} {n : Nat} {v : Value} (hi : ops[i]? = some o) (hgd : o.guard = none) (ho : o.op = .makeSlice T x x) (hx : a.eval x = .int .i64 (n : Int))
    (hr : (Instr.makeSlice T (.int .i64 (n : Int)) (.int .i64 (n : Int))).run P w = .ok v w') (h : K (a.put o.dst v) w') : wpOp P ops Q i K a w := by
  have hw : Region.wanted o (yielded ops a.tmps) = true := by simp [Region.wanted, hgd]
  unfold wpOp
  simp only [hi, hw, if_true]
  refine .inl ?_
  unfold Oper.wp execOp
  simp only [ho, hx, Sem.run_bind, Sem.run_pure, Result.andThen_ok, hr]
  exact h
theorem wpAnyH_takeD {md : Region.Mode} {i : Nat} {oi : Oper} {d : Option Tmp} {v : Value} {fuel : Nat} {listed : Array Bool} {a : Act} {w : World} (hi : ops[i]? = some oi) (hd : oi.dst = d)
    (hs : Region.noSelect ops = true) (hf : Region.free md ops listed i = true) (hr : (Region.ready md ops listed).contains i = true)
    (hQ : ∀ c a w, Q (.panic c) (a.put oi.dst v) w → Q (.panic c) a w) (hy : YieldsIf P ops S oi v a) (hS : S w)
    (h : wpAnyH P md ops Q S fuel (listed.setIfInBounds i true) (a.put d v) w) : wpAnyH P md ops Q S (fuel + 1) listed a w := by
  subst hd
  exact wpAnyH_take hi hs hf hr hQ hy hS h
theorem makes6 (T E : TypeId) (idx : Nat → Nat) (F : (Nat → Value) → Act) (L : (Nat → Bool) → Array Bool) (n : Nat → Nat) (fuel : Nat)
    (hop : ∀ i, i < 6 → ∃ oi, ops[idx i]? = some oi ∧ oi.guard = none ∧ ∃ x, oi.op = .makeSlice T x x ∧ (∀ f, (F f).eval x = .int .i64 (n i : Int)) ∧ ∀ f v, (F f).put oi.dst v = F (at_ f i v))
    (hL : ∀ i, i < 6 → ∀ d, (L d).setIfInBounds (idx i) true = L (at_ d i true))
    (hFc : ∀ f f', (∀ i, i < 6 → f i = f' i) → F f = F f') (hLc : ∀ d d', (∀ i, i < 6 → d i = d' i) → L d = L d')
    (hrd : ∀ d, (∃ i, i < 6 ∧ d i = false) → ∃ rs, Region.ready .any ops (L d) = rs ∧ rs ≠ [] ∧ ∀ j, j ∈ rs → ∃ i, i < 6 ∧ d i = false ∧ j = idx i)
    (hmk : ∀ i, i < 6 → ∀ w, (Instr.makeSlice T (.int .i64 (n i : Int)) (.int .i64 (n i : Int))).run P w = .ok (.slice (some ⟨w.heap.size, 0, none⟩) (n i) (n i)) (w.alloc (.cells (Array.replicate (n i) (.int .i64 0)) E)))
    (hS : ∀ w ob, S w → S (w.alloc ob)) (w0 : World) {fu : Nat} {listed : Array Bool} {a : Act} (e1 : fu = fuel + 6) (e2 : listed = L fun _ => false) (e3 : a = F fun _ => undef)
    (fin : ∀ (b : Nat → Nat) (w : World), (∀ i, i < 6 → w0.heap.size ≤ b i ∧ w.rowIs (b i) E (n i) (fun _ => .int .i64 0)) → (∀ i j, i < 6 → j < 6 → i ≠ j → b i ≠ b j) → Below w0.heap.size w0 w → S w →
      wpAnyH P .any ops Q S fuel (L fun _ => true) (F fun i => .slice (some ⟨b i, 0, none⟩) (n i) (n i)) w) (h0 : S w0) :
    wpAnyH P .any ops Q S fu listed a w0 := by
  subst e1; subst e2; subst e3
  have key : ∀ k (d : Nat → Bool) (b : Nat → Nat) (w : World), cf d = k → (∀ i, i < 6 → d i = true → w0.heap.size ≤ b i ∧ w.rowIs (b i) E (n i) (fun _ => .int .i64 0)) → (∀ i j, i < 6 → j < 6 → d i = true → d j = true → i ≠ j → b i ≠ b j) →
      Below w0.heap.size w0 w → S w → wpAnyH P .any ops Q S (fuel + k) (L d) (F fun i => if d i then .slice (some ⟨b i, 0, none⟩) (n i) (n i) else undef) w := by
    intro k
    induction k with
    | zero =>
      intro d b w hc h1 h2 h3 h4
      have all := cf_zero hc
      rw [hLc d (fun _ => true) all, hFc _ (fun i => .slice (some ⟨b i, 0, none⟩) (n i) (n i)) fun i hi => by rw [all i hi]; rfl]
      exact fin b w (fun i hi => h1 i hi (all i hi)) (fun i j hi hj => h2 i j hi hj (all i hi) (all j hj)) h3 h4
    | succ k ih =>
      intro d b w hc h1 h2 h3 h4
      obtain ⟨rs, hr, hne, hm⟩ := hrd d (cf_pos hc)
      refine wpAnyH_all hr hne fun j hj => ?_
      obtain ⟨i, hi, hd, rfl⟩ := hm j hj
      obtain ⟨oi, p1, p2, x, p3, p4, hput⟩ := hop i hi
      refine wpOp_make p1 p2 p3 (p4 _) (hmk i hi w) ⟨hS _ _ h4, ?_⟩
      rw [hput, hL i hi]
      have z := h3.size
      have e := ih (at_ d i true) (at_ b i w.heap.size) (w.alloc (.cells (Array.replicate (n i) (.int .i64 0)) E)) (by have := cf_step d i hi hd; omega) (fun j hj6 hdj => ?_) (fun j l hj6 hl6 hdj hdl hne => ?_) (h3.alloc z _) (hS _ _ h4)
      · rw [hFc (at_ (fun i => if d i then .slice (some ⟨b i, 0, none⟩) (n i) (n i) else undef) i (.slice (some ⟨w.heap.size, 0, none⟩) (n i) (n i))) (fun j => if at_ d i true j then .slice (some ⟨at_ b i w.heap.size j, 0, none⟩) (n j) (n j) else undef) fun j hj => by
          unfold at_
          by_cases c : j = i
          · subst c; simp
          · simp [c]]
        exact e
      · unfold at_ at hdj ⊢
        by_cases c : j = i
        · subst c
          rw [if_pos rfl]
          refine ⟨z, ?_⟩
          have := World.rowIs_alloc w (Array.replicate (n j) (.int .i64 0)) E (fun _ => .int .i64 0) (fun q hq => by
            have hq' : q < n j := by simpa using hq
            simp [hq'])
          simpa using this
        · rw [if_neg c] at hdj ⊢
          obtain ⟨a1, a2⟩ := h1 j hj6 hdj
          exact ⟨a1, a2.alloc _⟩
      · unfold at_ at hdj hdl ⊢
        by_cases c : j = i
        · subst c
          rw [if_pos rfl, if_neg (Ne.symm hne)]
          rw [if_neg (Ne.symm hne)] at hdl
          have := (h1 l hl6 hdl).2.lt
          omega
        · by_cases c2 : l = i
          · subst c2
            rw [if_pos rfl, if_neg hne]
            rw [if_neg hne] at hdj
            have := (h1 j hj6 hdj).2.lt
            omega
          · rw [if_neg c, if_neg c2]
            rw [if_neg c] at hdj
            rw [if_neg c2] at hdl
            exact h2 j l hj6 hl6 hdj hdl hne
  exact key 6 (fun _ => false) (fun _ => 0) w0 rfl (fun i _ h => absurd h (by decide)) (fun i j _ _ h => absurd h (by decide)) (Below.refl _ _) h0
end
end Go.Proofs.Ytjkempammohkaaa
