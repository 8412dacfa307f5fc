/-
  How a series of steps lies in memory, and what becomes of it when memory grows.
-/
import Derived.Test.YtapfinnbfnhdbabRows
import Derived.Test.YtapfinnbfnhdbabSerA
import Derived.WalkKit
import Derived.WalkSpells
import Derived.WalkLawsBesides
import Derived.Lib.Hide
import Derived.Below
import Derived.BigQuiet
import Derived.Deep.QuietTactic
import Derived.Laws.AppendOwn
namespace Go.Proofs.Ytapfinnbfnhdbab
open Go.RowKit
open Ser
set_option linter.unusedVariables false

theorem ret_int {k : IntKind} {a b : Int} (h : a = b) : Ending.returned (.int k a) = .returned (.int k b) := by rw [h]
theorem ret_bool {a b : Bool} (h : a = b) : Ending.returned (.bool a) = .returned (.bool b) := by rw [h]
theorem bcell {W w1 : World} (hb : Below W.heap.size W w1) : (∀ b o, b < W.heap.size → w1.cell? ⟨b, o, none⟩ = W.cell? ⟨b, o, none⟩) ∧ (∀ b o, b < W.heap.size → w1.frozen? ⟨b, o, none⟩ = W.frozen? ⟨b, o, none⟩) :=
  ⟨fun b o h => hb.cell (p := ⟨b, o, none⟩) h, fun b o h => hb.frozen (p := ⟨b, o, none⟩) h⟩
theorem b2 {W w1 w2 : World} (h1 : Below W.heap.size W w1) (h2 : Below w1.heap.size w1 w2) : Below W.heap.size W w2 := h1.trans (h2.mono h1.size)
theorem b_new (W : World) (o : Obj) : Below W.heap.size W (W.alloc o) := (Below.refl _ _).alloc (Nat.le_refl _) _

theorem dNb {B : Nat} {a w : World} (h : Below B a w) (n : Nat) : Below B a (w.drewN n) := ⟨h.os, h.tape, h.output, h.size, h.block⟩

/-- The cells of a list of steps. -/
def stV (l : List St) : List Value := l.flatMap fun s => [.int .i64 s.1, .int .i64 s.2]
theorem stV_len : ∀ l : List St, (stV l).length = l.length * 2
  | [] => rfl
  | s :: l => by show ([_, _] ++ stV l).length = _; rw [List.length_append, stV_len l]; simp; omega
theorem stV_snoc (l : List St) (s : St) : stV (l ++ [s]) = stV l ++ [.int .i64 s.1, .int .i64 s.2] := by
  unfold stV; rw [List.flatMap_append]; rfl
theorem stV_at : ∀ (l : List St) (i : Nat) (h : i < l.length), (stV l)[i * 2]? = some (.int .i64 (l[i]'h).1) ∧ (stV l)[i * 2 + 1]? = some (.int .i64 (l[i]'h).2)
  | s :: l, 0, _ => ⟨rfl, rfl⟩
  | s :: l, i + 1, h => by
    have := stV_at l i (by simpa using h)
    have e : stV (s :: l) = [.int .i64 s.1, .int .i64 s.2] ++ stV l := rfl
    rw [e, List.getElem?_append_right (by simp; omega), List.getElem?_append_right (by simp; omega)]
    have e1 : (i + 1) * 2 - ([Value.int .i64 s.1, .int .i64 s.2] : List Value).length = i * 2 := by simp; omega
    have e2 : (i + 1) * 2 + 1 - ([Value.int .i64 s.1, .int .i64 s.2] : List Value).length = i * 2 + 1 := by simp; omega
    rw [e1, e2]
    exact this

/-- The cells of a place read as a list of steps. -/
def At (w : World) (b o : Nat) (l : List St) : Prop :=
  b < w.heap.size ∧ ∀ i (h : i < l.length), w.cell? ⟨b, o + i * 2, none⟩ = some (.int .i64 (l[i]'h).1) ∧ w.cell? ⟨b, o + i * 2 + 1, none⟩ = some (.int .i64 (l[i]'h).2)
/-- A value reads as a list of steps. -/
def Rd (w : World) (v : Value) (l : List St) : Prop :=
  ∃ (p : Option Addr) (c : Nat), v = .slice p l.length c ∧ l.length ≤ c ∧ c ≤ maxLen ∧ (l ≠ [] → ∃ b o, p = some ⟨b, o, none⟩ ∧ At w b o l)
theorem At.below {w w' : World} {b o : Nat} {l : List St} (h : At w b o l) (hb : Below w.heap.size w w') : At w' b o l :=
  ⟨Nat.lt_of_lt_of_le h.1 hb.size, fun i hi => by rw [(bcell hb).1 _ _ h.1, (bcell hb).1 _ _ h.1]; exact h.2 i hi⟩
theorem Rd.below {w w' : World} {v : Value} {l : List St} (h : Rd w v l) (hb : Below w.heap.size w w') : Rd w' v l := by
  obtain ⟨p, c, h1, h2, h3, h4⟩ := h
  exact ⟨p, c, h1, h2, h3, fun hl => by obtain ⟨b, o, e, ha⟩ := h4 hl; exact ⟨b, o, e, ha.below hb⟩⟩
theorem Rd.nil (w : World) : Rd w (.slice none 0 0) [] := ⟨none, 0, rfl, Nat.le_refl _, Nat.zero_le _, fun h => absurd rfl h⟩
theorem Rd.own {w : World} {B : Nat} {v : Value} {l : List St} (h : w.ownsRow B 30 2 v l.length (stV l)) : Rd w v l := by
  rcases h.2 with ⟨rfl, h0⟩ | ⟨g, cap, cur, rfl, hb, hg, hn, hm, hs, hx⟩
  · have : l = [] := List.length_eq_zero_iff.1 h0
    subst this
    exact Rd.nil w
  · refine ⟨_, _, rfl, hn, hm, fun _ => ⟨g, 0, rfl, (Array.getElem?_eq_some_iff.1 hg).1, fun i hi => ?_⟩⟩
    have hc := h.cells (g := g) rfl
    obtain ⟨e1, e2⟩ := stV_at l i hi
    have c1 := hc _ _ e1
    have c2 := hc _ _ e2
    rw [Addr.add_lit] at c1 c2
    exact ⟨c1, c2⟩
theorem info_step : (Try.prog.info? 30).map (fun i => (i.zero, i.size, i.bytes)) = some (some (.agg #[.int .i64 0, .int .i64 0]), 2, 16) := by kernel_rfl
theorem take_snoc (l : List St) (k : Nat) (h : k < l.length) : l.take (k + 1) = l.take k ++ [l[k]] := by
  rw [List.take_succ_eq_append_getElem h]
theorem At.get {w wr : World} {b o : Nat} {l : List St} (h : At w b o l) (hb : Below w.heap.size w wr) (k : Nat) (hk : k < l.length) :
    wr.cell? ⟨b, o + k * 2, none⟩ = some (.int .i64 (l[k]'hk).1) ∧ wr.cell? ⟨b, o + k * 2 + 1, none⟩ = some (.int .i64 (l[k]'hk).2) := (h.below hb).2 k hk
theorem news_at (W : World) (x y : Int) (T : TypeId) (b : Nat) (h : b = W.heap.size) : ∀ (j : Nat) (u : Value), ([.int .i64 x, .int .i64 y] : List Value)[j]? = some u → (W.alloc (.cells #[.int .i64 x, .int .i64 y] T)).cell? ((⟨b, 0, none⟩ : Addr).add j) = some u := by
  intro j u hj
  subst h
  rw [Addr.add_lit, World.cell?_alloc_at _ _ _ _ rfl]
  match j, hj with
  | 0, hj => simpa using hj
  | 1, hj => simpa using hj
theorem news_one (x y : Int) : ∀ u ∈ ([.int .i64 x, .int .i64 y] : List Value), u.oneCell' = true := by
  intro u hu; simp at hu; rcases hu with rfl | rfl <;> rfl
/-- A box of two, behind what was appended beside it. -/
theorem box_app {wr w1 : World} {B n : Nat} {T : TypeId} {v : Value} {xs : List Value} {x y : Value} {o' : Obj} (hown : wr.ownsRow B 30 2 v n xs)
    (hg : ((wr.alloc (.cells #[x, y] T)).alloc o').grownBy w1 v.ownBlock) : w1.cell? ⟨wr.heap.size, 0, none⟩ = some x ∧ w1.cell? ⟨wr.heap.size, 1, none⟩ = some y := by
  have hne : some wr.heap.size ≠ v.ownBlock := fun h => by have := (hown.lt _ h.symm).2; omega
  refine ⟨hg.cell ?_ hne, hg.cell ?_ hne⟩
  · rw [World.cell?_alloc_past _ _ _ (by simp), World.cell?_alloc_at _ _ _ _ rfl]; rfl
  · rw [World.cell?_alloc_past _ _ _ (by simp), World.cell?_alloc_at _ _ _ _ rfl]; rfl
/-- What is appended to a list of steps that one owns. -/
theorem own_app {w wr w1 : World} {B : Nat} {v v' : Value} {l : List St} {x y : Int} {o o' : Obj} (hB : B ≤ w.heap.size) (hown : wr.ownsRow B 30 2 v l.length (stV l)) (hb : Below B w wr)
    (h' : w1.ownsRow B 30 2 v' (l.length + 1) (stV l ++ [.int .i64 x, .int .i64 y])) (hg : ((wr.alloc o).alloc o').grownBy w1 v.ownBlock) :
    w1.ownsRow B 30 2 v' (l ++ [(x, y)]).length (stV (l ++ [(x, y)])) ∧ Below B w w1 := by
  refine ⟨by rw [stV_snoc, List.length_append]; exact h', ?_⟩
  have h1 := hb.alloc (by have := hb.size; omega) o
  have h2 := h1.alloc (by have := h1.size; omega) o'
  exact h2.grown hg (by have := hb.size; simp; omega) (fun j hj => by have := (hown.lt j hj).1; omega)
theorem own_app1 {w wr w1 : World} {B : Nat} {v v' : Value} {l : List St} {x y : Int} {o : Obj} (hB : B ≤ w.heap.size) (hown : wr.ownsRow B 30 2 v l.length (stV l)) (hb : Below B w wr)
    (h' : w1.ownsRow B 30 2 v' (l.length + 1) (stV l ++ [.int .i64 x, .int .i64 y])) (hg : (wr.alloc o).grownBy w1 v.ownBlock) :
    w1.ownsRow B 30 2 v' (l ++ [(x, y)]).length (stV (l ++ [(x, y)])) ∧ Below B w w1 := by
  refine ⟨by rw [stV_snoc, List.length_append]; exact h', ?_⟩
  have h1 := hb.alloc (by have := hb.size; omega) o
  exact h1.grown hg (by have := hb.size; simp; omega) (fun j hj => by have := (hown.lt j hj).1; omega)
end Go.Proofs.Ytapfinnbfnhdbab
