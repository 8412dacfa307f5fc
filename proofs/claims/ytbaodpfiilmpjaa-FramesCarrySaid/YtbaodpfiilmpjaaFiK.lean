/-
  TakeList.
-/
import Derived.Test.YtbaodpfiilmpjaaFiJ
namespace Go.Proofs.Ytbaodpfiilmpjaa
open Go.RowKit
open IntWalk
set_option linter.unusedVariables false

def lstN : Nat → List (List UInt8) → List UInt8 → Except Int (List (List UInt8) × List UInt8)
  | 0, acc, l => .ok (acc, l)
  | n + 1, acc, l => match readD l with
    | .error k => .error k
    | .ok (d, r) => lstN n (acc ++ [d]) r
def lstA (l : List UInt8) : Except Int (List (List UInt8) × List UInt8) :=
  match readI l with
  | .error k => .error k
  | .ok (n, r) => if n < 0 then .error 5 else if 256 < n then .error 3 else lstN n.toNat [] r
/-- What TakeList returns. -/
def lstR (l : List UInt8) : Except Int (List (List UInt8)) :=
  match lstA l with
  | .error k => .error k
  | .ok (ls, r) => if r = [] then .ok ls else .error 5
theorem lstN_err (n : Nat) (acc : List (List UInt8)) (l : List UInt8) (k : Int) (h : readD l = .error k) : lstN (n + 1) acc l = .error k := by rw [lstN, h]
theorem lstN_ok (n : Nat) (acc : List (List UInt8)) (l d r : List UInt8) (h : readD l = .ok (d, r)) : lstN (n + 1) acc l = lstN n (acc ++ [d]) r := by rw [lstN, h]
theorem news_1 (W : World) (x : Value) (T : TypeId) : ∀ (j : Nat) (u : Value), ([x] : List Value)[j]? = some u → (W.alloc (.cells #[x] T)).cell? ((⟨W.heap.size, 0, none⟩ : Addr).add j) = some u := by
  intro j u hj
  rw [Addr.add_lit, World.cell?_alloc_at _ _ _ _ rfl]
  match j, hj with
  | 0, hj => simpa using hj
theorem wp_app1 {w : World} {ops : Array Oper} {rest : List Oper} {o : Oper} {a : Act} {Q : Exit → Act → World → Prop} (hgd : o.guard = none) (s x : Operand)
    (ho : o.op = .call { callee := .builtin .append, args := #[s, x], argTypes := #[22, 22] }) (base : Nat) (v u : Value) (ls : List (List UInt8)) (d : List UInt8) (hs : a.eval s = v) (hx : a.eval x = .slice (some ⟨w.heap.size, 0, none⟩) 1 1)
    (hv : OwnP w base v ls) (hu : Fr w base u d) (hxl : ls.length ≤ 100000)
    (h : ∀ v' w', OwnP w' base v' (ls ++ [d]) → Below base w w' → wpList Try.prog ops Q rest (a.put o.dst v') w') : wpList Try.prog ops Q (o :: rest) a (w.alloc (.cells #[u] 23)) := by
  obtain ⟨i0, hi, hz0, hz1, hz2⟩ := info_parts Try.sliceInfo
  obtain ⟨vs, hr, hl, hbs, h1c, hf⟩ := hv
  refine wpList_append_own _ hgd s x 22 ho base 23 i0 (.slice none 0 0) 1 24 Try.underlying22 hi hz0 hz1 hz2 rfl (by decide) v vs.length vs hs (hr.alloc _) ⟨w.heap.size, 0, none⟩ 1 1 [u] hx rfl (news_1 w _ _) ?_ ?_ ?_ (le_alloc hbs _) ?_
  · intro z hz
    simp only [List.mem_cons, List.mem_nil_iff, or_false] at hz
    subst hz
    exact fr_one hu
  · unfold maxLen; omega
  · omega
  · intro v' w' h1 h2 _
    have := OwnP.more hr hl hbs h1c hf hu h1 h2
    exact h v' w' this.1 this.2
/-- How the reader of a list ends. -/
def LstG (g B : Nat) (w : World) (r : Except Int (List (List UInt8) × List UInt8)) (e : Ending) (w' : World) : Prop :=
  (∃ k, r = .error k ∧ e = .panicked [{ v := errV k, recovered := false }] ∧ Only g w w') ∨
  (∃ ls t u v', r = .ok (ls, t) ∧ e = .returned u ∧ OwnP w' w.heap.size u ls ∧ Only g w w' ∧ w'.cell? ⟨g, 0, none⟩ = some v' ∧ RdB w' v' t ∧ blk v' B)

end Go.Proofs.Ytbaodpfiilmpjaa
