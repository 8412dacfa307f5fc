/-
  Rows that grow side by side: bytes, and slices of bytes that were made since.
-/
import Derived.Test.YteancehdiliepaaFrQ
namespace Go.Proofs.Yteancehdiliepaa
open Go.RowKit
open IntWalk
set_option linter.unusedVariables false

/-- A slice does not lie in this block. -/
def Off (X : Option Nat) (v : Value) (l : List UInt8) : Prop := l ≠ [] → v.ownBlock ≠ X
/-- A row of the call's own, of slices that were made since and lie in other blocks. -/
def OwnQ (w : World) (base : Nat) (X : Option Nat) (v : Value) (ls : List (List UInt8)) : Prop :=
  ∃ vs : List Value, w.ownsRow base 22 1 v vs.length vs ∧ vs.length = ls.length ∧ base ≤ w.heap.size ∧ (∀ u ∈ vs, u.oneCell' = true) ∧ (∀ i (h : i < vs.length) (hzz : i < ls.length), Fr w base (vs[i]'h) (ls[i]'hzz)) ∧ ∀ i (h : i < vs.length) (hzz : i < ls.length), Off X (vs[i]'h) (ls[i]'hzz)
theorem OwnQ.p {w : World} {base : Nat} {X : Option Nat} {v : Value} {ls : List (List UInt8)} (h : OwnQ w base X v ls) : OwnP w base v ls := by
  obtain ⟨vs, h1, h2, h3, h4, h5, _⟩ := h
  exact ⟨vs, h1, h2, h3, h4, h5⟩
theorem OwnQ.none_ (w : World) (base : Nat) (X : Option Nat) (h : base ≤ w.heap.size) : OwnQ w base X (.slice none 0 0) [] := ⟨[], ⟨rfl, .inl ⟨rfl, rfl⟩⟩, rfl, h, (fun u hu => by cases hu), (fun i h => absurd h (by simp)), (fun i h => absurd h (by simp))⟩
theorem fr_low {w : World} {base : Nat} {v : Value} {l : List UInt8} (h : Fr w base v l) (hl : l ≠ []) : ∃ g, v.ownBlock = some g ∧ base ≤ g ∧ g < w.heap.size := by
  obtain ⟨p, c, rfl, h2, h3, h4⟩ := h
  obtain ⟨g, o, cs, rfl, hb, hh, _⟩ := h4 hl
  refine ⟨g, rfl, hb, ?_⟩
  rcases Nat.lt_or_ge g w.heap.size with h | h
  · exact h
  · rw [Array.getElem?_eq_none h] at hh; cases hh
theorem fr_off {w : World} {base k : Nat} {v : Value} {l : List UInt8} (h : Fr w base v l) (hk : k < base) : Off (some k) v l := fun hl e => by
  obtain ⟨g, e1, hb, _⟩ := fr_low h hl
  rw [e1] at e; injection e with e; omega
theorem fr_off_new {w : World} {base k : Nat} {v : Value} {l : List UInt8} (h : Fr w base v l) (hk : w.heap.size ≤ k) : Off (some k) v l := fun hl e => by
  obtain ⟨g, e1, _, hb⟩ := fr_low h hl
  rw [e1] at e; injection e with e; omega
theorem fr_off_any {w : World} {base : Nat} {X : Option Nat} {v : Value} {l : List UInt8} (h : Fr w base v l) (hX : ∀ k, X = some k → k < base) : Off X v l := fun hl e => by
  obtain ⟨g, e1, hb, _⟩ := fr_low h hl
  have := hX g (by rw [← e, e1]); omega
/-- A slice keeps where another block grows. -/
theorem Fr.grownX {w w1 : World} {base : Nat} {X : Option Nat} {u : Value} {l : List UInt8} (h : Fr w base u l) (ho : Off X u l) (hg : w.grownBy w1 X) : Fr w1 base u l := by
  obtain ⟨p, c, rfl, h2, h3, h4⟩ := h
  refine ⟨p, c, rfl, h2, h3, fun hn => ?_⟩
  obtain ⟨g, q, cs, rfl, hb, hh, hc⟩ := h4 hn
  have hlt : g < w.heap.size := by
    rcases Nat.lt_or_ge g w.heap.size with hl | hl
    · exact hl
    · rw [Array.getElem?_eq_none hl] at hh; cases hh
  refine ⟨g, q, cs, rfl, hb, ?_, hc⟩
  rw [hg.block g hlt (fun e => ho hn (by rw [← e]; rfl))]
  exact hh
/-- Where a row of slices grows, what is bytes keeps. -/
theorem Fr.grownP {w w1 : World} {base : Nat} {v u : Value} {l : List UInt8} {n : Nat} {xs : List Value} (h : Fr w base u l) (ho : w.ownsRow base 22 1 v n xs) (hg : w.grownBy w1 v.ownBlock) : Fr w1 base u l := by
  refine h.grownX (X := v.ownBlock) (fun hn e => ?_) hg
  obtain ⟨p, c, rfl, h2, h3, h4⟩ := h
  obtain ⟨g, q, cs, rfl, hb, hh, hc⟩ := h4 hn
  rcases ho.2 with ⟨rfl, _⟩ | ⟨g', cap, cur, rfl, _, hh2, _⟩
  · simp [Value.ownBlock] at e
  · have : g = g' := by simpa [Value.ownBlock] using e
    subst this
    rw [hh] at hh2
    injection hh2 with hh2
    injection hh2 with _ ht
    exact absurd ht (by decide)
theorem row_grown {w w1 : World} {base : Nat} {t t' : TypeId} {v u : Value} {n m : Nat} {xs ys : List Value} (h : w.ownsRow base t 1 u m ys) (ho : w.ownsRow base t' 1 v n xs) (ht : t ≠ t') (hg : w.grownBy w1 v.ownBlock) : w1.ownsRow base t 1 u m ys := by
  refine ⟨h.1, ?_⟩
  rcases h.2 with e | ⟨g, cap, cur, rfl, h2, hh, h3⟩
  · exact .inl e
  · refine .inr ⟨g, cap, cur, rfl, h2, ?_, h3⟩
    have hlt : g < w.heap.size := by
      rcases Nat.lt_or_ge g w.heap.size with hl | hl
      · exact hl
      · rw [Array.getElem?_eq_none hl] at hh; cases hh
    rw [hg.block g hlt (fun e => ?_)]
    · exact hh
    · rcases ho.2 with ⟨rfl, _⟩ | ⟨g', cap', cur', rfl, _, hh2, _⟩
      · simp [Value.ownBlock] at e
      · have : g = g' := by simpa [Value.ownBlock] using e
        subst this
        rw [hh] at hh2
        injection hh2 with hh2
        injection hh2 with _ ht2
        exact ht ht2
theorem OwnB.kept {w w1 : World} {base B : Nat} {v : Value} {l : List UInt8} (h : OwnB w base v l) (hb : Below B w w1) (hB : w.heap.size ≤ B) : OwnB w1 base v l := by
  refine ⟨⟨h.1.1, ?_⟩, Nat.le_trans h.2 hb.size⟩
  rcases h.1.2 with e | ⟨g, cap, cur, e, h2, hh, h3⟩
  · exact .inl e
  · refine .inr ⟨g, cap, cur, e, h2, ?_, h3⟩
    have hlt : g < w.heap.size := by
      rcases Nat.lt_or_ge g w.heap.size with hl | hl
      · exact hl
      · rw [Array.getElem?_eq_none hl] at hh; cases hh
    exact (hb.block g (by omega)).trans hh
/-- Bytes grow, slices stay. -/
theorem OwnQ.grownB {w w1 : World} {base : Nat} {v va va' : Value} {ls : List (List UInt8)} {l : List UInt8} (h : OwnQ w base va.ownBlock v ls) (ho : OwnB w base va l) (hg : w.grownBy w1 va.ownBlock) (ha : va'.ownBlock = va.ownBlock ∨ va'.ownBlock = some w.heap.size) : OwnQ w1 base va'.ownBlock v ls := by
  obtain ⟨vs, h1, h2, h3, h4, h5, h6⟩ := h
  refine ⟨vs, row_grown h1 ho.1 (by decide) hg, h2, Nat.le_trans h3 hg.size, h4, fun i hi hi' => (h5 i hi hi').grownX (h6 i hi hi') hg, fun i hi hi' => ?_⟩
  rcases ha with e | e
  · rw [e]; exact h6 i hi hi'
  · rw [e]; exact fr_off_new (h5 i hi hi') (Nat.le_refl _)
theorem off_grown {w : World} {base : Nat} {u va va' : Value} {l : List UInt8} (h : Fr w base u l) (h6 : Off va.ownBlock u l) (ha : va'.ownBlock = va.ownBlock ∨ va'.ownBlock = some w.heap.size) : Off va'.ownBlock u l := by
  rcases ha with e | e
  · rw [e]; exact h6
  · rw [e]; exact fr_off_new h (Nat.le_refl _)
theorem OwnQ.kept {w w1 : World} {base B : Nat} {X : Option Nat} {v : Value} {ls : List (List UInt8)} (h : OwnQ w base X v ls) (hb : Below B w w1) (hB : w.heap.size ≤ B) : OwnQ w1 base X v ls := by
  obtain ⟨vs, h1, h2, h3, h4, h5, h6⟩ := h
  obtain ⟨vs', g1, g2, g3, g4, g5⟩ := OwnP.kept ⟨vs, h1, h2, h3, h4, h5⟩ hb hB
  refine ⟨vs, ⟨h1.1, ?_⟩, h2, Nat.le_trans h3 hb.size, h4, fun i hi hi' => (h5 i hi hi').kept hb hB, h6⟩
  rcases h1.2 with e | ⟨g, cap, cur, e, h2, hh, h3⟩
  · exact .inl e
  · refine .inr ⟨g, cap, cur, e, h2, ?_, h3⟩
    have hlt : g < w.heap.size := by
      rcases Nat.lt_or_ge g w.heap.size with hl | hl
      · exact hl
      · rw [Array.getElem?_eq_none hl] at hh; cases hh
    exact (hb.block g (by omega)).trans hh
/-- An append of slices to a row of slices. -/
theorem run_appP (w : World) (ty : TypeId) (base base2 : Nat) (X : Option Nat) (v u : Value) (ls ms : List (List UInt8)) (hv : OwnQ w base X v ls) (hu : OwnP w base2 u ms) (hb : base ≤ base2) (hX : ∀ k, X = some k → k < base2) (hx : ls.length ≤ 2000000) (hl : ms.length ≤ 2000000) :
    ∃ v' w', (Builtin.append_ #[32, 32] ty #[v, u]).run Try.prog w = .ok v' w' ∧ OwnQ w' base X v' (ls ++ ms) ∧ w.grownBy w' v.ownBlock := by
  obtain ⟨i0, hi, hz0, hz1, hz2⟩ := info_parts Try.sliceInfo
  obtain ⟨vs, h1, h2, h3, h4, h5, h6⟩ := hv
  obtain ⟨us, g1, g2, g3, g4, g5⟩ := hu
  have all : ∀ v' w', w'.ownsRow base 22 1 v' (vs.length + us.length) (vs ++ us) → w.grownBy w' v.ownBlock → OwnQ w' base X v' (ls ++ ms) := by
    intro v' w' hr hg
    refine ⟨vs ++ us, by rw [List.length_append]; exact hr, by simp [h2, g2], Nat.le_trans h3 hg.size, ?_, ?_, ?_⟩
    · intro x hx
      rcases List.mem_append.1 hx with h | h
      · exact h4 x h
      · exact g4 x h
    · intro i hi hi'
      by_cases c : i < vs.length
      · rw [List.getElem_append_left c, List.getElem_append_left (by omega)]
        exact (h5 i c (by omega)).grownP h1 hg
      · rw [List.getElem_append_right (by omega), List.getElem_append_right (by omega)]
        simp only [h2]
        exact ((g5 (i - ls.length) (by simp at hi; omega) (by simp at hi'; omega)).down hb).grownP h1 hg
    · intro i hi hi'
      by_cases c : i < vs.length
      · rw [List.getElem_append_left c, List.getElem_append_left (by omega)]
        exact h6 i c (by omega)
      · rw [List.getElem_append_right (by omega), List.getElem_append_right (by omega)]
        simp only [h2]
        exact fr_off_any (g5 (i - ls.length) (by simp at hi; omega) (by simp at hi'; omega)) hX
  rcases g1.2 with ⟨rfl, hz⟩ | ⟨g, cap, cur, rfl, gb, gh, gn, gc, gz, gt⟩
  · have hus : us = [] := List.length_eq_zero_iff.1 hz
    subst hus
    refine ⟨v, w, ?_, all v w (by simpa using h1) (World.grownBy.refl w _), World.grownBy.refl w _⟩
    rcases h1.2 with ⟨rfl, _⟩ | ⟨g, cap, cur, rfl, _, _, hnc, _⟩
    · simp [Builtin.append_, run_underlying Try.underlying32, sizeOf, typeInfo, hi, Builtin.lenOf, Builtin.firstCells]
    · simp [Builtin.append_, run_underlying Try.underlying32, sizeOf, typeInfo, hi, Builtin.lenOf, Builtin.firstCells, hnc, storeCells]
  · have hcell : ∀ j u, us[j]? = some u → w.cell? ((⟨g, 0, none⟩ : Addr).add j) = some u := fun j u hj => g1.cells (g := g) rfl j u hj
    obtain ⟨v', w', hr, r2, r3, _, _⟩ := run_append_own_at (P := Try.prog) w base 32 ty 22 i0 (.slice none 0 0) 1 24 Try.underlying32 hi hz0 hz1 hz2 rfl (by decide) v vs.length vs h1 ⟨g, 0, none⟩ us.length cap us (by simp) hcell g4 (by unfold maxLen; omega) (by omega) h3
    exact ⟨v', w', hr, all v' w' r2 r3, r3⟩
theorem wp_appP {w : World} {ops : Array Oper} {rest : List Oper} {o : Oper} {a : Act} {Q : Exit → Act → World → Prop} (hgd : o.guard = none) (s x : Operand)
    (ho : o.op = .call { callee := .builtin .append, args := #[s, x], argTypes := #[32, 32] }) (base base2 : Nat) (X : Option Nat) (v u : Value) (ls ms : List (List UInt8)) (hs : a.eval s = v) (hx : a.eval x = u)
    (hv : OwnQ w base X v ls) (hu : OwnP w base2 u ms) (hb : base ≤ base2) (hX : ∀ k, X = some k → k < base2) (hxl : ls.length ≤ 2000000) (hl : ms.length ≤ 2000000)
    (h : ∀ v' w', OwnQ w' base X v' (ls ++ ms) → w.grownBy w' v.ownBlock → wpList Try.prog ops Q rest (a.put o.dst v') w') : wpList Try.prog ops Q (o :: rest) a w := by
  refine wpList_plain hgd fun K hK => ?_
  obtain ⟨v', w', hr, h2, h3⟩ := run_appP w o.type base base2 X v u ls ms hv hu hb hX hxl hl
  unfold Oper.wp execOp
  simp only [ho, resolve, invoke, builtin, Sem.run_bind, Sem.run_pure, Result.andThen_ok, List.map_toArray, List.map_cons, List.map_nil, hs, hx, hr]
  exact hK _ _ (h v' w' h2 h3)
theorem OwnB.grownP {w w1 : World} {base : Nat} {X : Option Nat} {v va : Value} {ls : List (List UInt8)} {l : List UInt8} (h : OwnB w base va l) (hq : OwnQ w base X v ls) (hg : w.grownBy w1 v.ownBlock) : OwnB w1 base va l := by
  obtain ⟨vs, h1, _⟩ := hq
  exact ⟨row_grown h.1 h1 (by decide) hg, Nat.le_trans h.2 hg.size⟩
theorem Fr.grownQ {w w1 : World} {base : Nat} {X : Option Nat} {v u : Value} {ls : List (List UInt8)} {l : List UInt8} (h : Fr w base u l) (hq : OwnQ w base X v ls) (hg : w.grownBy w1 v.ownBlock) : Fr w1 base u l := by
  obtain ⟨vs, h1, _⟩ := hq
  exact h.grownP h1 hg
theorem grownP_below {w w1 : World} {base : Nat} {X : Option Nat} {v : Value} {ls : List (List UInt8)} (hq : OwnQ w base X v ls) (hg : w.grownBy w1 v.ownBlock) : Below base w w1 := by
  obtain ⟨vs, h1, _, h3, _⟩ := hq
  exact (Below.refl base w).grown hg h3 (fun k hk => (h1.lt k hk).1)
theorem own_form_low {w : World} {base : Nat} {v : Value} {l : List UInt8} (h : OwnB w base v l) : ∀ k, v.ownBlock = some k → k < w.heap.size := fun k hk => (h.1.lt k hk).2
end Go.Proofs.Yteancehdiliepaa
