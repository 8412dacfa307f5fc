/-
  Slices of fields.
-/
import Derived.Test.YtbaodpfiilmpjaaFiG
import Derived.OwnWalk
namespace Go.Proofs.Ytbaodpfiilmpjaa
open Go.RowKit
open IntWalk
set_option linter.unusedVariables false

/-- A field: its tag and its data. -/
abbrev Fd := Int × List UInt8
theorem Try.fieldInfo : (Try.prog.info? 29).map (fun i => (i.zero, i.size, i.bytes)) = some (some (.agg #[.int .i64 0, .slice none 0 0]), 2, 32) := by kernel_rfl
def fdV (ps : List (Int × Value)) : List Value := ps.flatMap fun p => [.int .i64 p.1, p.2]
theorem fdV_snoc (ps : List (Int × Value)) (x : Int) (u : Value) : fdV (ps ++ [(x, u)]) = fdV ps ++ [.int .i64 x, u] := by
  unfold fdV; rw [List.flatMap_append]; rfl
theorem fdV_at : ∀ (ps : List (Int × Value)) (i : Nat) (h : i < ps.length), (fdV ps)[i * 2]? = some (.int .i64 (ps[i]'h).1) ∧ (fdV ps)[i * 2 + 1]? = some (ps[i]'h).2
  | s :: l, 0, _ => ⟨rfl, rfl⟩
  | s :: l, i + 1, h => by
    have := fdV_at l i (by simpa using h)
    have e : fdV (s :: l) = [.int .i64 s.1, s.2] ++ fdV l := rfl
    rw [e, List.getElem?_append_right (by simp; omega), List.getElem?_append_right (by simp; omega)]
    have e1 : (i + 1) * 2 - ([Value.int .i64 s.1, s.2] : List Value).length = i * 2 := by simp; omega
    have e2 : (i + 1) * 2 + 1 - ([Value.int .i64 s.1, s.2] : List Value).length = i * 2 + 1 := by simp; omega
    rw [e1, e2]
    exact this
/-- A value reads as a list of fields. -/
def RdF (w : World) (v : Value) (fs : List Fd) : Prop :=
  ∃ (p : Option Addr) (c : Nat) (ps : List (Int × Value)), v = .slice p fs.length c ∧ fs.length ≤ c ∧ c ≤ maxLen ∧ ps.length = fs.length ∧ (∀ i (h : i < ps.length) (hz : i < fs.length), (ps[i]'h).1 = (fs[i]'hz).1 ∧ RdB w (ps[i]'h).2 (fs[i]'hz).2) ∧
    (fs ≠ [] → ∃ b o, p = some ⟨b, o, none⟩ ∧ b < w.heap.size ∧ ∀ i (h : i < ps.length), w.cell? ⟨b, o + i * 2, none⟩ = some (.int .i64 (ps[i]'h).1) ∧ w.cell? ⟨b, o + i * 2 + 1, none⟩ = some (ps[i]'h).2)
/-- A row of the call's own that holds fields. -/
def OwnF (w : World) (base : Nat) (v : Value) (fs : List Fd) : Prop :=
  ∃ ps : List (Int × Value), w.ownsRow base 29 2 v ps.length (fdV ps) ∧ ps.length = fs.length ∧ base ≤ w.heap.size ∧ ∀ i (h : i < ps.length) (hz : i < fs.length), (ps[i]'h).1 = (fs[i]'hz).1 ∧ Fr w base (ps[i]'h).2 (fs[i]'hz).2
theorem OwnF.none_ (w : World) (base : Nat) (h : base ≤ w.heap.size) : OwnF w base (.slice none 0 0) [] := ⟨[], World.ownsRow_nil _ _ _ _, rfl, h, fun i h => absurd h (by simp)⟩
theorem RdF.below {w w' : World} {v : Value} {fs : List Fd} (h : RdF w v fs) (hb : Below w.heap.size w w') : RdF w' v fs := by
  obtain ⟨p, c, ps, h1, h2, h3, h4, h5, h6⟩ := h
  refine ⟨p, c, ps, h1, h2, h3, h4, fun i hi hi' => ⟨(h5 i hi hi').1, (h5 i hi hi').2.below hb⟩, fun hn => ?_⟩
  obtain ⟨b, o, e, hl, hc⟩ := h6 hn
  exact ⟨b, o, e, Nat.lt_of_lt_of_le hl hb.size, fun i hi => ⟨(hb.cell (p := ⟨b, o + i * 2, none⟩) hl).trans (hc i hi).1, (hb.cell (p := ⟨b, o + i * 2 + 1, none⟩) hl).trans (hc i hi).2⟩⟩
theorem rdF_nil (w : World) : RdF w (.slice none 0 0) [] := ⟨none, 0, [], rfl, Nat.le_refl _, Nat.zero_le _, rfl, fun i h => absurd h (by simp), fun h => absurd rfl h⟩
theorem OwnF.rd {w : World} {base : Nat} {v : Value} {fs : List Fd} (h : OwnF w base v fs) : RdF w v fs := by
  obtain ⟨ps, ho, hl, hb, hf⟩ := h
  rcases ho.2 with ⟨rfl, h2⟩ | ⟨g, cap, cur, rfl, _, hh, h3, h4, _, _⟩
  · have : fs = [] := List.length_eq_zero_iff.1 (by rw [← hl]; exact h2)
    subst this
    exact rdF_nil w
  · refine ⟨some ⟨g, 0, none⟩, cap, ps, by rw [hl], by omega, h4, hl, fun i h hz => ⟨(hf i h hz).1, (hf i h hz).2.rd⟩, fun _ => ⟨g, 0, rfl, (ho.lt g rfl).2, fun i hi => ?_⟩⟩
    have a1 := ho.cells (g := g) rfl (i * 2) _ (fdV_at ps i hi).1
    have a2 := ho.cells (g := g) rfl (i * 2 + 1) _ (fdV_at ps i hi).2
    rw [Addr.add_lit] at a1 a2
    exact ⟨a1, a2⟩
theorem block_low {w : World} {k : Nat} {o : Obj} (h : w.heap[k]? = some o) : k < w.heap.size := by
  rcases Nat.lt_or_ge k w.heap.size with hl | hl
  · exact hl
  · rw [Array.getElem?_eq_none hl] at h; cases h
/-- A row of another type grows beside a slice of bytes. -/
theorem Fr.grownT {w w1 : World} {base size : Nat} {t : TypeId} {v u : Value} {l : List UInt8} {o : Obj} {n : Nat} {xs : List Value} (h : Fr w base u l) (ho : w.ownsRow base t size v n xs) (ht : t ≠ 5) (hg : (w.alloc o).grownBy w1 v.ownBlock) : Fr w1 base u l := by
  obtain ⟨p, c, h1, h2, h3, h4⟩ := h
  refine ⟨p, c, h1, h2, h3, fun hn => ?_⟩
  obtain ⟨g, q, cs, e, hb, hh, hc⟩ := h4 hn
  refine ⟨g, q, cs, e, hb, ?_, hc⟩
  have hlt := block_low hh
  rw [hg.block g (by simp; omega) ?_, Below.heap_alloc w o g hlt]
  · exact hh
  · intro e2
    rcases ho.2 with ⟨rfl, _⟩ | ⟨g', cap, cur, rfl, _, hh2, _⟩
    · simp [Value.ownBlock] at e2
    · have : g = g' := by simpa [Value.ownBlock] using e2
      subst this
      rw [hh] at hh2
      injection hh2 with hh2
      injection hh2 with _ ht2
      exact ht ht2.symm
theorem OwnF.only {w w1 : World} {g base : Nat} {v : Value} {fs : List Fd} (h : OwnF w base v fs) (ho : Only g w w1) (hg : g < base) : OwnF w1 base v fs := by
  obtain ⟨ps, hr, hl, hbs, hf⟩ := h
  refine ⟨ps, ⟨hr.1, ?_⟩, hl, Nat.le_trans hbs ho.size, fun i h hz => ⟨(hf i h hz).1, (hf i h hz).2.only ho hg⟩⟩
  rcases hr.2 with e | ⟨k, cap, cur, e, h2, hh, h3⟩
  · exact .inl e
  · exact .inr ⟨k, cap, cur, e, h2, (ho.block k (block_low hh) (by omega)).trans hh, h3⟩
theorem OwnP.only {w w1 : World} {g base : Nat} {v : Value} {ls : List (List UInt8)} (h : OwnP w base v ls) (ho : Only g w w1) (hg : g < base) : OwnP w1 base v ls := by
  obtain ⟨vs, hr, hl, hbs, h1, hf⟩ := h
  refine ⟨vs, ⟨hr.1, ?_⟩, hl, Nat.le_trans hbs ho.size, h1, fun i h hz => (hf i h hz).only ho hg⟩
  rcases hr.2 with e | ⟨k, cap, cur, e, h2, hh, h3⟩
  · exact .inl e
  · exact .inr ⟨k, cap, cur, e, h2, (ho.block k (block_low hh) (by omega)).trans hh, h3⟩
theorem OwnF.more {w w1 : World} {base : Nat} {v v' u : Value} {fs : List Fd} {x : Int} {d : List UInt8} {ps : List (Int × Value)} {o : Obj} (ho : w.ownsRow base 29 2 v ps.length (fdV ps)) (hl : ps.length = fs.length) (hbs : base ≤ w.heap.size)
    (hf : ∀ i (h : i < ps.length) (hz : i < fs.length), (ps[i]'h).1 = (fs[i]'hz).1 ∧ Fr w base (ps[i]'h).2 (fs[i]'hz).2) (hu : Fr w base u d) (hr : w1.ownsRow base 29 2 v' (ps.length + 1) (fdV ps ++ [.int .i64 x, u])) (hg : (w.alloc o).grownBy w1 v.ownBlock) :
    OwnF w1 base v' (fs ++ [(x, d)]) ∧ Below base w w1 := by
  have hb : Below base w w1 := ((Below.refl base w).alloc hbs o).grown hg (le_alloc hbs o) (fun k hk => (ho.lt k hk).1)
  refine ⟨⟨ps ++ [(x, u)], by rw [List.length_append, fdV_snoc]; exact hr, by simp [hl], Nat.le_trans hbs hb.size, ?_⟩, hb⟩
  intro i hi hi'
  by_cases c : i < ps.length
  · rw [List.getElem_append_left c, List.getElem_append_left (by omega)]
    exact ⟨(hf i c (by omega)).1, (hf i c (by omega)).2.grownT ho (by decide) hg⟩
  · rw [List.getElem_append_right (by omega), List.getElem_append_right (by omega)]
    simp only [List.getElem_singleton]
    exact ⟨trivial, hu.grownT ho (by decide) hg⟩
theorem news_two (W : World) (x y : Value) (T : TypeId) : ∀ (j : Nat) (u : Value), ([x, y] : List Value)[j]? = some u → (W.alloc (.cells #[x, y] T)).cell? ((⟨W.heap.size, 0, none⟩ : Addr).add j) = some u := by
  intro j u hj
  rw [Addr.add_lit, World.cell?_alloc_at _ _ _ _ rfl]
  match j, hj with
  | 0, hj => simpa using hj
  | 1, hj => simpa using hj
theorem fr_one {w : World} {base : Nat} {u : Value} {l : List UInt8} (h : Fr w base u l) : u.oneCell' = true := by obtain ⟨p, c, e, _⟩ := h; rw [e]; rfl
theorem wp_appF {w : World} {ops : Array Oper} {rest : List Oper} {o : Oper} {a : Act} {Q : Exit → Act → World → Prop} (hgd : o.guard = none) (s x : Operand)
    (ho : o.op = .call { callee := .builtin .append, args := #[s, x], argTypes := #[30, 30] }) (base : Nat) (v u : Value) (fs : List Fd) (tag : Int) (d : List UInt8) (hs : a.eval s = v) (hx : a.eval x = .slice (some ⟨w.heap.size, 0, none⟩) 1 1)
    (hv : OwnF w base v fs) (hu : Fr w base u d) (hxl : fs.length ≤ 100000)
    (h : ∀ v' w', OwnF w' base v' (fs ++ [(tag, d)]) → Below base w w' → wpList Try.prog ops Q rest (a.put o.dst v') w') : wpList Try.prog ops Q (o :: rest) a (w.alloc (.cells #[.int .i64 tag, u] 29)) := by
  obtain ⟨i0, hi, hz0, hz1, hz2⟩ := info_parts Try.fieldInfo
  obtain ⟨ps, hr, hl, hbs, hf⟩ := hv
  refine wpList_append_own _ hgd s x 30 ho base 29 i0 (.agg #[.int .i64 0, .slice none 0 0]) 2 32 Try.underlying30 hi hz0 hz1 hz2 rfl (by decide) v ps.length (fdV ps) hs (hr.alloc _) ⟨w.heap.size, 0, none⟩ 1 1 [.int .i64 tag, u] hx rfl (news_two w _ _ _) ?_ ?_ ?_ (le_alloc hbs _) ?_
  · intro z hz
    simp only [List.mem_cons, List.mem_nil_iff, or_false] at hz
    rcases hz with rfl | rfl
    · rfl
    · exact fr_one hu
  · unfold maxLen; omega
  · omega
  · intro v' w' h1 h2 _
    have := OwnF.more hr hl hbs hf hu h1 h2
    exact h v' w' this.1 this.2
end Go.Proofs.Ytbaodpfiilmpjaa
