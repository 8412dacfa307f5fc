/-
  An append of a slice, nil let in; the reference's Content, Stuff, Pack, Same.
-/
import Derived.Test.YtbaodpfiilmpjaaFrD
import Derived.Laws.IdiomStrings
import Derived.Laws.BytesArg
namespace Go.Proofs.Ytbaodpfiilmpjaa.F
open Go.RowKit
open IntWalk

theorem bool_is {a b : Bool} (h : a = b) : Ending.returned (.bool a) = .returned (.bool b) := by rw [h]
theorem str_of (w : World) (v : Value) (l : List UInt8) (h : RdB w v l) : (convert 23 9 v).run Try.prog w = .ok (.string ⟨l.toArray⟩) w := by
  obtain ⟨p, c, rfl, h2, h3, h4⟩ := h
  by_cases hn : l = []
  · subst hn
    cases p with
    | none => exact run_convert_bytes_nil (P := Try.prog) (w := w) 23 5 Try.underlying23 Try.underlying5 0 c 9 Try.underlying9
    | some a => exact run_convert_bytes_back (P := Try.prog) w 23 9 5 a c [] Try.underlying23 Try.underlying5 Try.underlying9 (fun j hj => absurd hj (by simp))
  · obtain ⟨b, o, rfl, ha⟩ := h4 hn
    exact run_convert_bytes_back (P := Try.prog) w 23 9 5 ⟨b, o, none⟩ c l Try.underlying23 Try.underlying5 Try.underlying9 (fun j hj => by rw [Addr.add_lit]; exact ha.2 j hj)
/-! An append of a slice that came in. -/
theorem run_app (w : World) (ty : TypeId) (base : Nat) (v u : Value) (xs l : List UInt8) (hv : OwnB w base v xs) (hu : RdB w u l) (hx : xs.length ≤ 2000000) (hl : l.length ≤ 2000000) :
    ∃ v' w', (Builtin.append_ #[23, 23] ty #[v, u]).run Try.prog w = .ok v' w' ∧ OwnB w' base v' (xs ++ l) ∧ w.grownBy w' v.ownBlock ∧ (v'.ownBlock = v.ownBlock ∨ v'.ownBlock = some w.heap.size) := by
  obtain ⟨i0, hi, hz0, hz1, hz2⟩ := info_parts Try.byteInfo
  obtain ⟨p, c, rfl, h2, h3, h4⟩ := hu
  have key : ∀ ad : Addr, p = some ad → (∀ j u, (l.map bv)[j]? = some u → w.cell? (ad.add j) = some u) →
      ∃ v' w', (Builtin.append_ #[23, 23] ty #[v, .slice (some ad) l.length c]).run Try.prog w = .ok v' w' ∧ OwnB w' base v' (xs ++ l) ∧ w.grownBy w' v.ownBlock ∧ (v'.ownBlock = v.ownBlock ∨ v'.ownBlock = some w.heap.size) := by
    intro ad _ hc
    obtain ⟨v', w', hr, g2, g3, _, g5⟩ := run_append_own_at (P := Try.prog) w base 23 ty 5 i0 (.int .u8 0) 1 1 Try.underlying23 hi hz0 hz1 hz2 rfl (by decide) v xs.length (xs.map bv) hv.1 ad l.length c (l.map bv) (by simp) hc (bv_one l) (by unfold maxLen; omega) (by omega) hv.2
    refine ⟨v', w', hr, ⟨?_, Nat.le_trans hv.2 g3.size⟩, g3, g5⟩
    rw [List.length_append, List.map_append]
    exact g2
  cases p with
  | some ad =>
    refine key ad rfl ?_
    intro j u hj
    by_cases hn : l = []
    · subst hn; simp at hj
    · obtain ⟨b, o, e, ha⟩ := h4 hn
      injection e with e
      subst e
      have hjl : j < l.length := by have := (List.getElem?_eq_some_iff.1 hj).1; simpa using this
      rw [Addr.add_lit, ha.2 j hjl, ← hj]
      simp [hjl]
  | none =>
    have hn : l = [] := by
      by_cases hn : l = []
      · exact hn
      · obtain ⟨b, o, e, _⟩ := h4 hn; cases e
    subst hn
    refine ⟨v, w, ?_, by simpa using hv, World.grownBy.refl w _, .inl rfl⟩
    rcases hv.1.2 with ⟨rfl, _⟩ | ⟨g, cap, cur, rfl, _, _, hnc, _⟩
    · simp [Builtin.append_, run_underlying Try.underlying23, sizeOf, typeInfo, hi, Builtin.lenOf, Builtin.firstCells]
    · simp [Builtin.append_, run_underlying Try.underlying23, sizeOf, typeInfo, hi, Builtin.lenOf, Builtin.firstCells, hnc, storeCells]
theorem wp_app {w : World} {ops : Array Oper} {rest : List Oper} {o : Oper} {a : Act} {Q : Exit → Act → World → Prop} (hgd : o.guard = none) (s x : Operand)
    (ho : o.op = .call { callee := .builtin .append, args := #[s, x], argTypes := #[23, 23] }) (base : Nat) (v u : Value) (xs l : List UInt8) (hs : a.eval s = v) (hx : a.eval x = u)
    (hv : OwnB w base v xs) (hu : RdB w u l) (hxl : xs.length ≤ 2000000) (hl : l.length ≤ 2000000)
    (h : ∀ v' w', OwnB w' base v' (xs ++ l) → w.grownBy w' v.ownBlock → (v'.ownBlock = v.ownBlock ∨ v'.ownBlock = some w.heap.size) → wpList Try.prog ops Q rest (a.put o.dst v') w') : wpList Try.prog ops Q (o :: rest) a w := by
  refine wpList_plain hgd fun K hK => ?_
  obtain ⟨v', w', hr, h2, h3, h5⟩ := run_app w o.type base v u xs l hv hu hxl hl
  unfold Oper.wp execOp
  simp only [ho, resolve, invoke, builtin, Sem.run_bind, Sem.run_pure, Result.andThen_ok, List.map_toArray, List.map_cons, List.map_nil, hs, hx, hr]
  exact hK _ _ (h v' w' h2 h3 h5)
theorem grown_below {w w1 : World} {base : Nat} {v : Value} {xs : List UInt8} (hv : OwnB w base v xs) (hg : w.grownBy w1 v.ownBlock) : Below base w w1 := (Below.refl base w).grown hg hv.2 (fun k hk => (hv.1.lt k hk).1)
theorem rd_len {w : World} {u : Value} {l : List UInt8} (h : RdB w u l) : l.length ≤ maxLen := by obtain ⟨_, _, _, h2, h3, _⟩ := h; omega

theorem lit_two (w : World) (x y : Value) (a b : UInt8) (hx : x = bv a) (hy : y = bv b) : RdB (w.alloc (.cells #[x, y] 5)) (.slice (some ⟨w.heap.size, 0, none⟩) 2 2) [a, b] := by
  subst hx; subst hy
  exact (OwnB.new w w.heap.size 2 [a, b] _ rfl rfl (Nat.le_refl _) (by simp)).rd
theorem lit_one (w : World) (x : Value) (a : UInt8) (hx : x = bv a) : RdB (w.alloc (.cells #[x] 5)) (.slice (some ⟨w.heap.size, 0, none⟩) 1 1) [a] := by
  subst hx
  exact (OwnB.new w w.heap.size 1 [a] _ rfl rfl (Nat.le_refl _) (by simp)).rd
/-- The walk of a row that grows: what the reference's Stuff leaves. -/
theorem stuff_parts (l : List UInt8) : [192] ++ esc l ++ [192] = stuff l := by unfold stuff; simp
theorem own_down {w w1 : World} {v : Value} {l : List UInt8} (h : OwnB w1 w.heap.size v l) : RdB w1 v l := h.rd
theorem own_base {w : World} {base base' : Nat} {v : Value} {l : List UInt8} (h : OwnB w base v l) (hb : base' ≤ base) : OwnB w base' v l := by
  refine ⟨⟨h.1.1, ?_⟩, Nat.le_trans hb h.2⟩
  rcases h.1.2 with h1 | ⟨g, cap, cur, h1, h2, h3⟩
  · exact .inl h1
  · exact .inr ⟨g, cap, cur, h1, by omega, h3⟩
theorem bt {w w1 w2 : World} (h1 : Below w.heap.size w w1) (h2 : Below w1.heap.size w1 w2) : Below w.heap.size w w2 := h1.trans (h2.mono h1.size)
theorem cont_len (l : List UInt8) (s : Nat) : (cont l s).length = l.length + 2 := by simp [cont]
theorem cont_ne (l : List UInt8) (s : Nat) : cont l s ≠ [] := by simp [cont]

end Go.Proofs.Ytbaodpfiilmpjaa.F
