/-
  Slices of bytes: what they read, rows of a call of its own.
-/
import Derived.Test.YtbaodpfiilmpjaaProg
import Derived.Laws.BitsAllLaws
import Derived.WalkKit
import Derived.Deep.CutBlock
import Derived.Deep.DeepCutAuto
import Derived.Deep.QuietTactic
import Derived.BigQuiet
import Derived.LoopTactic
import Derived.Outline
import Derived.IntWalk
import Derived.Lib.Hide
import Derived.Below
import Derived.Maps.AppendAt
import Derived.Laws.OwnMore
import Derived.Deep.Draws
import Derived.Laws.IdiomStrings
import Derived.Laws.BytesArg
namespace Go.Proofs.Ytbaodpfiilmpjaa
open Go.RowKit
open IntWalk

/-- A byte, as a value. -/
def bv (c : UInt8) : Value := .int .u8 (c.toNat : Int)
/-- The cells of a place read as a list of bytes. -/
def AtB (w : World) (b o : Nat) (l : List UInt8) : Prop := b < w.heap.size ∧ ∀ i (h : i < l.length), w.cell? ⟨b, o + i, none⟩ = some (bv (l[i]'h))
/-- A value reads as a list of bytes. -/
def RdB (w : World) (v : Value) (l : List UInt8) : Prop :=
  ∃ (p : Option Addr) (c : Nat), v = .slice p l.length c ∧ l.length ≤ c ∧ c ≤ maxLen ∧ (l ≠ [] → ∃ b o, p = some ⟨b, o, none⟩ ∧ AtB w b o l)
theorem AtB.below {w w' : World} {b o B : Nat} {l : List UInt8} (h : AtB w b o l) (hb : Below B w w') (hB : b < B) : AtB w' b o l :=
  ⟨Nat.lt_of_lt_of_le h.1 hb.size, fun i hi => (hb.cell (p := ⟨b, o + i, none⟩) hB).trans (h.2 i hi)⟩
theorem RdB.below {w w' : World} {v : Value} {l : List UInt8} (h : RdB w v l) (hb : Below w.heap.size w w') : RdB w' v l := by
  obtain ⟨p, c, h1, h2, h3, h4⟩ := h
  exact ⟨p, c, h1, h2, h3, fun hl => by obtain ⟨b, o, e, ha⟩ := h4 hl; exact ⟨b, o, e, ha.below hb ha.1⟩⟩
theorem ret_int {k : IntKind} {a b : Int} (h : a = b) : Ending.returned (.int k a) = .returned (.int k b) := by rw [h]
theorem u_is {k : IntKind} {a b : Int} (h : a = b) : Value.int k a = Value.int k b := by rw [h]
theorem Try.byteInfo : (Try.prog.info? 5).map (fun i => (i.zero, i.size, i.bytes)) = some (some (.int .u8 0), 1, 1) := by kernel_rfl
theorem bv_one (l : List UInt8) : ∀ u ∈ l.map bv, u.oneCell' = true := by
  intro u hu
  obtain ⟨c, _, rfl⟩ := List.mem_map.1 hu
  rfl
/-- A row of the call's own that holds these bytes. -/
def OwnB (w : World) (base : Nat) (v : Value) (l : List UInt8) : Prop := w.ownsRow base 5 1 v l.length (l.map bv) ∧ base ≤ w.heap.size
theorem OwnB.rd {w : World} {base : Nat} {v : Value} {l : List UInt8} (h : OwnB w base v l) : RdB w v l := by
  rcases h.1.2 with ⟨rfl, h2⟩ | ⟨g, cap, cur, rfl, _, hh, h3, h4, _, _⟩
  · have : l = [] := List.length_eq_zero_iff.1 h2
    subst this
    exact ⟨none, 0, rfl, Nat.le_refl _, Nat.zero_le _, fun h => absurd rfl h⟩
  · refine ⟨some ⟨g, 0, none⟩, cap, rfl, h3, h4, fun _ => ⟨g, 0, rfl, (h.1.lt g rfl).2, fun i hi => ?_⟩⟩
    have := h.1.cells (g := g) rfl i (bv l[i]) (by simp [hi])
    rw [Addr.add_lit] at this
    exact this
theorem OwnB.none_ (w : World) (base : Nat) (h : base ≤ w.heap.size) : OwnB w base (.slice none 0 0) [] := ⟨⟨rfl, .inl ⟨rfl, rfl⟩⟩, h⟩
theorem OwnB.new (w : World) (base n : Nat) (l : List UInt8) (g : Nat) (hg : g = w.heap.size) (hn : n = l.length) (hb : base ≤ w.heap.size) (hl : l.length ≤ 2000000) :
    OwnB (w.alloc (.cells ((l.map bv).toArray) 5)) base (.slice (some ⟨g, 0, none⟩) n n) l := by
  subst hg; subst hn
  refine ⟨⟨by simp, .inr ⟨w.heap.size, l.length, (l.map bv).toArray, rfl, hb, heap_alloc_new w _, Nat.le_refl _, by unfold maxLen; omega, by simp, by simp [List.take_of_length_le]⟩⟩, by simp; omega⟩
theorem lit_cells (w : World) (l : List Value) (t : TypeId) : ∀ j u, l[j]? = some u → (w.alloc (.cells l.toArray t)).cell? ((⟨w.heap.size, 0, none⟩ : Addr).add j) = some u := by
  intro j u hj
  have hb := heap_alloc_new w (.cells l.toArray t)
  rw [Addr.add_lit, cell_of_row _ w.heap.size (0 + j) _ _ (0, 0) hb]
  simpa using hj
theorem le_alloc {w : World} {base : Nat} (h : base ≤ w.heap.size) (o : Obj) : base ≤ (w.alloc o).heap.size := by simp; omega
/-- What an append leaves. -/
theorem own_more {w w1 : World} {base m : Nat} {v v' : Value} {l news : List UInt8} {o : Obj} {vals : List Value} (h : OwnB w base v l) (hv : vals = news.map bv) (hm : m = news.length)
    (h1 : w1.ownsRow base 5 1 v' (l.length + m) (l.map bv ++ vals)) (hg : (w.alloc o).grownBy w1 v.ownBlock) : OwnB w1 base v' (l ++ news) ∧ Below base w w1 := by
  have hb : Below base w w1 := ((Below.refl base w).alloc h.2 o).grown hg (le_alloc h.2 o) (fun k hk => (h.1.lt k hk).1)
  refine ⟨⟨?_, Nat.le_trans h.2 hb.size⟩, hb⟩
  subst hv; subst hm
  rw [List.length_append, List.map_append]
  exact h1
/-- What lies elsewhere, is as it was. -/
theorem at_more {w w1 : World} {b q : Nat} {v v' : Value} {l : List UInt8} {o : Obj} (h : AtB w b q l) (hne : v.ownBlock ≠ some b) (hg : (w.alloc o).grownBy w1 v.ownBlock) (ha : v'.ownBlock = v.ownBlock ∨ v'.ownBlock = some (w.alloc o).heap.size) :
    AtB w1 b q l ∧ v'.ownBlock ≠ some b := by
  have hsz : w.heap.size ≤ w1.heap.size := Nat.le_trans (by simp) hg.size
  refine ⟨⟨Nat.lt_of_lt_of_le h.1 hsz, fun i hi => ?_⟩, ?_⟩
  · rw [← h.2 i hi, ← World.cell?_alloc_lt w o ⟨b, q + i, none⟩ h.1]
    exact World.cell?_of_block (hg.block b (by have := h.1; simp; omega) (fun e => hne e.symm))
  · rcases ha with e | e
    · rw [e]; exact hne
    · rw [e]; intro e2; injection e2 with e2; have := h.1; simp at e2; omega
theorem bne_ (a : UInt8) (k : UInt8) (h : a ≠ k) : ((a.toNat : Int) == (k.toNat : Int)) = false := by
  rw [beq_eq_false_iff_ne]; intro e; exact h (UInt8.toNat_inj.1 (by omega))
/-- A slice lies in another block than a row. -/
def Apart (v u : Value) : Prop := ∀ b o n c, u = .slice (some ⟨b, o, none⟩) n c → v.ownBlock ≠ some b
theorem own_block_below {w : World} {base : Nat} {v : Value} {l : List UInt8} (h : OwnB w base v l) {b : Nat} (hb : b < base) : v.ownBlock ≠ some b := fun e => by
  have := (h.1.lt b e).1; omega
theorem own_block_new {w : World} {base : Nat} {v : Value} {l : List UInt8} (h : OwnB w base v l) {b : Nat} (hb : w.heap.size ≤ b) : v.ownBlock ≠ some b := fun e => by
  have := (h.1.lt b e).2; omega
theorem apart_below {w w0 : World} {v u : Value} {l m : List UInt8} (h : OwnB w w0.heap.size v l) (hu : RdB w0 u m) (hn : m ≠ []) : Apart v u := by
  obtain ⟨p, c, rfl, _, _, h3⟩ := hu
  obtain ⟨b, o, rfl, ha⟩ := h3 hn
  intro b' o' n' c' e
  injection e with e1
  injection e1 with e1
  injection e1 with e1
  subst e1
  exact own_block_below h ha.1
theorem OwnB.more {w : World} {base : Nat} {v : Value} {l : List UInt8} (h : OwnB w base v l) (o : Obj) : OwnB (w.alloc o) base v l := ⟨h.1.alloc o, le_alloc h.2 o⟩
theorem apart_new {w : World} {base : Nat} {v : Value} {l : List UInt8} (h : OwnB w base v l) (o n c : Nat) : Apart v (.slice (some ⟨w.heap.size, o, none⟩) n c) := by
  intro b' o' n' c' e
  injection e with e1
  injection e1 with e1
  injection e1 with e1
  subst e1
  exact own_block_new h (Nat.le_refl _)
theorem bool_is {a b : Bool} (h : a = b) : Ending.returned (.bool a) = .returned (.bool b) := by rw [h]
theorem str_of (w : World) (v : Value) (l : List UInt8) (h : RdB w v l) : (convert 23 9 v).run Try.prog w = .ok (.string ⟨l.toArray⟩) w := by
  obtain ⟨p, c, rfl, h2, h3, h4⟩ := h
  by_cases hn : l = []
  · subst hn
    cases p with
    | none => exact run_convert_bytes_nil (P := Try.prog) (w := w) 23 5 Try.underlying23 Try.underlying5 0 c 9 Try.underlying9
    | some a => exact run_convert_bytes_back (P := Try.prog) w 23 9 5 a c [] Try.underlying23 Try.underlying5 Try.underlying9 (fun j hj => absurd hj (by simp))
  · obtain ⟨b, o, rfl, ha⟩ := h4 hn
    exact run_convert_bytes_back (P := Try.prog) w 23 9 5 ⟨b, o, none⟩ c l Try.underlying23 Try.underlying5 Try.underlying9 (fun j hj => by rw [Addr.add_lit]; exact ha.2 j hj)
/-! An append of a slice that came in. -/
theorem run_app (w : World) (ty : TypeId) (base : Nat) (v u : Value) (xs l : List UInt8) (hv : OwnB w base v xs) (hu : RdB w u l) (hx : xs.length ≤ 2000000) (hl : l.length ≤ 2000000) :
    ∃ v' w', (Builtin.append_ #[23, 23] ty #[v, u]).run Try.prog w = .ok v' w' ∧ OwnB w' base v' (xs ++ l) ∧ w.grownBy w' v.ownBlock ∧ (v'.ownBlock = v.ownBlock ∨ v'.ownBlock = some w.heap.size) := by
  obtain ⟨i0, hi, hz0, hz1, hz2⟩ := info_parts Try.byteInfo
  obtain ⟨p, c, rfl, h2, h3, h4⟩ := hu
  have key : ∀ ad : Addr, p = some ad → (∀ j u, (l.map bv)[j]? = some u → w.cell? (ad.add j) = some u) →
      ∃ v' w', (Builtin.append_ #[23, 23] ty #[v, .slice (some ad) l.length c]).run Try.prog w = .ok v' w' ∧ OwnB w' base v' (xs ++ l) ∧ w.grownBy w' v.ownBlock ∧ (v'.ownBlock = v.ownBlock ∨ v'.ownBlock = some w.heap.size) := by
    intro ad _ hc
    obtain ⟨v', w', hr, g2, g3, _, g5⟩ := run_append_own_at (P := Try.prog) w base 23 ty 5 i0 (.int .u8 0) 1 1 Try.underlying23 hi hz0 hz1 hz2 rfl (by decide) v xs.length (xs.map bv) hv.1 ad l.length c (l.map bv) (by simp) hc (bv_one l) (by unfold maxLen; omega) (by omega) hv.2
    refine ⟨v', w', hr, ⟨?_, Nat.le_trans hv.2 g3.size⟩, g3, g5⟩
    rw [List.length_append, List.map_append]
    exact g2
  cases p with
  | some ad =>
    refine key ad rfl ?_
    intro j u hj
    by_cases hn : l = []
    · subst hn; simp at hj
    · obtain ⟨b, o, e, ha⟩ := h4 hn
      injection e with e
      subst e
      have hjl : j < l.length := by have := (List.getElem?_eq_some_iff.1 hj).1; simpa using this
      rw [Addr.add_lit, ha.2 j hjl, ← hj]
      simp [hjl]
  | none =>
    have hn : l = [] := by
      by_cases hn : l = []
      · exact hn
      · obtain ⟨b, o, e, _⟩ := h4 hn; cases e
    subst hn
    refine ⟨v, w, ?_, by simpa using hv, World.grownBy.refl w _, .inl rfl⟩
    rcases hv.1.2 with ⟨rfl, _⟩ | ⟨g, cap, cur, rfl, _, _, hnc, _⟩
    · simp [Builtin.append_, run_underlying Try.underlying23, sizeOf, typeInfo, hi, Builtin.lenOf, Builtin.firstCells]
    · simp [Builtin.append_, run_underlying Try.underlying23, sizeOf, typeInfo, hi, Builtin.lenOf, Builtin.firstCells, hnc, storeCells]
theorem wp_app {w : World} {ops : Array Oper} {rest : List Oper} {o : Oper} {a : Act} {Q : Exit → Act → World → Prop} (hgd : o.guard = none) (s x : Operand)
    (ho : o.op = .call { callee := .builtin .append, args := #[s, x], argTypes := #[23, 23] }) (base : Nat) (v u : Value) (xs l : List UInt8) (hs : a.eval s = v) (hx : a.eval x = u)
    (hv : OwnB w base v xs) (hu : RdB w u l) (hxl : xs.length ≤ 2000000) (hl : l.length ≤ 2000000)
    (h : ∀ v' w', OwnB w' base v' (xs ++ l) → w.grownBy w' v.ownBlock → (v'.ownBlock = v.ownBlock ∨ v'.ownBlock = some w.heap.size) → wpList Try.prog ops Q rest (a.put o.dst v') w') : wpList Try.prog ops Q (o :: rest) a w := by
  refine wpList_plain hgd fun K hK => ?_
  obtain ⟨v', w', hr, h2, h3, h5⟩ := run_app w o.type base v u xs l hv hu hxl hl
  unfold Oper.wp execOp
  simp only [ho, resolve, invoke, builtin, Sem.run_bind, Sem.run_pure, Result.andThen_ok, List.map_toArray, List.map_cons, List.map_nil, hs, hx, hr]
  exact hK _ _ (h v' w' h2 h3 h5)
theorem grown_below {w w1 : World} {base : Nat} {v : Value} {xs : List UInt8} (hv : OwnB w base v xs) (hg : w.grownBy w1 v.ownBlock) : Below base w w1 := (Below.refl base w).grown hg hv.2 (fun k hk => (hv.1.lt k hk).1)
theorem rd_len {w : World} {u : Value} {l : List UInt8} (h : RdB w u l) : l.length ≤ maxLen := by obtain ⟨_, _, _, h2, h3, _⟩ := h; omega
theorem lit_two (w : World) (x y : Value) (a b : UInt8) (hx : x = bv a) (hy : y = bv b) : RdB (w.alloc (.cells #[x, y] 5)) (.slice (some ⟨w.heap.size, 0, none⟩) 2 2) [a, b] := by
  subst hx; subst hy
  exact (OwnB.new w w.heap.size 2 [a, b] _ rfl rfl (Nat.le_refl _) (by simp)).rd
theorem lit_one (w : World) (x : Value) (a : UInt8) (hx : x = bv a) : RdB (w.alloc (.cells #[x] 5)) (.slice (some ⟨w.heap.size, 0, none⟩) 1 1) [a] := by
  subst hx
  exact (OwnB.new w w.heap.size 1 [a] _ rfl rfl (Nat.le_refl _) (by simp)).rd
theorem own_down {w w1 : World} {v : Value} {l : List UInt8} (h : OwnB w1 w.heap.size v l) : RdB w1 v l := h.rd
theorem own_base {w : World} {base base' : Nat} {v : Value} {l : List UInt8} (h : OwnB w base v l) (hb : base' ≤ base) : OwnB w base' v l := by
  refine ⟨⟨h.1.1, ?_⟩, Nat.le_trans hb h.2⟩
  rcases h.1.2 with h1 | ⟨g, cap, cur, h1, h2, h3⟩
  · exact .inl h1
  · exact .inr ⟨g, cap, cur, h1, by omega, h3⟩
theorem bt {w w1 w2 : World} (h1 : Below w.heap.size w w1) (h2 : Below w1.heap.size w1 w2) : Below w.heap.size w w2 := h1.trans (h2.mono h1.size)
/-- A slice into a row that was made since. -/
def Fr (w : World) (base : Nat) (v : Value) (l : List UInt8) : Prop :=
  ∃ (p : Option Addr) (c : Nat), v = .slice p l.length c ∧ l.length ≤ c ∧ c ≤ maxLen ∧ (l ≠ [] → ∃ g o cs, p = some ⟨g, o, none⟩ ∧ base ≤ g ∧ w.heap[g]? = some (.cells cs 5 (0, 0)) ∧ ∀ i (h : i < l.length), cs[o + i]? = some (bv (l[i]'h)))
theorem Fr.rd {w : World} {base : Nat} {v : Value} {l : List UInt8} (h : Fr w base v l) : RdB w v l := by
  obtain ⟨p, c, h1, h2, h3, h4⟩ := h
  refine ⟨p, c, h1, h2, h3, fun hn => ?_⟩
  obtain ⟨g, o, cs, e, _, hh, hc⟩ := h4 hn
  refine ⟨g, o, e, ?_, fun i hi => ?_⟩
  · rcases Nat.lt_or_ge g w.heap.size with hl | hl
    · exact hl
    · rw [Array.getElem?_eq_none hl] at hh; cases hh
  · rw [cell_of_row w g (o + i) _ _ (0, 0) hh]; exact hc i hi
theorem own_take {w : World} {base g cap n m c' : Nat} {l : List UInt8} (h : OwnB w base (.slice (some ⟨g, 0, none⟩) n cap) l) (hm : m ≤ l.length) (hc : m ≤ c') (hcm : c' ≤ maxLen) : Fr w base (.slice (some ⟨g, 0, none⟩) m c') (l.take m) := by
  have hlen : (l.take m).length = m := by rw [List.length_take]; omega
  refine ⟨some ⟨g, 0, none⟩, c', by rw [hlen], by omega, hcm, fun _ => ?_⟩
  rcases h.1.2 with ⟨e, _⟩ | ⟨g', cap', cur, e, h1, h2, h3, _, h5, h6⟩
  · cases e
  · injection e with e1 e2 e3
    injection e1 with e1
    injection e1 with e1
    subst e1
    refine ⟨g, 0, cur, rfl, h1, h2, fun i hi => ?_⟩
    rw [hlen] at hi
    have hi2 : i < l.length := by omega
    have : (cur.toList.take (l.length * 1))[i]? = some (bv l[i]) := by rw [h6]; simp [hi2]
    rw [List.getElem?_take] at this
    split at this
    · rw [Nat.zero_add, List.getElem_take]
      simpa using this
    · cases this
theorem own_form {w : World} {base : Nat} {v : Value} {l : List UInt8} (h : OwnB w base v l) (hl : l ≠ []) : ∃ g cap, v = .slice (some ⟨g, 0, none⟩) l.length cap ∧ l.length ≤ cap ∧ cap ≤ maxLen ∧ g < w.heap.size := by
  rcases h.1.2 with ⟨e, e2⟩ | ⟨g', cap', cur, e, h1, h2, h3, h4, _⟩
  · exact absurd (List.length_eq_zero_iff.1 e2) hl
  · exact ⟨g', cap', e, h3, h4, (h.1.lt g' (by rw [e]; rfl)).2⟩
theorem quiet_same {P : Program} {f : FuncId} {args : Array Value} {w : World} {n : Nat} {v : Value}
    (h : Calls P f args (w.drewN n) fun e w' => e = .returned v ∧ w.drewN n = w') : Calls P f args (w.drewN n) fun e w'' => e = .returned v ∧ ∃ m, w'' = w.drewN m :=
  h.mono fun _ _ ⟨he, hm⟩ => ⟨he, n, hm.symm⟩
theorem quiet_more {P : Program} {f : FuncId} {args : Array Value} {w : World} {a n : Nat} {v : Value}
    (h : Calls P f args (w.drewN (a + n)) fun e w' => e = .returned v ∧ w.drewN (a + n) = w') : Calls P f args (w.drewN (a + n)) fun e w'' => e = .returned v ∧ ∃ m, w'' = w.drewN (a + m) :=
  h.mono fun _ _ ⟨he, hm⟩ => ⟨he, n, hm.symm⟩
theorem b_draws {B : Nat} {w w1 : World} (h : Below B w w1) (q : Nat) : Below B w (w1.drewN q) := ⟨h.os, h.tape, h.output, h.size, h.block⟩
theorem OwnB.fr {w : World} {base : Nat} {v : Value} {l : List UInt8} (h : OwnB w base v l) : Fr w base v l := by
  by_cases hl : l = []
  · subst hl
    obtain ⟨p, c, e, h2, h3, _⟩ := h.rd
    exact ⟨p, c, e, h2, h3, fun hn => absurd rfl hn⟩
  · obtain ⟨g, cap, rfl, h1, h2, _⟩ := own_form h hl
    have := own_take (m := l.length) (c' := cap) h (Nat.le_refl _) h1 h2
    rw [List.take_length] at this
    exact this
theorem fr_nil (w : World) (base : Nat) : Fr w base (.slice none 0 0) [] := ⟨none, 0, rfl, Nat.le_refl _, Nat.zero_le _, fun h => absurd rfl h⟩
theorem rdB_nil (w : World) : RdB w (.slice none 0 0) [] := ⟨none, 0, rfl, Nat.le_refl _, Nat.zero_le _, fun h => absurd rfl h⟩
theorem RdB.more {w : World} {v : Value} {l : List UInt8} (h : RdB w v l) (o : Obj) : RdB (w.alloc o) v l := h.below ((Below.refl _ w).alloc (Nat.le_refl _) o)
theorem fr_form {w : World} {base : Nat} {v : Value} {l : List UInt8} (h : Fr w base v l) (hl : l ≠ []) : ∃ g o c, v = .slice (some ⟨g, o, none⟩) l.length c ∧ l.length ≤ c ∧ c ≤ 9223372036854775807 := by
  obtain ⟨p, c, rfl, h2, h3, h4⟩ := h
  obtain ⟨g, o, cs, rfl, _⟩ := h4 hl
  exact ⟨g, o, c, rfl, h2, h3⟩
/-- A part of a made row. -/
theorem Fr.cut {w : World} {base g o c m k c' : Nat} {l : List UInt8} (h : Fr w base (.slice (some ⟨g, o, none⟩) l.length c) l) (hk : k + m ≤ l.length) (hm : m ≤ c') (hc : c' ≤ maxLen) : Fr w base (.slice (some ⟨g, o + k, none⟩) m c') ((l.drop k).take m) := by
  have hlen : ((l.drop k).take m).length = m := by rw [List.length_take, List.length_drop]; omega
  refine ⟨some ⟨g, o + k, none⟩, c', by rw [hlen], by omega, hc, fun hn => ?_⟩
  obtain ⟨p, c0, e, h2, h3, h4⟩ := h
  have hl : l ≠ [] := fun e => by subst e; simp at hn
  obtain ⟨g', o', cs, e2, hb, hh, hcs⟩ := h4 hl
  injection e with e1 _ _
  rw [e2] at e1
  injection e1 with e1
  injection e1 with e3 e4
  subst e3; subst e4
  refine ⟨g, o + k, cs, rfl, hb, hh, fun i hi => ?_⟩
  rw [hlen] at hi
  rw [Nat.add_assoc, hcs (k + i) (by omega)]
  simp
theorem RdB.draws {w : World} {v : Value} {l : List UInt8} (h : RdB w v l) (q : Nat) : RdB (w.drewN q) v l := h.below (b_draws (Below.refl _ w) q)
theorem after_alloc {w w1 w2 : World} {o : Obj} (h : Below w.heap.size w w1) (h2 : Below (w1.alloc o).heap.size (w1.alloc o) w2) : Below w.heap.size w w2 ∧ Below w1.heap.size w1 w2 := by
  have h3 : Below w1.heap.size w1 w2 := ((Below.refl _ w1).alloc (Nat.le_refl _) _).trans (h2.mono (by simp))
  exact ⟨bt h h3, h3⟩
theorem below_eq {w w' : World} (h : w = w') : Below w.heap.size w w' := by subst h; exact Below.refl _ _
theorem bsz {w w1 : World} (h : Below w.heap.size w w1) : w.heap.size ≤ w1.heap.size := h.size
theorem lit_rd (w : World) (l : List UInt8) (g n : Nat) (hg : g = w.heap.size) (hn : n = l.length) (hl : l.length ≤ 2000000) : RdB (w.alloc (.cells ((l.map bv).toArray) 5)) (.slice (some ⟨g, 0, none⟩) n n) l := (OwnB.new w w.heap.size n l g hg hn (Nat.le_refl _) hl).rd
theorem lit_rd_m (w : World) (l : List UInt8) (g n : Nat) (fr : Nat × Nat) (hg : g = w.heap.size) (hn : n = l.length) (hl : l.length ≤ 2000000) : RdB (w.alloc (.cells ((l.map bv).toArray) 5 fr)) (.slice (some ⟨g, 0, none⟩) n n) l := by
  subst hg hn
  refine ⟨some ⟨w.heap.size, 0, none⟩, l.length, rfl, Nat.le_refl _, by unfold maxLen; omega, fun _ => ⟨w.heap.size, 0, rfl, by simp, fun i hi => ?_⟩⟩
  rw [World.cell?_alloc_mark]
  simp [hi]
end Go.Proofs.Ytbaodpfiilmpjaa
