/-
  The residual graph is made: an edge is added; networks in memory.
-/
import Derived.Test.YtjkempammohkaaaFlF
import Derived.Test.YtjkempammohkaaaFlI
namespace Go.Proofs.Ytjkempammohkaaa
open Go.RowKit
open IntWalk
open Fl
set_option linter.unusedVariables false

/-- An arc as it is written. -/
structure Ac where
  f : Int
  t : Int
  c : Int
/-- The arcs of a network in memory. -/
def NetAt (w : World) (p : Option Addr) (l : List Ac) : Prop :=
  l ≠ [] → ∃ b o, p = some ⟨b, o, none⟩ ∧ b < w.heap.size ∧ ∀ i (h : i < l.length), w.cell? ⟨b, o + i * 3, none⟩ = some (.int .i64 (l[i]'h).f) ∧ w.cell? ⟨b, o + i * 3 + 1, none⟩ = some (.int .i64 (l[i]'h).t) ∧ w.cell? ⟨b, o + i * 3 + 2, none⟩ = some (.int .i64 (l[i]'h).c)
theorem NetAt.below {w w' : World} {p : Option Addr} {l : List Ac} (h : NetAt w p l) (hb : Below w.heap.size w w') : NetAt w' p l := fun hn => by
  obtain ⟨b, o, e, hl, hc⟩ := h hn
  refine ⟨b, o, e, Nat.lt_of_lt_of_le hl hb.size, fun i hi => ?_⟩
  obtain ⟨a1, a2, a3⟩ := hc i hi
  exact ⟨(hb.cell (p := ⟨b, _, none⟩) hl).trans a1, (hb.cell (p := ⟨b, _, none⟩) hl).trans a2, (hb.cell (p := ⟨b, _, none⟩) hl).trans a3⟩
/-- The network that is written so, in plain numbers. -/
def netG (N : Int) (l : List Ac) : Nt := ⟨N.toNat, l.length, fun i => (l.getD i ⟨0, 0, 0⟩).f.toNat, fun i => (l.getD i ⟨0, 0, 0⟩).t.toNat, fun i => (l.getD i ⟨0, 0, 0⟩).c⟩
/-- The network is in order. -/
structure NetOk (N : Int) (l : List Ac) : Prop where
  n2 : 2 ≤ N
  f0 : ∀ a ∈ l, 0 ≤ a.f ∧ a.f < N
  t0 : ∀ a ∈ l, 0 ≤ a.t ∧ a.t < N
  ne : ∀ a ∈ l, a.f ≠ a.t
  c0 : ∀ a ∈ l, 0 ≤ a.c ∧ a.c ≤ 1099511627776
theorem NetOk.ok {N : Int} {l : List Ac} (h : NetOk N l) : (netG N l).Ok := by
  have m : ∀ i, i < l.length → l.getD i ⟨0, 0, 0⟩ ∈ l := fun i hi => by
    rw [List.getD_eq_getElem?_getD, List.getElem?_eq_getElem hi]
    exact List.getElem_mem hi
  refine ⟨fun i hi => ?_, fun i hi => ?_, fun i hi => ?_, fun i hi => ?_, fun i hi => ?_⟩
  · have := h.f0 _ (m i hi); show (l.getD i ⟨0, 0, 0⟩).f.toNat < N.toNat; omega
  · have := h.t0 _ (m i hi); show (l.getD i ⟨0, 0, 0⟩).t.toNat < N.toNat; omega
  · have a := h.f0 _ (m i hi); have b := h.t0 _ (m i hi); have c := h.ne _ (m i hi); show (l.getD i ⟨0, 0, 0⟩).f.toNat ≠ (l.getD i ⟨0, 0, 0⟩).t.toNat; omega
  · exact (h.c0 _ (m i hi)).1
  · exact (h.c0 _ (m i hi)).2
theorem NetOk.at_ {N : Int} {l : List Ac} (h : NetOk N l) (i : Nat) (hi : i < l.length) : (l[i]'hi).f = ((netG N l).fr i : Int) ∧ (l[i]'hi).t = ((netG N l).to i : Int) ∧ (l[i]'hi).c = (netG N l).cap i := by
  have e : l.getD i ⟨0, 0, 0⟩ = l[i] := by simp [hi]
  have a := h.f0 l[i] (List.getElem_mem hi)
  have b := h.t0 l[i] (List.getElem_mem hi)
  refine ⟨?_, ?_, ?_⟩
  · show _ = (((l.getD i ⟨0, 0, 0⟩).f.toNat : Nat) : Int); rw [e]; omega
  · show _ = (((l.getD i ⟨0, 0, 0⟩).t.toNat : Nat) : Int); rw [e]; omega
  · show _ = (l.getD i ⟨0, 0, 0⟩).c; rw [e]

/-- The residual graph in memory while it is made. -/
structure Raw (w : World) (q : Bl) (N E s t : Nat) (F A T R : Nat → Int) : Prop where
  hd : w.heap[q.g]? = some (.cells #[.int .i64 (s : Int), .int .i64 (t : Int), sl q.F N, sl q.A E, sl q.T E, sl q.R E, sl q.D N, sl q.X N] 59 (0, 0))
  rF : w.rowIs q.F 3 N (iv F)
  rA : w.rowIs q.A 3 E (iv A)
  rT : w.rowIs q.T 3 E (iv T)
  rR : w.rowIs q.R 3 E (iv R)
  rD : w.rowIs q.D 3 N (iv fun _ => 0)
  rX : w.rowIs q.X 3 N (iv fun _ => 0)
namespace Raw
variable {w : World} {q : Bl} {N E s t : Nat} {F A T R : Nat → Int}
theorem g2 (h : Raw w q N E s t F A T R) : w.cell? ⟨q.g, 2, none⟩ = some (.slice (some ⟨q.F, 0, none⟩) N N) := cell_of _ _ _ _ _ _ h.hd rfl
theorem g3 (h : Raw w q N E s t F A T R) : w.cell? ⟨q.g, 3, none⟩ = some (.slice (some ⟨q.A, 0, none⟩) E E) := cell_of _ _ _ _ _ _ h.hd rfl
theorem g4 (h : Raw w q N E s t F A T R) : w.cell? ⟨q.g, 4, none⟩ = some (.slice (some ⟨q.T, 0, none⟩) E E) := cell_of _ _ _ _ _ _ h.hd rfl
theorem g5 (h : Raw w q N E s t F A T R) : w.cell? ⟨q.g, 5, none⟩ = some (.slice (some ⟨q.R, 0, none⟩) E E) := cell_of _ _ _ _ _ _ h.hd rfl
theorem drew (h : Raw w q N E s t F A T R) : Raw w.drew q N E s t F A T R := ⟨h.hd, h.rF, h.rA, h.rT, h.rR, h.rD, h.rX⟩
theorem drewN (h : Raw w q N E s t F A T R) (n : Nat) : Raw (w.drewN n) q N E s t F A T R := ⟨h.hd, h.rF, h.rA, h.rT, h.rR, h.rD, h.rX⟩
theorem alloc (h : Raw w q N E s t F A T R) (o : Obj) : Raw (w.alloc o) q N E s t F A T R :=
  ⟨(Go.Deep.blk_alloc_lt _ _ _ (Array.getElem?_eq_some_iff.1 h.hd).1).trans h.hd, h.rF.alloc _, h.rA.alloc _, h.rT.alloc _, h.rR.alloc _, h.rD.alloc _, h.rX.alloc _⟩
theorem size (h : Raw w q N E s t F A T R) : q.g < w.heap.size ∧ q.F < w.heap.size ∧ q.A < w.heap.size ∧ q.T < w.heap.size ∧ q.R < w.heap.size ∧ q.D < w.heap.size ∧ q.X < w.heap.size :=
  ⟨(Array.getElem?_eq_some_iff.1 h.hd).1, h.rF.lt, h.rA.lt, h.rT.lt, h.rR.lt, h.rD.lt, h.rX.lt⟩
theorem iv_upd {w : World} {b n : Nat} {f : Nat → Int} (h : w.rowIs b 3 n (iv f)) (i : Nat) (x : Int) : (w.setCell ⟨b, i, none⟩ (.int .i64 x)).rowIs b 3 n (iv (upd f i x)) :=
  (h.set i _).congr fun j hj => by
    show (if j = i then _ else _) = Value.int .i64 (if j = i then x else f j)
    split <;> rfl
theorem setF {B : Nat} (h : Raw w q N E s t F A T R) (o : q.Ok B) (i : Nat) (x : Int) : Raw (w.setCell ⟨q.F, i, none⟩ (.int .i64 x)) q N E s t (upd F i x) A T R := by
  obtain ⟨hd, rF, rA, rT, rR, rD, rX⟩ := h
  exact ⟨(Go.Deep.blk_setCell_other _ _ _ _ o.g.1).trans hd, iv_upd rF i x, rA.setOther (Ne.symm o.F.1) _, rT.setOther (Ne.symm o.F.2.1) _, rR.setOther (Ne.symm o.F.2.2.1) _, rD.setOther (Ne.symm o.F.2.2.2.1) _, rX.setOther (Ne.symm o.F.2.2.2.2) _⟩
theorem setA {B : Nat} (h : Raw w q N E s t F A T R) (o : q.Ok B) (i : Nat) (x : Int) : Raw (w.setCell ⟨q.A, i, none⟩ (.int .i64 x)) q N E s t F (upd A i x) T R := by
  obtain ⟨hd, rF, rA, rT, rR, rD, rX⟩ := h
  exact ⟨(Go.Deep.blk_setCell_other _ _ _ _ o.g.2.1).trans hd, rF.setOther o.F.1 _, iv_upd rA i x, rT.setOther (Ne.symm o.A.1) _, rR.setOther (Ne.symm o.A.2.1) _, rD.setOther (Ne.symm o.A.2.2.1) _, rX.setOther (Ne.symm o.A.2.2.2) _⟩
theorem setT {B : Nat} (h : Raw w q N E s t F A T R) (o : q.Ok B) (i : Nat) (x : Int) : Raw (w.setCell ⟨q.T, i, none⟩ (.int .i64 x)) q N E s t F A (upd T i x) R := by
  obtain ⟨hd, rF, rA, rT, rR, rD, rX⟩ := h
  exact ⟨(Go.Deep.blk_setCell_other _ _ _ _ o.g.2.2.1).trans hd, rF.setOther o.F.2.1 _, rA.setOther o.A.1 _, iv_upd rT i x, rR.setOther (Ne.symm o.T.1) _, rD.setOther (Ne.symm o.T.2.1) _, rX.setOther (Ne.symm o.T.2.2) _⟩
theorem setR {B : Nat} (h : Raw w q N E s t F A T R) (o : q.Ok B) (i : Nat) (x : Int) : Raw (w.setCell ⟨q.R, i, none⟩ (.int .i64 x)) q N E s t F A T (upd R i x) := by
  obtain ⟨hd, rF, rA, rT, rR, rD, rX⟩ := h
  exact ⟨(Go.Deep.blk_setCell_other _ _ _ _ o.g.2.2.2.1).trans hd, rF.setOther o.F.2.2.1 _, rA.setOther o.A.2.1 _, rT.setOther o.T.1 _, iv_upd rR i x, rD.setOther (Ne.symm o.R.1) _, rX.setOther (Ne.symm o.R.2) _⟩
end Raw

/-- Four lists alone have been written. -/
def Ex4 (q : Bl) (w w' : World) : Prop := ∀ b, b ≠ q.F → b ≠ q.A → b ≠ q.T → b ≠ q.R → w'.heap[b]? = w.heap[b]?
theorem Ex4.set {q : Bl} {w w' : World} (h : Ex4 q w w') (a : Addr) (ha : a.block = q.F ∨ a.block = q.A ∨ a.block = q.T ∨ a.block = q.R) (v : Value) : Ex4 q w (w'.setCell a v) := fun b h1 h2 h3 h4 =>
  (Go.Deep.blk_setCell_other _ _ _ _ (by rcases ha with e | e | e | e <;> rw [e] <;> assumption)).trans (h b h1 h2 h3 h4)

set_option maxHeartbeats 4000000 in
set_option maxRecDepth 100000 in
theorem add_run {B : Nat} {q : Bl} (o : q.Ok B) {N E s t : Nat} (hE : E ≤ 20000) (hN : N ≤ 10000) {F A T R : Nat → Int} {w : World} (h : Raw w q N E s t F A T R) (e u : Nat) (x y : Int) (he : e < E) (hu : u < N) :
    Calls Try.prog 36 #[.pointer (some ⟨q.g, 0, none⟩), .int .i64 (e : Int), .int .i64 (u : Int), .int .i64 x, .int .i64 y] w fun r w' => r = .returned (.tuple #[]) ∧ Raw w' q N E s t (upd F u e) (upd A e (F u)) (upd T e x) (upd R e y) ∧ Below B w w' ∧ Ex4 q w w' := by
  have O := Lib.hid o
  have H := Lib.hid h
  have k4 := h.g4
  have kt := h.rT.cell he
  have ft := h.rT.frozen e
  clear o h
  have i0 : (0 : Int) ≤ (e : Int) := by omega
  have i1 : (e : Int) < (E : Int) := by omega
  have i2 : (0 : Int) ≤ (u : Int) := by omega
  have i3 : (u : Int) < (N : Int) := by omega
  go_enter Try.func36, Try.ntmps36
  go_upto_region 1 with fail
  have H1 := Lib.hid (H.out.setT O.out e x)
  have B1 : Hid (Below B w (w.setCell ⟨q.T, e, none⟩ (.int .i64 x))) := Lib.hid ((Below.refl _ _).setCell (p := ⟨q.T, e, none⟩) O.out.b.2.2.2.1 _)
  have X1 : Hid (Ex4 q w (w.setCell ⟨q.T, e, none⟩ (.int .i64 x))) := Lib.hid (Ex4.set (fun _ _ _ _ _ => rfl) ⟨q.T, e, none⟩ (.inr (.inr (.inl rfl))) _)
  clear k4 kt ft
  revert H1 B1 X1
  generalize (w.setCell { block := q.T, off := e } (Value.int IntKind.i64 x)) = w1
  intro H1 B1 X1
  have k5 := H1.out.g5
  have kr := H1.out.rR.cell he
  have fr := H1.out.rR.frozen e
  go_upto_region 2 with fail
  have H2 := Lib.hid (H1.out.setR O.out e y)
  have B2 := Lib.hid (B1.out.setCell (p := ⟨q.R, e, none⟩) O.out.b.2.2.2.2.1 (Value.int IntKind.i64 y))
  have X2 := Lib.hid (X1.out.set ⟨q.R, e, none⟩ (.inr (.inr (.inr rfl))) (Value.int IntKind.i64 y))
  clear k5 kr fr H1 B1 X1
  revert H2 B2 X2
  generalize (w1.setCell { block := q.R, off := e } (Value.int IntKind.i64 y)) = w2
  intro H2 B2 X2
  have k2 := H2.out.g2
  have k3 := H2.out.g3
  have kf := H2.out.rF.cell hu
  have ka := H2.out.rA.cell he
  have fa := H2.out.rA.frozen e
  obtain ⟨z, hz⟩ : ∃ z, z = F u := ⟨_, rfl⟩
  have kf' : w2.cell? ⟨q.F, u, none⟩ = some (.int .i64 z) := by rw [hz]; exact kf
  have HZ := Lib.hid hz
  clear hz kf
  have d2 : World.cell? { heap := w2.heap, tape := w2.tape, drawn := w2.drawn + 1, os := w2.os, output := w2.output } ⟨q.g, 2, none⟩ = some (.slice (some ⟨q.F, 0, none⟩) N N) := k2
  have d3 : World.cell? { heap := w2.heap, tape := w2.tape, drawn := w2.drawn + 1, os := w2.os, output := w2.output } ⟨q.g, 3, none⟩ = some (.slice (some ⟨q.A, 0, none⟩) E E) := k3
  have df : World.cell? { heap := w2.heap, tape := w2.tape, drawn := w2.drawn + 1, os := w2.os, output := w2.output } ⟨q.F, u, none⟩ = some (.int .i64 z) := kf'
  go_still_tail 13, (by kernel_rfl)
  change wpList _ _ _ _ _ w2.drew
  have ka' : w2.drew.cell? ⟨q.A, e, none⟩ = _ := ka
  have fa' : w2.drew.frozen? ⟨q.A, e, none⟩ = false := fa
  have H3 := Lib.hid (H2.out.setA O.out e z).drew
  have B3 := Lib.hid (B2.out.setCell (p := ⟨q.A, e, none⟩) O.out.b.2.2.1 (Value.int IntKind.i64 z)).drew
  have X3 : Hid (Ex4 q w ((w2.setCell ⟨q.A, e, none⟩ (Value.int IntKind.i64 z)).drew)) := Lib.hid (X2.out.set ⟨q.A, e, none⟩ (.inr (.inl rfl)) (Value.int IntKind.i64 z))
  go_upto_region 3 with fail
  clear d2 d3 df k2 k3 kf' ka fa ka' fa' H2 B2 X2
  revert H3 B3 X3
  generalize ((w2.setCell { block := q.A, off := e } (Value.int IntKind.i64 z)).drew) = w3
  intro H3 B3 X3
  have k2 := H3.out.g2
  have kf := H3.out.rF.cell hu
  have ff := H3.out.rF.frozen u
  go_wp2_with fail
  go_end0
  refine ⟨rfl, ?_, B3.out.setCell (p := ⟨q.F, u, none⟩) O.out.b.2.1 _, X3.out.set ⟨q.F, u, none⟩ (.inl rfl) _⟩
  rw [← HZ.out]
  exact H3.out.setF O.out u e
end Go.Proofs.Ytjkempammohkaaa
