/-
  The residual graph in memory; small functions of flow.
-/
import Derived.Test.YtjkempammohkaaaProg
import Derived.Test.YtjkempammohkaaaFlC
import Derived.Laws.BitsAllLaws
import Derived.Laws.BitsLemmas
import Derived.WalkKit
import Derived.Deep.CutBlock
import Derived.Deep.DeepCutAuto
import Derived.Deep.QuietTactic
import Derived.BigQuiet
import Derived.LoopTactic
import Derived.Outline
import Derived.IntWalk
import Derived.Lib.Hide
import Derived.Below
import Derived.StillTailTactics
import Derived.Deep.RegionHeld3
import Derived.Deep.OwnRows
import Derived.Deep.Draws
import Derived.Laws.OwnMore
import Derived.Maps.AppendAt
namespace Go.Proofs.Ytjkempammohkaaa
open Go.RowKit
open IntWalk
open Fl
set_option linter.unusedVariables false

theorem xor_one_nat (e : Nat) : e ^^^ 1 = bk e := by
  have a : (e ^^^ 1) / 2 = e / 2 := by rw [Nat.xor_div_two]; simp
  have b : (e ^^^ 1) % 2 = (e + 1) % 2 := by
    have h : (e ^^^ 1).testBit 0 = ((e.testBit 0) ^^ (Nat.testBit 1 0)) := Nat.testBit_xor ..
    rw [Nat.testBit_zero, Nat.testBit_zero, Nat.testBit_zero] at h
    rcases Nat.mod_two_eq_zero_or_one (e ^^^ 1) with c | c <;> rcases Nat.mod_two_eq_zero_or_one e with d | d <;> simp [c, d] at h <;> omega
  unfold bk
  split <;> omega
theorem ofInt_i64 (a : Nat) (ha : a < 9223372036854775808) : (BitVec.ofInt 64 (a : Int)).toNat = a := by
  rw [BitVec.ofInt_natCast, BitVec.toNat_ofNat]; exact Nat.mod_eq_of_lt (by omega)
theorem i64_xor_nat (a b : Nat) (ha : a < 9223372036854775808) (hb : b < 9223372036854775808) : bits .xor .i64 (a : Int) (b : Int) = ((a ^^^ b : Nat) : Int) := by
  have hx : a ^^^ b < 2 ^ 63 := Nat.xor_lt_two_pow (by omega) (by omega)
  show IntKind.i64.wrap ((BitVec.ofInt 64 (a : Int) ^^^ BitVec.ofInt 64 (b : Int)).toNat : Int) = _
  rw [BitVec.toNat_xor, ofInt_i64 a ha, ofInt_i64 b hb, IntKind.wrap_i64]
  omega
theorem xor_one (e : Nat) (h : e < 100000) : bits .xor .i64 (e : Int) 1 = (bk e : Int) := by
  have := i64_xor_nat e 1 (by omega) (by omega)
  rw [xor_one_nat] at this
  exact this
theorem ret_int {k : IntKind} {a b : Int} (h : a = b) : Ending.returned (.int k a) = .returned (.int k b) := by rw [h]
theorem back_run (e : Nat) (w : World) (h : e < 100000) : Calls Try.prog 30 #[.int .i64 (e : Int)] w fun r w' => r = .returned (.int .i64 (bk e : Int)) ∧ w' = w := by
  have X := Lib.hid (xor_one e h)
  go_enter Try.func30, Try.ntmps30
  go_wp2
  go_ret
  exact ⟨ret_int (by first | exact X.out | (rw [← X.out])), rfl⟩
theorem along_run (a : Nat) (w : World) (h : a < 100000) : Calls Try.prog 31 #[.int .i64 (a : Int)] w fun r w' => r = .returned (.int .i64 ((2 * a : Nat) : Int)) ∧ w' = w := by
  go_enter Try.func31, Try.ntmps31
  go_wp2
  go_ret
  exact ⟨ret_int (by omega), rfl⟩
theorem bcell {W w1 : World} (hb : Below W.heap.size W w1) : (∀ b o, b < W.heap.size → w1.cell? ⟨b, o, none⟩ = W.cell? ⟨b, o, none⟩) ∧ (∀ b o, b < W.heap.size → w1.frozen? ⟨b, o, none⟩ = W.frozen? ⟨b, o, none⟩) :=
  ⟨fun b o h => hb.cell (p := ⟨b, o, none⟩) h, fun b o h => hb.frozen (p := ⟨b, o, none⟩) h⟩
theorem b_draws {B : Nat} {w w1 : World} (h : Below B w w1) (q : Nat) : Below B w (w1.drewN q) := ⟨h.os, h.tape, h.output, h.size, h.block⟩

/-- A slice at the head of a block, as long as its capacity. -/
def sl (b n : Nat) : Value := .slice (some ⟨b, 0, none⟩) n n
/-- Integers as values. -/
def iv (f : Nat → Int) (i : Nat) : Value := .int .i64 (f i)
/-- Where the residual graph lies. -/
structure Bl where
  g : Nat
  F : Nat
  A : Nat
  T : Nat
  R : Nat
  D : Nat
  X : Nat
/-- The blocks differ, and lie from a place on. -/
structure Bl.Ok (q : Bl) (B : Nat) : Prop where
  b : B ≤ q.g ∧ B ≤ q.F ∧ B ≤ q.A ∧ B ≤ q.T ∧ B ≤ q.R ∧ B ≤ q.D ∧ B ≤ q.X
  g : q.g ≠ q.F ∧ q.g ≠ q.A ∧ q.g ≠ q.T ∧ q.g ≠ q.R ∧ q.g ≠ q.D ∧ q.g ≠ q.X
  F : q.F ≠ q.A ∧ q.F ≠ q.T ∧ q.F ≠ q.R ∧ q.F ≠ q.D ∧ q.F ≠ q.X
  A : q.A ≠ q.T ∧ q.A ≠ q.R ∧ q.A ≠ q.D ∧ q.A ≠ q.X
  T : q.T ≠ q.R ∧ q.T ≠ q.D ∧ q.T ≠ q.X
  R : q.R ≠ q.D ∧ q.R ≠ q.X
  D : q.D ≠ q.X
/-- The residual graph in memory. -/
structure Res (w : World) (q : Bl) (G : Nt) (s t : Nat) (R D X : Nat → Int) : Prop where
  hd : w.heap[q.g]? = some (.cells #[.int .i64 (s : Int), .int .i64 (t : Int), sl q.F G.N, sl q.A (2 * G.m), sl q.T (2 * G.m), sl q.R (2 * G.m), sl q.D G.N, sl q.X G.N] 59 (0, 0))
  rF : w.rowIs q.F 3 G.N (iv fun u => G.lst (2 * G.m) u)
  rA : w.rowIs q.A 3 (2 * G.m) (iv fun e => G.lst e (G.ef e))
  rT : w.rowIs q.T 3 (2 * G.m) (iv fun e => (G.et e : Int))
  rR : w.rowIs q.R 3 (2 * G.m) (iv R)
  rD : w.rowIs q.D 3 G.N (iv D)
  rX : w.rowIs q.X 3 G.N (iv X)
theorem cell_of (w : World) (b i : Nat) (c : Array Value) (t : TypeId) (v : Value) (h : w.heap[b]? = some (.cells c t (0, 0))) (hv : c[i]? = some v) : w.cell? ⟨b, i, none⟩ = some v := by
  simp [World.cell?, h, hv]
namespace Res
variable {w : World} {q : Bl} {G : Nt} {s t : Nat} {R D X : Nat → Int}
theorem g0 (h : Res w q G s t R D X) : w.cell? ⟨q.g, 0, none⟩ = some (.int .i64 (s : Int)) := cell_of _ _ _ _ _ _ h.hd rfl
theorem g1 (h : Res w q G s t R D X) : w.cell? ⟨q.g, 1, none⟩ = some (.int .i64 (t : Int)) := cell_of _ _ _ _ _ _ h.hd rfl
theorem g2 (h : Res w q G s t R D X) : w.cell? ⟨q.g, 2, none⟩ = some (.slice (some ⟨q.F, 0, none⟩) G.N G.N) := cell_of _ _ _ _ _ _ h.hd rfl
theorem g3 (h : Res w q G s t R D X) : w.cell? ⟨q.g, 3, none⟩ = some (.slice (some ⟨q.A, 0, none⟩) (2 * G.m) (2 * G.m)) := cell_of _ _ _ _ _ _ h.hd rfl
theorem g4 (h : Res w q G s t R D X) : w.cell? ⟨q.g, 4, none⟩ = some (.slice (some ⟨q.T, 0, none⟩) (2 * G.m) (2 * G.m)) := cell_of _ _ _ _ _ _ h.hd rfl
theorem g5 (h : Res w q G s t R D X) : w.cell? ⟨q.g, 5, none⟩ = some (.slice (some ⟨q.R, 0, none⟩) (2 * G.m) (2 * G.m)) := cell_of _ _ _ _ _ _ h.hd rfl
theorem g6 (h : Res w q G s t R D X) : w.cell? ⟨q.g, 6, none⟩ = some (.slice (some ⟨q.D, 0, none⟩) G.N G.N) := cell_of _ _ _ _ _ _ h.hd rfl
theorem g7 (h : Res w q G s t R D X) : w.cell? ⟨q.g, 7, none⟩ = some (.slice (some ⟨q.X, 0, none⟩) G.N G.N) := cell_of _ _ _ _ _ _ h.hd rfl
theorem cF (h : Res w q G s t R D X) {u : Nat} (hu : u < G.N) : w.cell? ⟨q.F, u, none⟩ = some (.int .i64 (G.lst (2 * G.m) u)) := h.rF.cell hu
theorem cA (h : Res w q G s t R D X) {e : Nat} (he : e < 2 * G.m) : w.cell? ⟨q.A, e, none⟩ = some (.int .i64 (G.lst e (G.ef e))) := h.rA.cell he
theorem cT (h : Res w q G s t R D X) {e : Nat} (he : e < 2 * G.m) : w.cell? ⟨q.T, e, none⟩ = some (.int .i64 (G.et e : Int)) := h.rT.cell he
theorem cR (h : Res w q G s t R D X) {e : Nat} (he : e < 2 * G.m) : w.cell? ⟨q.R, e, none⟩ = some (.int .i64 (R e)) := h.rR.cell he
theorem cD (h : Res w q G s t R D X) {u : Nat} (hu : u < G.N) : w.cell? ⟨q.D, u, none⟩ = some (.int .i64 (D u)) := h.rD.cell hu
theorem cX (h : Res w q G s t R D X) {u : Nat} (hu : u < G.N) : w.cell? ⟨q.X, u, none⟩ = some (.int .i64 (X u)) := h.rX.cell hu
theorem of_heap {w' : World} (h : Res w q G s t R D X) (e : w'.heap = w.heap) : Res w' q G s t R D X :=
  ⟨by rw [e]; exact h.hd, h.rF.of_block (by rw [e]), h.rA.of_block (by rw [e]), h.rT.of_block (by rw [e]), h.rR.of_block (by rw [e]), h.rD.of_block (by rw [e]), h.rX.of_block (by rw [e])⟩
theorem drew (h : Res w q G s t R D X) : Res w.drew q G s t R D X := h.of_heap rfl
theorem drewN (h : Res w q G s t R D X) (n : Nat) : Res (w.drewN n) q G s t R D X := h.of_heap rfl
theorem size (h : Res w q G s t R D X) : q.g < w.heap.size ∧ q.F < w.heap.size ∧ q.A < w.heap.size ∧ q.T < w.heap.size ∧ q.R < w.heap.size ∧ q.D < w.heap.size ∧ q.X < w.heap.size :=
  ⟨(Array.getElem?_eq_some_iff.1 h.hd).1, h.rF.lt, h.rA.lt, h.rT.lt, h.rR.lt, h.rD.lt, h.rX.lt⟩
theorem setR {B : Nat} (h : Res w q G s t R D X) (o : q.Ok B) (e : Nat) (x : Int) : Res (w.setCell ⟨q.R, e, none⟩ (.int .i64 x)) q G s t (upd R e x) D X := by
  obtain ⟨hd, rF, rA, rT, rR, rD, rX⟩ := h
  refine ⟨(Go.Deep.blk_setCell_other _ _ _ _ o.g.2.2.2.1).trans hd, rF.setOther o.F.2.2.1 _, rA.setOther o.A.2.1 _, rT.setOther o.T.1 _, (rR.set e _).congr fun i hi => ?_, rD.setOther (Ne.symm o.R.1) _, rX.setOther (Ne.symm o.R.2) _⟩
  show (if i = e then _ else _) = Value.int .i64 (if i = e then x else R i)
  split <;> rfl
theorem setD {B : Nat} (h : Res w q G s t R D X) (o : q.Ok B) (e : Nat) (x : Int) : Res (w.setCell ⟨q.D, e, none⟩ (.int .i64 x)) q G s t R (upd D e x) X := by
  obtain ⟨hd, rF, rA, rT, rR, rD, rX⟩ := h
  refine ⟨(Go.Deep.blk_setCell_other _ _ _ _ o.g.2.2.2.2.1).trans hd, rF.setOther o.F.2.2.2.1 _, rA.setOther o.A.2.2.1 _, rT.setOther o.T.2.1 _, rR.setOther o.R.1 _, (rD.set e _).congr fun i hi => ?_, rX.setOther (Ne.symm o.D) _⟩
  show (if i = e then _ else _) = Value.int .i64 (if i = e then x else D i)
  split <;> rfl
theorem setX {B : Nat} (h : Res w q G s t R D X) (o : q.Ok B) (e : Nat) (x : Int) : Res (w.setCell ⟨q.X, e, none⟩ (.int .i64 x)) q G s t R D (upd X e x) := by
  obtain ⟨hd, rF, rA, rT, rR, rD, rX⟩ := h
  refine ⟨(Go.Deep.blk_setCell_other _ _ _ _ o.g.2.2.2.2.2).trans hd, rF.setOther o.F.2.2.2.2 _, rA.setOther o.A.2.2.2 _, rT.setOther o.T.2.2 _, rR.setOther o.R.2 _, rD.setOther o.D _, (rX.set e _).congr fun i hi => ?_⟩
  show (if i = e then _ else _) = Value.int .i64 (if i = e then x else X i)
  split <;> rfl
theorem congr {R' D' X' : Nat → Int} (h : Res w q G s t R D X) (eR : ∀ e, e < 2 * G.m → R e = R' e) (eD : ∀ u, u < G.N → D u = D' u) (eX : ∀ u, u < G.N → X u = X' u) : Res w q G s t R' D' X' :=
  ⟨h.hd, h.rF, h.rA, h.rT, h.rR.congr fun i hi => by show Value.int _ _ = Value.int _ _; rw [eR i hi], h.rD.congr fun i hi => by show Value.int _ _ = Value.int _ _; rw [eD i hi], h.rX.congr fun i hi => by show Value.int _ _ = Value.int _ _; rw [eX i hi]⟩
/-- What is kept where other blocks are written. -/
theorem kept {w' : World} (h : Res w q G s t R D X) (k : ∀ b, b < w.heap.size → (b = q.g ∨ b = q.F ∨ b = q.A ∨ b = q.T ∨ b = q.R ∨ b = q.D ∨ b = q.X) → w'.heap[b]? = w.heap[b]?) : Res w' q G s t R D X := by
  obtain ⟨z1, z2, z3, z4, z5, z6, z7⟩ := h.size
  exact ⟨(k _ z1 (by simp)).trans h.hd, h.rF.of_block (k _ z2 (by simp)), h.rA.of_block (k _ z3 (by simp)), h.rT.of_block (k _ z4 (by simp)), h.rR.of_block (k _ z5 (by simp)), h.rD.of_block (k _ z6 (by simp)), h.rX.of_block (k _ z7 (by simp))⟩
theorem below {w' : World} (h : Res w q G s t R D X) (hb : Below w.heap.size w w') : Res w' q G s t R D X := h.kept fun b hl _ => hb.block b hl
theorem alloc (h : Res w q G s t R D X) (o : Obj) : Res (w.alloc o) q G s t R D X := h.kept fun b hl _ => Go.Deep.blk_alloc_lt _ _ _ hl
end Res
end Go.Proofs.Ytjkempammohkaaa
