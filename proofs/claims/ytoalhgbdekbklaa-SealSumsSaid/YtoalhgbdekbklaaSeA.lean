/-
  The state of the hash: rotations of 64 bits and one round, as the program and its reference compute them.
-/
import Derived.Test.YtoalhgbdekbklaaProg
import Derived.WalkKit
import Derived.Deep.CutBlock
import Derived.Deep.DeepCutAuto
import Derived.Deep.QuietTactic
import Derived.BigQuiet
import Derived.LoopTactic
import Derived.Outline
import Derived.IntWalk
import Derived.Lib.Hide
import Derived.Below
import Derived.StillTailTactics
import Derived.Deep.RegionHeld3
namespace Go.Proofs.Ytoalhgbdekbklaa
open Go.RowKit
open IntWalk

/-- A rotation to the left. -/
def rotI (x n : Int) : Int := bits .or .u64 (IntKind.u64.wrap (x * 2 ^ n.toNat)) (x / 2 ^ (64 - n).toNat)
def addI (x y : Int) : Int := IntKind.u64.wrap (x + y)
def xorI (x y : Int) : Int := bits .xor .u64 x y
structure St where
  a : Int
  b : Int
  c : Int
  d : Int
def rnd (s : St) : St :=
  ⟨addI (rotI (addI s.a s.b) 32) (xorI (rotI s.d 16) (addI s.c s.d)),
   xorI (rotI (xorI (rotI s.b 13) (addI s.a s.b)) 17) (addI (addI s.c s.d) (xorI (rotI s.b 13) (addI s.a s.b))),
   rotI (addI (addI s.c s.d) (xorI (rotI s.b 13) (addI s.a s.b))) 32,
   xorI (rotI (xorI (rotI s.d 16) (addI s.c s.d)) 21) (addI (rotI (addI s.a s.b) 32) (xorI (rotI s.d 16) (addI s.c s.d)))⟩
def rndN (s : St) : Nat → St
  | 0 => s
  | k + 1 => rnd (rndN s k)
/-- The four cells of a state, open to be written. -/
def Ce (w : World) (g : Nat) (a b c d : Int) : Prop :=
  g < w.heap.size ∧ w.cell? ⟨g, 0, none⟩ = some (.int .u64 a) ∧ w.cell? ⟨g, 1, none⟩ = some (.int .u64 b) ∧ w.cell? ⟨g, 2, none⟩ = some (.int .u64 c) ∧ w.cell? ⟨g, 3, none⟩ = some (.int .u64 d) ∧ ∀ i, w.frozen? ⟨g, i, none⟩ = false
theorem rot_run (x n : Int) (w : World) (hb : bits .and .u64 n 63 = n) (h0 : 0 ≤ n) (h : n < 64) : Calls Try.prog 25 #[.int .u64 x, .int .i64 n] w fun e w' => e = .returned (.int .u64 (rotI x n)) ∧ w' = w := by
  go_enter Try.func25, Try.ntmps25
  go_wp2
  go_ret
  exact ⟨rfl, rfl⟩
theorem turn_run (x n : Int) (w : World) (h0 : 0 ≤ n) (h : n < 64) : Calls Try.prog 23 #[.int .u64 x, .int .u64 n] w fun e w' => e = .returned (.int .u64 (rotI x n)) ∧ w' = w := by
  go_enter Try.func23, Try.ntmps23
  go_wp2
  go_ret
  exact ⟨rfl, rfl⟩


theorem Ce.drew {w : World} {g : Nat} {a b c d : Int} (h : Ce w g a b c d) : Ce w.drew g a b c d := h
theorem Ce.put0 {w : World} {g : Nat} {a b c d : Int} (h : Ce w g a b c d) (x : Int) : Ce (w.setCell ⟨g, 0, none⟩ (.int .u64 x)) g x b c d := by
  obtain ⟨hg, ha, hb, hc, hd, hz⟩ := h
  exact ⟨by simpa using hg, by simp [go_sem, ha], by simp [go_sem, hb], by simp [go_sem, hc], by simp [go_sem, hd], fun i => by simpa [go_sem] using hz i⟩
theorem Ce.put1 {w : World} {g : Nat} {a b c d : Int} (h : Ce w g a b c d) (x : Int) : Ce (w.setCell ⟨g, 1, none⟩ (.int .u64 x)) g a x c d := by
  obtain ⟨hg, ha, hb, hc, hd, hz⟩ := h
  exact ⟨by simpa using hg, by simp [go_sem, ha], by simp [go_sem, hb], by simp [go_sem, hc], by simp [go_sem, hd], fun i => by simpa [go_sem] using hz i⟩
theorem Ce.put2 {w : World} {g : Nat} {a b c d : Int} (h : Ce w g a b c d) (x : Int) : Ce (w.setCell ⟨g, 2, none⟩ (.int .u64 x)) g a b x d := by
  obtain ⟨hg, ha, hb, hc, hd, hz⟩ := h
  exact ⟨by simpa using hg, by simp [go_sem, ha], by simp [go_sem, hb], by simp [go_sem, hc], by simp [go_sem, hd], fun i => by simpa [go_sem] using hz i⟩
theorem Ce.put3 {w : World} {g : Nat} {a b c d : Int} (h : Ce w g a b c d) (x : Int) : Ce (w.setCell ⟨g, 3, none⟩ (.int .u64 x)) g a b c x := by
  obtain ⟨hg, ha, hb, hc, hd, hz⟩ := h
  exact ⟨by simpa using hg, by simp [go_sem, ha], by simp [go_sem, hb], by simp [go_sem, hc], by simp [go_sem, hd], fun i => by simpa [go_sem] using hz i⟩
theorem Ce.off {w : World} {g h : Nat} {a b c d : Int} (k : Ce w h a b c d) (t : Nat) (v : Value) (hn : g < h) : Ce (w.setCell ⟨g, t, none⟩ v) h a b c d := by
  obtain ⟨hg, ha, hb, hc, hd, hz⟩ := k
  have hne : ∀ i, (⟨h, i, none⟩ : Addr) ≠ ⟨g, t, none⟩ := fun i e => by have := congrArg Addr.block e; simp only at this; omega
  refine ⟨by simpa using hg, ?_, ?_, ?_, ?_, fun i => ?_⟩
  · rw [World.cell?_setCell_other _ _ _ _ ((hne 0).symm)]; exact ha
  · rw [World.cell?_setCell_other _ _ _ _ ((hne 1).symm)]; exact hb
  · rw [World.cell?_setCell_other _ _ _ _ ((hne 2).symm)]; exact hc
  · rw [World.cell?_setCell_other _ _ _ _ ((hne 3).symm)]; exact hd
  · rw [World.frozen?_setCell]; exact hz i
theorem Ce.low {w : World} {g : Nat} {a b c d : Int} (h : Ce w g a b c d) : g < w.heap.size := h.1
theorem xor_is (x y : Int) : bits .xor .u64 x y = xorI x y := rfl
theorem add_is (x y : Int) : IntKind.u64.wrap (x + y) = addI x y := rfl

set_option maxHeartbeats 4000000 in
set_option maxRecDepth 100000 in
theorem round_run (g : Nat) (a b c d : Int) (w : World) (h : Ce w g a b c d) :
    Calls Try.prog 24 #[.pointer (some ⟨g, 0, none⟩)] w fun e w' => e = .returned (.tuple #[]) ∧ Ce w' g (rnd ⟨a, b, c, d⟩).a (rnd ⟨a, b, c, d⟩).b (rnd ⟨a, b, c, d⟩).c (rnd ⟨a, b, c, d⟩).d ∧ Below g w w' := by
  have r13 : ∀ x W, Calls Try.prog 25 #[.int .u64 x, .int .i64 13] W fun e w' => e = .returned (.int .u64 (rotI x 13)) ∧ w' = W := fun x W => rot_run x 13 W (by decide) (by omega) (by omega)
  have r16 : ∀ x W, Calls Try.prog 25 #[.int .u64 x, .int .i64 16] W fun e w' => e = .returned (.int .u64 (rotI x 16)) ∧ w' = W := fun x W => rot_run x 16 W (by decide) (by omega) (by omega)
  have r17 : ∀ x W, Calls Try.prog 25 #[.int .u64 x, .int .i64 17] W fun e w' => e = .returned (.int .u64 (rotI x 17)) ∧ w' = W := fun x W => rot_run x 17 W (by decide) (by omega) (by omega)
  have r21 : ∀ x W, Calls Try.prog 25 #[.int .u64 x, .int .i64 21] W fun e w' => e = .returned (.int .u64 (rotI x 21)) ∧ w' = W := fun x W => rot_run x 21 W (by decide) (by omega) (by omega)
  have r32 : ∀ x W, Calls Try.prog 25 #[.int .u64 x, .int .i64 32] W fun e w' => e = .returned (.int .u64 (rotI x 32)) ∧ w' = W := fun x W => rot_run x 32 W (by decide) (by omega) (by omega)
  have C0 := Lib.hid h
  clear h
  obtain ⟨w0, hw0⟩ : ∃ z, z = w := ⟨_, rfl⟩
  rw [← hw0] at C0 ⊢
  have B0 : Hid (Below g w w0) := Lib.hid (by rw [hw0]; exact Below.refl g w)
  have HW := Lib.hid hw0
  clear hw0
  go_enter Try.func24, Try.ntmps24
  go_upto_region 0 with fail
  -- add
  obtain ⟨hg, ha, hb, hc, hd, hz⟩ := C0.out
  have zt := hz 0
  clear hz
  go_region
  go_upto_region 1 with fail
  have C1 := Lib.hid (C0.out.put0 (addI a b)).drew
  have B1 := Lib.hid (B0.out.setCell (p := ⟨g, 0, none⟩) (Nat.le_refl _) (Value.int IntKind.u64 (addI a b))).drew
  clear hg ha hb hc hd zt
  rw [add_is] 
  revert C1 B1
  generalize ((w0.setCell { block := g, off := 0 } (Value.int IntKind.u64 (addI a b))).drew) = w1
  intro C1 B1
  have Hx0 : ∃ z, z = addI a b := ⟨_, rfl⟩
  obtain ⟨x0, hx0⟩ := Hx0
  rw [← hx0] at C1
  have Kx0 := Lib.hid hx0
  clear hx0
  -- rx
  obtain ⟨hg, ha, hb, hc, hd, hz⟩ := C1.out
  have zt := hz 1
  clear hz
  have e1 : World.cell? { heap := w1.heap, tape := w1.tape, drawn := w1.drawn + 1, os := w1.os, output := w1.output } ⟨g, 1, none⟩ = some (.int .u64 b) := hb
  have e0 : World.cell? { heap := w1.heap, tape := w1.tape, drawn := w1.drawn + 1, os := w1.os, output := w1.output } ⟨g, 0, none⟩ = some (.int .u64 x0) := ha
  go_still_tail 13, (by kernel_rfl)
  still_call (r13 _ _)
  repeat still_step
  refine wpStill_nil ?_
  change wpList _ _ _ _ _ w1.drew
  have D1 := Lib.hid C1.out.drew
  have E1 := Lib.hid B1.out.drew
  clear e1 e0 ha hb hc hd hg zt
  revert D1 E1
  generalize w1.drew = v1
  intro D1 E1
  obtain ⟨hg, ha, hb, hc, hd, hz⟩ := D1.out
  have zt := hz 1
  clear hz
  go_upto_region 2 with fail
  have C2 := Lib.hid (D1.out.put1 (xorI (rotI b 13) x0))
  have B2 := Lib.hid (E1.out.setCell (p := ⟨g, 1, none⟩) (Nat.le_refl _) (Value.int IntKind.u64 (xorI (rotI b 13) x0)))
  clear hg ha hb hc hd zt
  rw [xor_is] 
  revert C2 B2
  generalize (v1.setCell { block := g, off := 1 } (Value.int IntKind.u64 (xorI (rotI b 13) x0))) = w2
  intro C2 B2
  have Hx1 : ∃ z, z = xorI (rotI b 13) x0 := ⟨_, rfl⟩
  obtain ⟨x1, hx1⟩ := Hx1
  rw [← hx1] at C2
  have Kx1 := Lib.hid hx1
  clear hx1
  -- rot
  obtain ⟨hg, ha, hb, hc, hd, hz⟩ := C2.out
  have zt := hz 0
  clear hz
  go_upto_region 3 with (go_at_call 25; refine (r32 _ _).mono ?_; rintro e u1 ⟨rfl, hw⟩; rw [hw]; clear hw u1)
  have C3 := Lib.hid (C2.out.put0 (rotI x0 32))
  have B3 := Lib.hid (B2.out.setCell (p := ⟨g, 0, none⟩) (Nat.le_refl _) (Value.int IntKind.u64 (rotI x0 32)))
  clear hg ha hb hc hd zt
  skip
  revert C3 B3
  generalize (w2.setCell { block := g, off := 0 } (Value.int IntKind.u64 (rotI x0 32))) = w3
  intro C3 B3
  have Hx2 : ∃ z, z = rotI x0 32 := ⟨_, rfl⟩
  obtain ⟨x2, hx2⟩ := Hx2
  rw [← hx2] at C3
  have Kx2 := Lib.hid hx2
  clear hx2
  -- add
  obtain ⟨hg, ha, hb, hc, hd, hz⟩ := C3.out
  have zt := hz 2
  clear hz
  go_region
  go_upto_region 4 with fail
  have C4 := Lib.hid (C3.out.put2 (addI c d)).drew
  have B4 := Lib.hid (B3.out.setCell (p := ⟨g, 2, none⟩) (Nat.le_refl _) (Value.int IntKind.u64 (addI c d))).drew
  clear hg ha hb hc hd zt
  rw [add_is] 
  revert C4 B4
  generalize ((w3.setCell { block := g, off := 2 } (Value.int IntKind.u64 (addI c d))).drew) = w4
  intro C4 B4
  have Hx3 : ∃ z, z = addI c d := ⟨_, rfl⟩
  obtain ⟨x3, hx3⟩ := Hx3
  rw [← hx3] at C4
  have Kx3 := Lib.hid hx3
  clear hx3
  -- rx
  obtain ⟨hg, ha, hb, hc, hd, hz⟩ := C4.out
  have zt := hz 3
  clear hz
  have e3 : World.cell? { heap := w4.heap, tape := w4.tape, drawn := w4.drawn + 1, os := w4.os, output := w4.output } ⟨g, 3, none⟩ = some (.int .u64 d) := hd
  have e2 : World.cell? { heap := w4.heap, tape := w4.tape, drawn := w4.drawn + 1, os := w4.os, output := w4.output } ⟨g, 2, none⟩ = some (.int .u64 x3) := hc
  go_still_tail 13, (by kernel_rfl)
  still_call (r16 _ _)
  repeat still_step
  refine wpStill_nil ?_
  change wpList _ _ _ _ _ w4.drew
  have D4 := Lib.hid C4.out.drew
  have E4 := Lib.hid B4.out.drew
  clear e3 e2 ha hb hc hd hg zt
  revert D4 E4
  generalize w4.drew = v4
  intro D4 E4
  obtain ⟨hg, ha, hb, hc, hd, hz⟩ := D4.out
  have zt := hz 3
  clear hz
  go_upto_region 5 with fail
  have C5 := Lib.hid (D4.out.put3 (xorI (rotI d 16) x3))
  have B5 := Lib.hid (E4.out.setCell (p := ⟨g, 3, none⟩) (Nat.le_refl _) (Value.int IntKind.u64 (xorI (rotI d 16) x3)))
  clear hg ha hb hc hd zt
  rw [xor_is] 
  revert C5 B5
  generalize (v4.setCell { block := g, off := 3 } (Value.int IntKind.u64 (xorI (rotI d 16) x3))) = w5
  intro C5 B5
  have Hx4 : ∃ z, z = xorI (rotI d 16) x3 := ⟨_, rfl⟩
  obtain ⟨x4, hx4⟩ := Hx4
  rw [← hx4] at C5
  have Kx4 := Lib.hid hx4
  clear hx4
  -- add
  obtain ⟨hg, ha, hb, hc, hd, hz⟩ := C5.out
  have zt := hz 0
  clear hz
  go_region
  go_upto_region 6 with fail
  have C6 := Lib.hid (C5.out.put0 (addI x2 x4)).drew
  have B6 := Lib.hid (B5.out.setCell (p := ⟨g, 0, none⟩) (Nat.le_refl _) (Value.int IntKind.u64 (addI x2 x4))).drew
  clear hg ha hb hc hd zt
  rw [add_is] 
  revert C6 B6
  generalize ((w5.setCell { block := g, off := 0 } (Value.int IntKind.u64 (addI x2 x4))).drew) = w6
  intro C6 B6
  have Hx5 : ∃ z, z = addI x2 x4 := ⟨_, rfl⟩
  obtain ⟨x5, hx5⟩ := Hx5
  rw [← hx5] at C6
  have Kx5 := Lib.hid hx5
  clear hx5
  -- rx
  obtain ⟨hg, ha, hb, hc, hd, hz⟩ := C6.out
  have zt := hz 3
  clear hz
  have e3 : World.cell? { heap := w6.heap, tape := w6.tape, drawn := w6.drawn + 1, os := w6.os, output := w6.output } ⟨g, 3, none⟩ = some (.int .u64 x4) := hd
  have e0 : World.cell? { heap := w6.heap, tape := w6.tape, drawn := w6.drawn + 1, os := w6.os, output := w6.output } ⟨g, 0, none⟩ = some (.int .u64 x5) := ha
  go_still_tail 13, (by kernel_rfl)
  still_call (r21 _ _)
  repeat still_step
  refine wpStill_nil ?_
  change wpList _ _ _ _ _ w6.drew
  have D6 := Lib.hid C6.out.drew
  have E6 := Lib.hid B6.out.drew
  clear e3 e0 ha hb hc hd hg zt
  revert D6 E6
  generalize w6.drew = v6
  intro D6 E6
  obtain ⟨hg, ha, hb, hc, hd, hz⟩ := D6.out
  have zt := hz 3
  clear hz
  go_upto_region 7 with fail
  have C7 := Lib.hid (D6.out.put3 (xorI (rotI x4 21) x5))
  have B7 := Lib.hid (E6.out.setCell (p := ⟨g, 3, none⟩) (Nat.le_refl _) (Value.int IntKind.u64 (xorI (rotI x4 21) x5)))
  clear hg ha hb hc hd zt
  rw [xor_is] 
  revert C7 B7
  generalize (v6.setCell { block := g, off := 3 } (Value.int IntKind.u64 (xorI (rotI x4 21) x5))) = w7
  intro C7 B7
  have Hx6 : ∃ z, z = xorI (rotI x4 21) x5 := ⟨_, rfl⟩
  obtain ⟨x6, hx6⟩ := Hx6
  rw [← hx6] at C7
  have Kx6 := Lib.hid hx6
  clear hx6
  -- add
  obtain ⟨hg, ha, hb, hc, hd, hz⟩ := C7.out
  have zt := hz 2
  clear hz
  go_region
  go_upto_region 8 with fail
  have C8 := Lib.hid (C7.out.put2 (addI x3 x1)).drew
  have B8 := Lib.hid (B7.out.setCell (p := ⟨g, 2, none⟩) (Nat.le_refl _) (Value.int IntKind.u64 (addI x3 x1))).drew
  clear hg ha hb hc hd zt
  rw [add_is] 
  revert C8 B8
  generalize ((w7.setCell { block := g, off := 2 } (Value.int IntKind.u64 (addI x3 x1))).drew) = w8
  intro C8 B8
  have Hx7 : ∃ z, z = addI x3 x1 := ⟨_, rfl⟩
  obtain ⟨x7, hx7⟩ := Hx7
  rw [← hx7] at C8
  have Kx7 := Lib.hid hx7
  clear hx7
  -- rx
  obtain ⟨hg, ha, hb, hc, hd, hz⟩ := C8.out
  have zt := hz 1
  clear hz
  have e1 : World.cell? { heap := w8.heap, tape := w8.tape, drawn := w8.drawn + 1, os := w8.os, output := w8.output } ⟨g, 1, none⟩ = some (.int .u64 x1) := hb
  have e2 : World.cell? { heap := w8.heap, tape := w8.tape, drawn := w8.drawn + 1, os := w8.os, output := w8.output } ⟨g, 2, none⟩ = some (.int .u64 x7) := hc
  go_still_tail 13, (by kernel_rfl)
  still_call (r17 _ _)
  repeat still_step
  refine wpStill_nil ?_
  change wpList _ _ _ _ _ w8.drew
  have D8 := Lib.hid C8.out.drew
  have E8 := Lib.hid B8.out.drew
  clear e1 e2 ha hb hc hd hg zt
  revert D8 E8
  generalize w8.drew = v8
  intro D8 E8
  obtain ⟨hg, ha, hb, hc, hd, hz⟩ := D8.out
  have zt := hz 1
  clear hz
  go_upto_region 9 with fail
  have C9 := Lib.hid (D8.out.put1 (xorI (rotI x1 17) x7))
  have B9 := Lib.hid (E8.out.setCell (p := ⟨g, 1, none⟩) (Nat.le_refl _) (Value.int IntKind.u64 (xorI (rotI x1 17) x7)))
  clear hg ha hb hc hd zt
  rw [xor_is] 
  revert C9 B9
  generalize (v8.setCell { block := g, off := 1 } (Value.int IntKind.u64 (xorI (rotI x1 17) x7))) = w9
  intro C9 B9
  have Hx8 : ∃ z, z = xorI (rotI x1 17) x7 := ⟨_, rfl⟩
  obtain ⟨x8, hx8⟩ := Hx8
  rw [← hx8] at C9
  have Kx8 := Lib.hid hx8
  clear hx8
  -- rot
  obtain ⟨hg, ha, hb, hc, hd, hz⟩ := C9.out
  have zt := hz 2
  clear hz
  go_wp2_with (go_at_call 25; refine (r32 _ _).mono ?_; rintro e u1 ⟨rfl, hw⟩; rw [hw]; clear hw u1)
  have C10 := Lib.hid (C9.out.put2 (rotI x7 32))
  have B10 := Lib.hid (B9.out.setCell (p := ⟨g, 2, none⟩) (Nat.le_refl _) (Value.int IntKind.u64 (rotI x7 32)))
  clear hg ha hb hc hd zt
  skip
  revert C10 B10
  generalize (w9.setCell { block := g, off := 2 } (Value.int IntKind.u64 (rotI x7 32))) = w10
  intro C10 B10
  have Hx9 : ∃ z, z = rotI x7 32 := ⟨_, rfl⟩
  obtain ⟨x9, hx9⟩ := Hx9
  rw [← hx9] at C10
  have Kx9 := Lib.hid hx9
  clear hx9
  go_end0
  obtain rfl := Kx9.out
  obtain rfl := Kx8.out
  obtain rfl := Kx7.out
  obtain rfl := Kx6.out
  obtain rfl := Kx5.out
  obtain rfl := Kx4.out
  obtain rfl := Kx3.out
  obtain rfl := Kx2.out
  obtain rfl := Kx1.out
  obtain rfl := Kx0.out
  exact ⟨rfl, C10.out, by rw [HW.out]; exact B10.out⟩

end Go.Proofs.Ytoalhgbdekbklaa