/-
  The reference's rounds of the hash.
-/
import Derived.Test.YtoalhgbdekbklaaSeA
namespace Go.Proofs.Ytoalhgbdekbklaa
open Go.RowKit
open IntWalk

def stV (s : St) : Value := .agg #[.int .u64 s.a, .int .u64 s.b, .int .u64 s.c, .int .u64 s.d]
def CeS (w : World) (g : Nat) (s : St) : Prop := Ce w g s.a s.b s.c s.d
theorem Ce.fresh (w : World) (a b c d : Int) (o : Obj) : Ce ((w.alloc (.cells #[.int .u64 a, .int .u64 b, .int .u64 c, .int .u64 d] 40)).alloc o) w.heap.size a b c d := by
  refine ⟨by simp; omega, ?_, ?_, ?_, ?_, fun i => ?_⟩ <;> simp [go_sem, World.cell?_alloc_past]
theorem two_new (w : World) (o : Obj) : Ce ((w.alloc o).alloc (.cells #[.int .u64 0, .int .u64 0, .int .u64 0, .int .u64 0] 40)) (w.heap.size + 1) 0 0 0 0 ∧ Below w.heap.size w ((w.alloc o).alloc (.cells #[.int .u64 0, .int .u64 0, .int .u64 0, .int .u64 0] 40)) := by
  refine ⟨⟨by simp, ?_, ?_, ?_, ?_, fun i => ?_⟩, ((Below.refl _ w).alloc (Nat.le_refl _) _).alloc (by simp) _⟩ <;> simp [go_sem]
set_option maxHeartbeats 4000000 in
set_option maxRecDepth 100000 in
theorem rounds_run (n : Nat) (s : St) (w : World) (hn : n ≤ 4) :
    Calls Try.prog 21 #[stV s, .int .i64 n] w fun e w' => e = .returned (stV (rndN s n)) ∧ Below w.heap.size w w' := by
  have r13 : ∀ x W, Calls Try.prog 23 #[.int .u64 x, .int .u64 13] W fun e w' => e = .returned (.int .u64 (rotI x 13)) ∧ w' = W := fun x W => turn_run x 13 W (by omega) (by omega)
  have r16 : ∀ x W, Calls Try.prog 23 #[.int .u64 x, .int .u64 16] W fun e w' => e = .returned (.int .u64 (rotI x 16)) ∧ w' = W := fun x W => turn_run x 16 W (by omega) (by omega)
  have r17 : ∀ x W, Calls Try.prog 23 #[.int .u64 x, .int .u64 17] W fun e w' => e = .returned (.int .u64 (rotI x 17)) ∧ w' = W := fun x W => turn_run x 17 W (by omega) (by omega)
  have r21 : ∀ x W, Calls Try.prog 23 #[.int .u64 x, .int .u64 21] W fun e w' => e = .returned (.int .u64 (rotI x 21)) ∧ w' = W := fun x W => turn_run x 21 W (by omega) (by omega)
  have r32 : ∀ x W, Calls Try.prog 23 #[.int .u64 x, .int .u64 32] W fun e w' => e = .returned (.int .u64 (rotI x 32)) ∧ w' = W := fun x W => turn_run x 32 W (by omega) (by omega)
  unfold stV
  obtain ⟨a, b, c, d⟩ := s
  have C0 := Lib.hid (Ce.fresh w a b c d (.cells #[.int .u64 0, .int .u64 0, .int .u64 0, .int .u64 0] 40))
  have R0 := Lib.hid (two_new w (.cells #[.int .u64 a, .int .u64 b, .int .u64 c, .int .u64 d] 40))
  go_enter Try.func21, Try.ntmps21
  go_wp2
  go_loopw [5] (fun i wr => ∃ k : Nat, k ≤ n ∧ i = .int .i64 k ∧ CeS wr w.heap.size (rndN ⟨a, b, c, d⟩ k) ∧ Ce wr (w.heap.size + 1) 0 0 0 0 ∧ Below w.heap.size w wr) (fun i _ => n - (intOf i).toNat)
  case atStart => exact ⟨0, Nat.zero_le _, rfl, C0.out, R0.out.1, R0.out.2⟩
  case round =>
    obtain ⟨k, hk, rfl, cc, rr, bb⟩ := hrel
    unfold CeS at cc
    clear C0 R0
    by_cases hlt : k < n
    · obtain ⟨⟨a0, b0, c0, d0⟩, hS⟩ : ∃ S, S = rndN ⟨a, b, c, d⟩ k := ⟨_, rfl⟩
      rw [← hS] at cc
      have HS := Lib.hid (show rndN ⟨a, b, c, d⟩ (k + 1) = rnd ⟨a0, b0, c0, d0⟩ by show rnd (rndN _ k) = _; rw [← hS])
      clear hS
      dsimp only at cc
      obtain ⟨g, hg0⟩ : ∃ g, g = w.heap.size := ⟨_, rfl⟩
      rw [← hg0] at cc bb rr ⊢
      have HG := Lib.hid hg0
      have C0 := Lib.hid cc
      have B0 := Lib.hid bb
      have R0 := Lib.hid rr
      have HL := Lib.hid hlt
      clear cc bb rr hg0
      revert C0 B0 R0
      generalize wr = w0
      intro C0 B0 R0
      go_upto_region 4 with fail
      clear hlt
      -- add
      obtain ⟨hg, ha, hb, hc, hd, hz⟩ := C0.out
      have zt := hz 0
      clear hz
      go_upto_region 5 with fail
      have C1 := Lib.hid (C0.out.put0 (addI a0 b0))
      have B1 := Lib.hid (B0.out.setCell (p := ⟨g, 0, none⟩) (Nat.le_refl _) (Value.int IntKind.u64 (addI a0 b0)))
      have R1 := Lib.hid (R0.out.off 0 (Value.int IntKind.u64 (addI a0 b0)) (Nat.lt_succ_self g))
      clear hg ha hb hc hd zt
      rw [add_is] 
      revert C1 B1 R1
      generalize (w0.setCell { block := g, off := 0 } (Value.int IntKind.u64 (addI a0 b0))) = w1
      intro C1 B1 R1
      have Hx0 : ∃ z, z = addI a0 b0 := ⟨_, rfl⟩
      obtain ⟨x0, hx0⟩ := Hx0
      rw [← hx0] at C1
      have Kx0 := Lib.hid hx0
      clear hx0
      -- rx
      obtain ⟨hg, ha, hb, hc, hd, hz⟩ := C1.out
      have zt := hz 1
      clear hz
      have e1 : World.cell? { heap := w1.heap, tape := w1.tape, drawn := w1.drawn + 1, os := w1.os, output := w1.output } ⟨g, 1, none⟩ = some (.int .u64 b0) := hb
      have e0 : World.cell? { heap := w1.heap, tape := w1.tape, drawn := w1.drawn + 1, os := w1.os, output := w1.output } ⟨g, 0, none⟩ = some (.int .u64 x0) := ha
      go_still_tail 7, (by kernel_rfl)
      still_call (r13 _ _)
      repeat still_step
      refine wpStill_nil ?_
      change wpList _ _ _ _ _ w1.drew
      have D1 := Lib.hid C1.out.drew
      have E1 := Lib.hid B1.out.drew
      have F1 := Lib.hid R1.out.drew
      clear e1 e0 ha hb hc hd hg zt
      revert D1 E1 F1
      generalize w1.drew = v1
      intro D1 E1 F1
      obtain ⟨hg, ha, hb, hc, hd, hz⟩ := D1.out
      have zt := hz 1
      clear hz
      go_upto_region 6 with fail
      have C2 := Lib.hid (D1.out.put1 (xorI (rotI b0 13) x0))
      have B2 := Lib.hid (E1.out.setCell (p := ⟨g, 1, none⟩) (Nat.le_refl _) (Value.int IntKind.u64 (xorI (rotI b0 13) x0)))
      have R2 := Lib.hid (F1.out.off 1 (Value.int IntKind.u64 (xorI (rotI b0 13) x0)) (Nat.lt_succ_self g))
      clear hg ha hb hc hd zt
      rw [xor_is] 
      revert C2 B2 R2
      generalize (v1.setCell { block := g, off := 1 } (Value.int IntKind.u64 (xorI (rotI b0 13) x0))) = w2
      intro C2 B2 R2
      have Hx1 : ∃ z, z = xorI (rotI b0 13) x0 := ⟨_, rfl⟩
      obtain ⟨x1, hx1⟩ := Hx1
      rw [← hx1] at C2
      have Kx1 := Lib.hid hx1
      clear hx1
      -- rot
      obtain ⟨hg, ha, hb, hc, hd, hz⟩ := C2.out
      have zt := hz 0
      clear hz
      go_upto_region 7 with (go_at_call 23; refine (r32 _ _).mono ?_; rintro e u1 ⟨rfl, hw⟩; rw [hw]; clear hw u1)
      have C3 := Lib.hid (C2.out.put0 (rotI x0 32))
      have B3 := Lib.hid (B2.out.setCell (p := ⟨g, 0, none⟩) (Nat.le_refl _) (Value.int IntKind.u64 (rotI x0 32)))
      have R3 := Lib.hid (R2.out.off 0 (Value.int IntKind.u64 (rotI x0 32)) (Nat.lt_succ_self g))
      clear hg ha hb hc hd zt
      skip
      revert C3 B3 R3
      generalize (w2.setCell { block := g, off := 0 } (Value.int IntKind.u64 (rotI x0 32))) = w3
      intro C3 B3 R3
      have Hx2 : ∃ z, z = rotI x0 32 := ⟨_, rfl⟩
      obtain ⟨x2, hx2⟩ := Hx2
      rw [← hx2] at C3
      have Kx2 := Lib.hid hx2
      clear hx2
      -- add
      obtain ⟨hg, ha, hb, hc, hd, hz⟩ := C3.out
      have zt := hz 2
      clear hz
      go_upto_region 8 with fail
      have C4 := Lib.hid (C3.out.put2 (addI c0 d0))
      have B4 := Lib.hid (B3.out.setCell (p := ⟨g, 2, none⟩) (Nat.le_refl _) (Value.int IntKind.u64 (addI c0 d0)))
      have R4 := Lib.hid (R3.out.off 2 (Value.int IntKind.u64 (addI c0 d0)) (Nat.lt_succ_self g))
      clear hg ha hb hc hd zt
      rw [add_is] 
      revert C4 B4 R4
      generalize (w3.setCell { block := g, off := 2 } (Value.int IntKind.u64 (addI c0 d0))) = w4
      intro C4 B4 R4
      have Hx3 : ∃ z, z = addI c0 d0 := ⟨_, rfl⟩
      obtain ⟨x3, hx3⟩ := Hx3
      rw [← hx3] at C4
      have Kx3 := Lib.hid hx3
      clear hx3
      -- rx
      obtain ⟨hg, ha, hb, hc, hd, hz⟩ := C4.out
      have zt := hz 3
      clear hz
      have e3 : World.cell? { heap := w4.heap, tape := w4.tape, drawn := w4.drawn + 1, os := w4.os, output := w4.output } ⟨g, 3, none⟩ = some (.int .u64 d0) := hd
      have e2 : World.cell? { heap := w4.heap, tape := w4.tape, drawn := w4.drawn + 1, os := w4.os, output := w4.output } ⟨g, 2, none⟩ = some (.int .u64 x3) := hc
      go_still_tail 7, (by kernel_rfl)
      still_call (r16 _ _)
      repeat still_step
      refine wpStill_nil ?_
      change wpList _ _ _ _ _ w4.drew
      have D4 := Lib.hid C4.out.drew
      have E4 := Lib.hid B4.out.drew
      have F4 := Lib.hid R4.out.drew
      clear e3 e2 ha hb hc hd hg zt
      revert D4 E4 F4
      generalize w4.drew = v4
      intro D4 E4 F4
      obtain ⟨hg, ha, hb, hc, hd, hz⟩ := D4.out
      have zt := hz 3
      clear hz
      go_upto_region 9 with fail
      have C5 := Lib.hid (D4.out.put3 (xorI (rotI d0 16) x3))
      have B5 := Lib.hid (E4.out.setCell (p := ⟨g, 3, none⟩) (Nat.le_refl _) (Value.int IntKind.u64 (xorI (rotI d0 16) x3)))
      have R5 := Lib.hid (F4.out.off 3 (Value.int IntKind.u64 (xorI (rotI d0 16) x3)) (Nat.lt_succ_self g))
      clear hg ha hb hc hd zt
      rw [xor_is] 
      revert C5 B5 R5
      generalize (v4.setCell { block := g, off := 3 } (Value.int IntKind.u64 (xorI (rotI d0 16) x3))) = w5
      intro C5 B5 R5
      have Hx4 : ∃ z, z = xorI (rotI d0 16) x3 := ⟨_, rfl⟩
      obtain ⟨x4, hx4⟩ := Hx4
      rw [← hx4] at C5
      have Kx4 := Lib.hid hx4
      clear hx4
      -- add
      obtain ⟨hg, ha, hb, hc, hd, hz⟩ := C5.out
      have zt := hz 0
      clear hz
      go_upto_region 10 with fail
      have C6 := Lib.hid (C5.out.put0 (addI x2 x4))
      have B6 := Lib.hid (B5.out.setCell (p := ⟨g, 0, none⟩) (Nat.le_refl _) (Value.int IntKind.u64 (addI x2 x4)))
      have R6 := Lib.hid (R5.out.off 0 (Value.int IntKind.u64 (addI x2 x4)) (Nat.lt_succ_self g))
      clear hg ha hb hc hd zt
      rw [add_is] 
      revert C6 B6 R6
      generalize (w5.setCell { block := g, off := 0 } (Value.int IntKind.u64 (addI x2 x4))) = w6
      intro C6 B6 R6
      have Hx5 : ∃ z, z = addI x2 x4 := ⟨_, rfl⟩
      obtain ⟨x5, hx5⟩ := Hx5
      rw [← hx5] at C6
      have Kx5 := Lib.hid hx5
      clear hx5
      -- rx
      obtain ⟨hg, ha, hb, hc, hd, hz⟩ := C6.out
      have zt := hz 3
      clear hz
      have e3 : World.cell? { heap := w6.heap, tape := w6.tape, drawn := w6.drawn + 1, os := w6.os, output := w6.output } ⟨g, 3, none⟩ = some (.int .u64 x4) := hd
      have e0 : World.cell? { heap := w6.heap, tape := w6.tape, drawn := w6.drawn + 1, os := w6.os, output := w6.output } ⟨g, 0, none⟩ = some (.int .u64 x5) := ha
      go_still_tail 7, (by kernel_rfl)
      still_call (r21 _ _)
      repeat still_step
      refine wpStill_nil ?_
      change wpList _ _ _ _ _ w6.drew
      have D6 := Lib.hid C6.out.drew
      have E6 := Lib.hid B6.out.drew
      have F6 := Lib.hid R6.out.drew
      clear e3 e0 ha hb hc hd hg zt
      revert D6 E6 F6
      generalize w6.drew = v6
      intro D6 E6 F6
      obtain ⟨hg, ha, hb, hc, hd, hz⟩ := D6.out
      have zt := hz 3
      clear hz
      go_upto_region 11 with fail
      have C7 := Lib.hid (D6.out.put3 (xorI (rotI x4 21) x5))
      have B7 := Lib.hid (E6.out.setCell (p := ⟨g, 3, none⟩) (Nat.le_refl _) (Value.int IntKind.u64 (xorI (rotI x4 21) x5)))
      have R7 := Lib.hid (F6.out.off 3 (Value.int IntKind.u64 (xorI (rotI x4 21) x5)) (Nat.lt_succ_self g))
      clear hg ha hb hc hd zt
      rw [xor_is] 
      revert C7 B7 R7
      generalize (v6.setCell { block := g, off := 3 } (Value.int IntKind.u64 (xorI (rotI x4 21) x5))) = w7
      intro C7 B7 R7
      have Hx6 : ∃ z, z = xorI (rotI x4 21) x5 := ⟨_, rfl⟩
      obtain ⟨x6, hx6⟩ := Hx6
      rw [← hx6] at C7
      have Kx6 := Lib.hid hx6
      clear hx6
      -- add
      obtain ⟨hg, ha, hb, hc, hd, hz⟩ := C7.out
      have zt := hz 2
      clear hz
      go_upto_region 12 with fail
      have C8 := Lib.hid (C7.out.put2 (addI x3 x1))
      have B8 := Lib.hid (B7.out.setCell (p := ⟨g, 2, none⟩) (Nat.le_refl _) (Value.int IntKind.u64 (addI x3 x1)))
      have R8 := Lib.hid (R7.out.off 2 (Value.int IntKind.u64 (addI x3 x1)) (Nat.lt_succ_self g))
      clear hg ha hb hc hd zt
      rw [add_is] 
      revert C8 B8 R8
      generalize (w7.setCell { block := g, off := 2 } (Value.int IntKind.u64 (addI x3 x1))) = w8
      intro C8 B8 R8
      have Hx7 : ∃ z, z = addI x3 x1 := ⟨_, rfl⟩
      obtain ⟨x7, hx7⟩ := Hx7
      rw [← hx7] at C8
      have Kx7 := Lib.hid hx7
      clear hx7
      -- rx
      obtain ⟨hg, ha, hb, hc, hd, hz⟩ := C8.out
      have zt := hz 1
      clear hz
      have e1 : World.cell? { heap := w8.heap, tape := w8.tape, drawn := w8.drawn + 1, os := w8.os, output := w8.output } ⟨g, 1, none⟩ = some (.int .u64 x1) := hb
      have e2 : World.cell? { heap := w8.heap, tape := w8.tape, drawn := w8.drawn + 1, os := w8.os, output := w8.output } ⟨g, 2, none⟩ = some (.int .u64 x7) := hc
      go_still_tail 7, (by kernel_rfl)
      still_call (r17 _ _)
      repeat still_step
      refine wpStill_nil ?_
      change wpList _ _ _ _ _ w8.drew
      have D8 := Lib.hid C8.out.drew
      have E8 := Lib.hid B8.out.drew
      have F8 := Lib.hid R8.out.drew
      clear e1 e2 ha hb hc hd hg zt
      revert D8 E8 F8
      generalize w8.drew = v8
      intro D8 E8 F8
      obtain ⟨hg, ha, hb, hc, hd, hz⟩ := D8.out
      have zt := hz 1
      clear hz
      go_upto_region 13 with fail
      have C9 := Lib.hid (D8.out.put1 (xorI (rotI x1 17) x7))
      have B9 := Lib.hid (E8.out.setCell (p := ⟨g, 1, none⟩) (Nat.le_refl _) (Value.int IntKind.u64 (xorI (rotI x1 17) x7)))
      have R9 := Lib.hid (F8.out.off 1 (Value.int IntKind.u64 (xorI (rotI x1 17) x7)) (Nat.lt_succ_self g))
      clear hg ha hb hc hd zt
      rw [xor_is] 
      revert C9 B9 R9
      generalize (v8.setCell { block := g, off := 1 } (Value.int IntKind.u64 (xorI (rotI x1 17) x7))) = w9
      intro C9 B9 R9
      have Hx8 : ∃ z, z = xorI (rotI x1 17) x7 := ⟨_, rfl⟩
      obtain ⟨x8, hx8⟩ := Hx8
      rw [← hx8] at C9
      have Kx8 := Lib.hid hx8
      clear hx8
      -- rot
      obtain ⟨hg, ha, hb, hc, hd, hz⟩ := C9.out
      have zt := hz 2
      clear hz
      go_wp2_with (go_at_call 23; refine (r32 _ _).mono ?_; rintro e u1 ⟨rfl, hw⟩; rw [hw]; clear hw u1)
      have C10 := Lib.hid (C9.out.put2 (rotI x7 32))
      have B10 := Lib.hid (B9.out.setCell (p := ⟨g, 2, none⟩) (Nat.le_refl _) (Value.int IntKind.u64 (rotI x7 32)))
      have R10 := Lib.hid (R9.out.off 2 (Value.int IntKind.u64 (rotI x7 32)) (Nat.lt_succ_self g))
      clear hg ha hb hc hd zt
      skip
      revert C10 B10 R10
      generalize (w9.setCell { block := g, off := 2 } (Value.int IntKind.u64 (rotI x7 32))) = w10
      intro C10 B10 R10
      have Hx9 : ∃ z, z = rotI x7 32 := ⟨_, rfl⟩
      obtain ⟨x9, hx9⟩ := Hx9
      rw [← hx9] at C10
      have Kx9 := Lib.hid hx9
      clear hx9
      go_wp2
      refine ⟨⟨k + 1, HL.out, by go_num, ?_, R10.out, B10.out⟩, by have := HL.out; simp [intOf]; omega⟩
      rw [HS.out]
      obtain rfl := Kx9.out
      obtain rfl := Kx8.out
      obtain rfl := Kx7.out
      obtain rfl := Kx6.out
      obtain rfl := Kx5.out
      obtain rfl := Kx4.out
      obtain rfl := Kx3.out
      obtain rfl := Kx2.out
      obtain rfl := Kx1.out
      obtain rfl := Kx0.out
      exact C10.out
    · obtain rfl : k = n := by omega
      unfold Ce at rr cc
      obtain ⟨g0, ha, hb, hc, hd, hz⟩ := cc
      obtain ⟨g1, ja, jb, jc, jd, jz⟩ := rr
      have B0 := Lib.hid bb
      have j0 := jz 0
      have j1 := jz 1
      have j2 := jz 2
      have j3 := jz 3
      clear hz jz bb hlt
      have BB := Lib.hid ((((B0.out.setCell (p := ⟨w.heap.size + 1, 0, none⟩) (Nat.le_succ _) (.int .u64 (rndN ⟨a, b, c, d⟩ k).a)).setCell (p := ⟨w.heap.size + 1, 1, none⟩) (Nat.le_succ _) (.int .u64 (rndN ⟨a, b, c, d⟩ k).b)).setCell (p := ⟨w.heap.size + 1, 2, none⟩) (Nat.le_succ _) (.int .u64 (rndN ⟨a, b, c, d⟩ k).c)).setCell (p := ⟨w.heap.size + 1, 3, none⟩) (Nat.le_succ _) (.int .u64 (rndN ⟨a, b, c, d⟩ k).d))
      go_wp2
      refine bodyPost_ret (v := .agg #[.int .u64 (rndN ⟨a, b, c, d⟩ k).a, .int .u64 (rndN ⟨a, b, c, d⟩ k).b, .int .u64 (rndN ⟨a, b, c, d⟩ k).c, .int .u64 (rndN ⟨a, b, c, d⟩ k).d]) (by simp [results, Try.results21, go_sem, ja, jb, jc, jd]) rfl ⟨rfl, BB.out⟩
end Go.Proofs.Ytoalhgbdekbklaa