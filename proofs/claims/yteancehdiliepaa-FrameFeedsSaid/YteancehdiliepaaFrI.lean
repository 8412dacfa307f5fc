/-
  What the reference's Unpack returns.
-/
import Derived.Test.YteancehdiliepaaFrH
namespace Go.Proofs.Yteancehdiliepaa
open Go.RowKit
open IntWalk

set_option maxHeartbeats 1000000 in
set_option maxRecDepth 10000 in
theorem runpack_none (p : Option Addr) (c : Nat) (w : World) :
    Calls Try.prog 18 #[.slice p 0 c] w fun e w' => e = .returned (.tuple #[.slice none 0 0, .int .i64 6]) ∧ w = w' := by
  go_enter Try.func18, Try.ntmps18
  go_wp2
  go_ret2
  exact ⟨rfl, rfl⟩

set_option maxHeartbeats 4000000 in
set_option maxRecDepth 10000 in
theorem runpack_two (b o c n : Nat) (P : List UInt8) (x y : UInt8) (R : Except Int (List UInt8)) (w : World) (hn : n ≤ 100000) (hpos : 0 < n) (hc : w.cell? ⟨b, o, none⟩ = some (.int .u8 192)) (hP : P.length ≤ 4096)
    (CC : Hid (Calls Try.prog 27 #[.slice (some ⟨b, o, none⟩) n c] w (GivesI w n (.done (P ++ [x, y]) [])))) (HU : Hid (R = sumR (P ++ [x, y]))) :
    Calls Try.prog 18 #[.slice (some ⟨b, o, none⟩) n c] w (GivesU w R) := by
  have hxb := x.toNat_lt
  have hyb := y.toNat_lt
  have hcb := crc_lt P
  have HS := sumR_two P x y hP
  have CS := Lib.hid (fun W v h => rsum_run v P W (by omega) h)
  obtain ⟨C, hC⟩ : ∃ C, C = crc P := ⟨_, rfl⟩
  rw [← hC] at CS HS hcb
  have l0 : ((n : Int) == 0) = false := by rw [beq_eq_false_iff_ne]; omega
  clear hC
  by_cases hcs : C = x.toNat * 256 + y.toNat
  · rw [if_pos hcs] at HS
    have HE : Hid (R = .ok P) := Lib.hid (HU.out.trans HS)
    have hz : ((x.toNat : Int) * 256 + (y.toNat : Int) == (C : Int)) = true := by rw [beq_iff_eq]; omega
    have hz2 : ((x.toNat : Int) * 256 + (y.toNat : Int) != (C : Int)) = false := by rw [bne, hz]; rfl
    clear HS hcs
    go_enter Try.func18, Try.ntmps18
    go_wp2_with fail
    refine CC.out.mono ?_
    rintro e w1 ⟨⟨_, v, rfl, o1⟩, b1⟩
    have B1 := Lib.hid b1
    obtain ⟨g, cap, rfl, h1, h2, c1, c2, hf⟩ := row_two o1
    have HF := Lib.hid hf
    clear b1 o1 hf
    go_wp2
    go_quiet ((go_at_call 13; exact quiet_same (CS.out _ _ (((HF.out cap (by omega) (by omega)).rd)))))
    go_wp2
    go_ret2
    exact givesU_ok HE.out (HF.out cap (by omega) (by omega)) (b_draws B1.out _)
  · rw [if_neg hcs] at HS
    have HE : Hid (R = .error 7) := Lib.hid (HU.out.trans HS)
    have hz : ((x.toNat : Int) * 256 + (y.toNat : Int) == (C : Int)) = false := by rw [beq_eq_false_iff_ne]; omega
    have hz2 : ((x.toNat : Int) * 256 + (y.toNat : Int) != (C : Int)) = true := by rw [bne, hz]; rfl
    clear HS hcs
    go_enter Try.func18, Try.ntmps18
    go_wp2_with fail
    refine CC.out.mono ?_
    rintro e w1 ⟨⟨_, v, rfl, o1⟩, b1⟩
    have B1 := Lib.hid b1
    obtain ⟨g, cap, rfl, h1, h2, c1, c2, hf⟩ := row_two o1
    have HF := Lib.hid hf
    clear b1 o1 hf
    go_wp2
    go_quiet ((go_at_call 13; exact quiet_same (CS.out _ _ (((HF.out cap (by omega) (by omega)).rd)))))
    go_wp2
    go_ret2
    exact givesU_err HE.out (b_draws B1.out _)

set_option maxHeartbeats 4000000 in
set_option maxRecDepth 10000 in
theorem runpack_some (b o c : Nat) (l : List UInt8) (w : World) (hl : l.length ≤ 100000) (hn : l ≠ []) (hR : AtB w b o l) : Calls Try.prog 18 #[.slice (some ⟨b, o, none⟩) l.length c] w (GivesU w (unR l)) := by
  have hpos : 0 < l.length := by cases l with | nil => exact absurd rfl hn | cons _ _ => simp
  have CC := Lib.hid (inside_some b o c l w hl hn hR)
  have hd : l = l[0] :: l.drop 1 := by
    have := List.drop_eq_getElem_cons hpos
    rwa [List.drop_zero] at this
  have c0 := hR.2 0 hpos
  have l0 : ((l.length : Int) == 0) = false := by rw [beq_eq_false_iff_ne]; omega
  by_cases h0 : l[0] = 192
  · have HC := fun x => contR_of (l := l) (r := l.drop 1) (x := x) (by rw [← h0]; exact hd)
    rw [h0] at c0
    have c0' : w.cell? ⟨b, o, none⟩ = some (.int .u8 192) := c0
    cases hx : ins (l.drop 1) [] with
    | short =>
      have HU : Hid (unR l = .error 6) := Lib.hid (by unfold unR; rw [HC _ hx]; rfl)
      rw [hx] at CC
      clear hx HC hd h0 c0 hR hn
      go_enter Try.func18, Try.ntmps18
      go_wp2_with fail
      refine CC.out.mono ?_
      rintro e w1 ⟨rfl, b1⟩
      have B1 := Lib.hid b1
      clear b1
      go_wp2
      go_ret2
      exact givesU_err HU.out B1.out
    | form =>
      have HU : Hid (unR l = .error 5) := Lib.hid (by unfold unR; rw [HC _ hx]; rfl)
      rw [hx] at CC
      clear hx HC hd h0 c0 hR hn
      go_enter Try.func18, Try.ntmps18
      go_wp2_with fail
      refine CC.out.mono ?_
      rintro e w1 ⟨rfl, b1⟩
      have B1 := Lib.hid b1
      clear b1
      go_wp2
      go_ret2
      exact givesU_err HU.out B1.out
    | done acc rest =>
      rw [hx] at CC
      by_cases hr : rest = []
      · subst hr
        have HU : Hid (unR l = sumR acc) := Lib.hid (by unfold unR; rw [HC _ hx, resR_done])
        clear hx HC hd h0 c0 hR hn
        by_cases h2 : acc.length < 2
        · have HE : Hid (unR l = .error 6) := Lib.hid (by rw [HU.out]; unfold sumR; rw [if_pos h2])
          go_enter Try.func18, Try.ntmps18
          go_wp2_with fail
          refine CC.out.mono ?_
          rintro e w1 ⟨⟨_, v, rfl, o1⟩, b1⟩
          have B1 := Lib.hid b1
          obtain ⟨p, c, rfl, hc1, hc2, _⟩ := o1.rd
          unfold maxLen at hc2
          clear b1 o1
          go_wp2
          go_ret2
          exact givesU_err HE.out B1.out
        by_cases h3 : 4098 < acc.length
        · have HE : Hid (unR l = .error 3) := Lib.hid (by rw [HU.out]; unfold sumR; rw [if_neg h2, if_pos h3])
          go_enter Try.func18, Try.ntmps18
          go_wp2_with fail
          refine CC.out.mono ?_
          rintro e w1 ⟨⟨_, v, rfl, o1⟩, b1⟩
          have B1 := Lib.hid b1
          obtain ⟨g, cap, rfl, hc1, hc2, _⟩ := own_form o1 (fun e => by rw [e] at h3; simp at h3)
          unfold maxLen at hc2
          clear b1 o1
          go_wp2
          go_ret2
          exact givesU_err HE.out B1.out
        obtain ⟨P, x, y, rfl⟩ := two_more acc h2
        have hP : P.length ≤ 4096 := by simp at h3; omega
        exact runpack_two b o c l.length P x y _ w hl hpos c0' hP CC HU
      · have HU : Hid (unR l = .error 5) := Lib.hid (by unfold unR; rw [HC _ hx, resR_more _ _ hr])
        have hrp : 0 < rest.length := by cases rest with | nil => exact absurd rfl hr | cons _ _ => simp
        clear hx HC hd h0 c0 hR hn hr
        go_enter Try.func18, Try.ntmps18
        go_wp2_with fail
        refine CC.out.mono ?_
        rintro e w1 ⟨⟨hlt, v, rfl, o1⟩, b1⟩
        have B1 := Lib.hid b1
        have hz : ((l.length : Int) - 1 - (rest.length : Int) == (l.length : Int) - 1) = false := by rw [beq_eq_false_iff_ne]; omega
        have hz2 : ((l.length : Int) - 1 - (rest.length : Int) != (l.length : Int) - 1) = true := by rw [bne, hz]; rfl
        clear b1 o1
        go_wp2
        go_ret2
        exact givesU_err HU.out B1.out
  · have HU : Hid (unR l = .error 5) := Lib.hid (by
      have : contR l = .error 5 := by rw [hd]; unfold contR; simp [h0]
      unfold unR; rw [this])
    have q1 := bne_ l[0] 192 h0
    rw [show (((192 : UInt8).toNat : Nat) : Int) = 192 from rfl] at q1
    have hxb := l[0].toNat_lt
    obtain ⟨y, hy⟩ : ∃ y, y = l[0].toNat := ⟨_, rfl⟩
    unfold bv at c0
    rw [← hy] at c0 q1 hxb
    have c0' : w.cell? ⟨b, o, none⟩ = some (.int .u8 (y : Int)) := c0
    have q2 : ((y : Int) != 192) = true := by rw [bne, q1]; rfl
    clear hd h0 c0 hy hR hn CC
    go_enter Try.func18, Try.ntmps18
    go_wp2
    go_ret2
    exact givesU_err HU.out (Below.refl _ _)
theorem runpack_run (u : Value) (l : List UInt8) (w : World) (hl : l.length ≤ 100000) (hR : RdB w u l) : Calls Try.prog 18 #[u] w (GivesU w (unR l)) := by
  obtain ⟨p, c, rfl, _, _, h⟩ := hR
  by_cases hn : l = []
  · subst hn
    refine (runpack_none p c w).mono fun e w' ⟨he, hw⟩ => ?_
    subst hw; subst he
    exact givesU_err (by unfold unR contR; rfl) (Below.refl _ _)
  · obtain ⟨b, o, rfl, ha⟩ := h hn
    exact runpack_some b o c l w hl hn ha
end Go.Proofs.Yteancehdiliepaa
