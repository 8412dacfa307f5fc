/-
  What the reference's Valid returns; both for every value that reads as a series.
-/
import Derived.Test.YtapfinnbfnhdbabSerV
namespace Go.Proofs.Ytapfinnbfnhdbab
open Go.RowKit
open Ser
set_option linter.unusedVariables false

theorem tB_low {x : Int} (h : x < 0) : tB x = false := by unfold tB; simp; omega
theorem tB_high {x : Int} (h : 268435456 < x) : tB x = false := by unfold tB; simp; omega
theorem tB_in {x : Int} (h : 0 ≤ x) (h' : x ≤ 268435456) : tB x = true := by unfold tB; simp; omega
theorem vB_low {x : Int} (h : x < -1099511627776) : vB x = false := by unfold vB; simp; omega
theorem vB_high {x : Int} (h : 1099511627776 < x) : vB x = false := by unfold vB; simp; omega
theorem vB_in {x : Int} (h : -1099511627776 ≤ x) (h' : x ≤ 1099511627776) : vB x = true := by unfold vB; simp; omega

set_option maxHeartbeats 8000000 in
set_option maxRecDepth 1000000 in
theorem refValid_some (b o c : Nat) (l : List St) (w : World) (hl : l.length ≤ 2000000) (hR : At w b o l) :
    Calls Try.prog 12 #[.slice (some ⟨b, o, none⟩) l.length c] w fun e w' => e = .returned (.int .i64 (validE l)) ∧ Below w.heap.size w w' := by
  by_cases h5 : 512 < l.length
  · have hv : validE l = 3 := if_pos h5
    have Hv := Lib.hid hv; clear hv
    go_enter Try.func12, Try.ntmps12
    go_wp2
    go_ret
    exact ⟨ret_int Hv.out.symm, Below.refl _ _⟩
  · have hv : validE l = vL (-1) l := if_neg h5
    have Hv := Lib.hid hv; clear hv
    have HR := Lib.hid hR
    clear hR
    go_enter Try.func12, Try.ntmps12
    go_wp2
    go_loopw [3] (fun i wr => ∃ k : Nat, k ≤ l.length ∧ i = .int .i64 k ∧ Hid (vL (pv l k) (l.drop k) = vL (-1) l) ∧ Below w.heap.size w wr) (fun i _ => l.length - (intOf i).toNat)
    case atStart => exact ⟨0, Nat.zero_le _, rfl, Lib.hid rfl, Below.refl _ _⟩
    case round =>
      obtain ⟨k, hk, rfl, HI, hb⟩ := hrel
      by_cases hlt : k < l.length
      · obtain ⟨h1, h2⟩ := HR.out.get hb k hlt
        have hs := vL_step l k hlt
        rw [HI.out, okS_of] at hs
        obtain ⟨x1, e1⟩ : ∃ x, x = l[k].1 := ⟨_, rfl⟩
        obtain ⟨x2, e2⟩ : ∃ x, x = l[k].2 := ⟨_, rfl⟩
        rw [← e1, ← e2] at hs
        rw [← e1] at h1
        rw [← e2] at h2
        clear e1 e2
        by_cases t1 : x1 < 0
        · rw [tB_low t1] at hs
          have HS := Lib.hid hs
          clear hs
          go_wp2
          go_ret
          exact ⟨ret_int (by rw [Hv.out, HS.out]; rfl), hb⟩
        · by_cases t2 : 268435456 < x1
          · rw [tB_high t2] at hs
            have HS := Lib.hid hs
            clear hs
            go_wp2
            go_ret
            exact ⟨ret_int (by rw [Hv.out, HS.out]; rfl), hb⟩
          · rw [tB_in (by omega) (by omega)] at hs
            by_cases t3 : x2 < -1099511627776
            · rw [vB_low t3] at hs
              have HS := Lib.hid hs
              clear hs
              go_wp2
              go_ret
              exact ⟨ret_int (by rw [Hv.out, HS.out]; rfl), hb⟩
            · by_cases t4 : 1099511627776 < x2
              · rw [vB_high t4] at hs
                have HS := Lib.hid hs
                clear hs
                go_wp2
                go_ret
                exact ⟨ret_int (by rw [Hv.out, HS.out]; rfl), hb⟩
              · rw [vB_in (by omega) (by omega)] at hs
                by_cases h0 : 0 < k
                · obtain ⟨j, rfl⟩ : ∃ j, k = j + 1 := ⟨k - 1, by omega⟩
                  obtain ⟨g1, _⟩ := HR.out.get hb j (by omega)
                  have hp := pv_succ l j (by omega)
                  obtain ⟨x0, e0⟩ : ∃ x, x = l[j].1 := ⟨_, rfl⟩
                  rw [← e0] at g1 hp
                  rw [hp] at hs
                  have hw1 : IntKind.i64.wrap (((j + 1 : Nat) : Int) - 1) = (j : Int) := by rw [IntKind.wrap_i64]; omega
                  by_cases hle : x1 ≤ x0
                  · have hs' : vL (-1) l = 1 := by simp [hle] at hs; exact hs
                    have HS := Lib.hid hs'
                    clear hs hs' hp e0
                    go_wp2_with fail
                    go_quiet (fail)
                    go_wp2_with fail
                    go_ret
                    exact ⟨ret_int (by rw [Hv.out, HS.out]), (dNb hb _)⟩
                  · have hs' : vL (-1) l = vL (pv l (j + 1 + 1)) (l.drop (j + 1 + 1)) := by simpa [hle] using hs
                    have HS := Lib.hid hs'
                    have hgt : x0 < x1 := by omega
                    clear hs hs' hp e0 hle
                    go_wp2_with fail
                    go_quiet (fail)
                    go_wp2_with fail
                    go_roundw
                    case rel => exact ⟨j + 1 + 1, by omega, by go_num, HS.out.symm, (dNb hb _)⟩
                    case measure => simp [intOf]; omega
                · obtain rfl : k = 0 := by omega
                  simp only [Nat.zero_mul, Nat.add_zero] at h1 h2
                  have hs' : vL (-1) l = vL (pv l 1) (l.drop 1) := by
                    have : ¬ x1 ≤ pv l 0 := by show ¬ x1 ≤ -1; omega
                    simpa [this] using hs
                  have HS := Lib.hid hs'
                  clear hs hs'
                  go_wp2_with fail
                  go_quiet (fail)
                  go_wp2_with fail
                  go_roundw
                  case rel => exact ⟨1, by omega, by go_num, HS.out.symm, (dNb hb _)⟩
                  case measure => simp [intOf]; omega
      · go_wp2
        go_ret
        refine ⟨ret_int ?_, hb⟩
        rw [Hv.out, ← HI.out, List.drop_eq_nil_of_le (by omega)]; rfl

set_option maxHeartbeats 400000 in
theorem valid_nil (p : Option Addr) (c : Nat) (w : World) : Calls Try.prog 15 #[.slice p 0 c] w fun e w' => e = .returned (.int .i64 (validE [])) ∧ Below w.heap.size w w' := by
  have Hv := Lib.hid (show validE [] = 0 from rfl)
  go_enter Try.func15, Try.ntmps15
  go_wp2
  refine wp_loop_rounds 1 ?_
  rw [rounds_succ]
  go_wp2
  go_ret
  exact ⟨ret_int Hv.out.symm, Below.refl _ _⟩
set_option maxHeartbeats 400000 in
theorem refValid_nil (p : Option Addr) (c : Nat) (w : World) : Calls Try.prog 12 #[.slice p 0 c] w fun e w' => e = .returned (.int .i64 (validE [])) ∧ Below w.heap.size w w' := by
  have Hv := Lib.hid (show validE [] = 0 from rfl)
  go_enter Try.func12, Try.ntmps12
  go_wp2
  refine wp_loop_rounds 1 ?_
  rw [rounds_succ]
  go_wp2
  go_ret
  exact ⟨ret_int Hv.out.symm, Below.refl _ _⟩
set_option maxHeartbeats 400000 in
theorem normal_nil (p : Option Addr) (c : Nat) (w : World) : Calls Try.prog 14 #[.slice p 0 c] w fun e w' => e = .returned (.slice none 0 0) ∧ Below w.heap.size w w' := by
  go_enter Try.func14, Try.ntmps14
  go_wp2
  refine wp_loop_rounds 1 ?_
  rw [rounds_succ]
  go_wp2
  go_ret
  exact ⟨rfl, Below.refl _ _⟩

theorem valid_any (v : Value) (l : List St) (w : World) (hl : l.length ≤ 2000000) (hR : Rd w v l) : Calls Try.prog 15 #[v] w fun e w' => e = .returned (.int .i64 (validE l)) ∧ Below w.heap.size w w' := by
  obtain ⟨p, c, rfl, h2, h3, h4⟩ := hR
  by_cases e : l = []
  · subst e; exact valid_nil p c w
  · obtain ⟨b, o, rfl, ha⟩ := h4 e; exact valid_some b o c l w hl ha
theorem refValid_any (v : Value) (l : List St) (w : World) (hl : l.length ≤ 2000000) (hR : Rd w v l) : Calls Try.prog 12 #[v] w fun e w' => e = .returned (.int .i64 (validE l)) ∧ Below w.heap.size w w' := by
  obtain ⟨p, c, rfl, h2, h3, h4⟩ := hR
  by_cases e : l = []
  · subst e; exact refValid_nil p c w
  · obtain ⟨b, o, rfl, ha⟩ := h4 e; exact refValid_some b o c l w hl ha
/-- What a call returns that makes a series. -/
def GivesL (w : World) (l : List St) (e : Ending) (w' : World) : Prop := ∃ v, e = .returned v ∧ Rd w' v l ∧ Below w.heap.size w w'
theorem normal_any (v : Value) (l : List St) (w : World) (hl : l.length ≤ 2000000) (hR : Rd w v l) : Calls Try.prog 14 #[v] w (GivesL w (nL 0 l)) := by
  obtain ⟨p, c, rfl, h2, h3, h4⟩ := hR
  by_cases e : l = []
  · subst e; exact (normal_nil p c w).mono fun _ _ ⟨he, hb⟩ => ⟨_, he, Rd.nil _, hb⟩
  · obtain ⟨b, o, rfl, ha⟩ := h4 e
    exact (normal_some b o c l w hl ha).mono fun _ _ ⟨v, he, ho, hb⟩ => ⟨v, he, Rd.own ho, hb⟩
end Go.Proofs.Ytapfinnbfnhdbab
