/-
  What Valid returns, in the package series and in its reference.
-/
import Derived.Test.YtapfinnbfnhdbabSerN
namespace Go.Proofs.Ytapfinnbfnhdbab
open Go.RowKit
open Ser
set_option linter.unusedVariables false

set_option maxHeartbeats 400000 in
theorem isTime_any (t : Int) (w : World) : Calls Try.prog 32 #[.int .i64 t] w fun e w' => e = .returned (.bool (tB t)) ∧ w = w' := by
  by_cases h1 : 0 ≤ t
  · have hv : tB t = decide (t ≤ 268435456) := by unfold tB; simp [h1]
    have Hv := Lib.hid hv; clear hv
    go_enter Try.func32, Try.ntmps32
    go_wp2
    go_ret
    exact ⟨ret_bool Hv.out.symm, rfl⟩
  · have hv : tB t = false := by unfold tB; simp [h1]
    have Hv := Lib.hid hv; clear hv
    go_enter Try.func32, Try.ntmps32
    go_wp2
    go_ret
    exact ⟨ret_bool Hv.out.symm, rfl⟩
set_option maxHeartbeats 400000 in
theorem isValue_any (t : Int) (w : World) : Calls Try.prog 33 #[.int .i64 t] w fun e w' => e = .returned (.bool (vB t)) ∧ w = w' := by
  by_cases h1 : -1099511627776 ≤ t
  · have hv : vB t = decide (t ≤ 1099511627776) := by unfold vB; simp [h1]
    have Hv := Lib.hid hv; clear hv
    go_enter Try.func33, Try.ntmps33
    go_wp2
    go_ret
    exact ⟨ret_bool Hv.out.symm, rfl⟩
  · have hv : vB t = false := by unfold vB; simp [h1]
    have Hv := Lib.hid hv; clear hv
    go_enter Try.func33, Try.ntmps33
    go_wp2
    go_ret
    exact ⟨ret_bool Hv.out.symm, rfl⟩
theorem isTime_b (t : Int) (x : Bool) (w : World) (h : tB t = x) : Calls Try.prog 32 #[.int .i64 t] w fun e w' => e = .returned (.bool x) ∧ w = w' := h ▸ isTime_any t w
theorem isValue_b (t : Int) (x : Bool) (w : World) (h : vB t = x) : Calls Try.prog 33 #[.int .i64 t] w fun e w' => e = .returned (.bool x) ∧ w = w' := h ▸ isValue_any t w

set_option maxHeartbeats 4000000 in
set_option maxRecDepth 1000000 in
theorem valid_some (b o c : Nat) (l : List St) (w : World) (hl : l.length ≤ 2000000) (hR : At w b o l) :
    Calls Try.prog 15 #[.slice (some ⟨b, o, none⟩) l.length c] w fun e w' => e = .returned (.int .i64 (validE l)) ∧ Below w.heap.size w w' := by
  by_cases h5 : 512 < l.length
  · have hv : validE l = 3 := if_pos h5
    have Hv := Lib.hid hv; clear hv
    go_enter Try.func15, Try.ntmps15
    go_wp2
    go_ret
    exact ⟨ret_int Hv.out.symm, Below.refl _ _⟩
  · have hv : validE l = vL (-1) l := if_neg h5
    have Hv := Lib.hid hv; clear hv
    have HR := Lib.hid hR
    clear hR
    go_enter Try.func15, Try.ntmps15
    go_wp2
    go_loopw [10] (fun i wr => ∃ k : Nat, k ≤ l.length ∧ i = .int .i64 k ∧ Hid (vL (pv l k) (l.drop k) = vL (-1) l) ∧ Below w.heap.size w wr) (fun i _ => l.length - (intOf i).toNat)
    case atStart => exact ⟨0, Nat.zero_le _, rfl, Lib.hid rfl, Below.refl _ _⟩
    case round =>
      obtain ⟨k, hk, rfl, HI, hb⟩ := hrel
      by_cases hlt : k < l.length
      · obtain ⟨h1, h2⟩ := HR.out.get hb k hlt
        have hs := vL_step l k hlt
        rw [HI.out, okS_of] at hs
        obtain ⟨x1, e1⟩ : ∃ x, x = l[k].1 := ⟨_, rfl⟩
        obtain ⟨x2, e2⟩ : ∃ x, x = l[k].2 := ⟨_, rfl⟩
        rw [← e1, ← e2] at hs
        rw [← e1] at h1
        rw [← e2] at h2
        have E1 := Lib.hid e1
        have hb1 := hb.alloc (by have := hb.size; omega) (.cells #[.int .i64 x1, .int .i64 x2] 30)
        clear e1 e2
        cases ht : tB x1 with
        | false =>
          rw [ht] at hs
          have HS := Lib.hid hs
          have T1 := Lib.hid (fun W => isTime_b x1 false W ht)
          clear hs ht
          go_wp2_with fail
          refine (T1.out _).mono ?_
          rintro e w1 ⟨rfl, rfl⟩
          go_wp2_with fail
          go_ret
          exact ⟨ret_int (by rw [Hv.out, HS.out]; rfl), hb1⟩
        | true =>
          rw [ht] at hs
          have T1 := Lib.hid (fun W => isTime_b x1 true W ht)
          have ht2 : 0 ≤ x1 := by unfold tB at ht; simp at ht; exact ht.1
          clear ht
          cases hv : vB x2 with
          | false =>
            rw [hv] at hs
            have HS := Lib.hid hs
            have T2 := Lib.hid (fun W => isValue_b x2 false W hv)
            clear hs hv
            go_wp2_with fail
            refine (T1.out _).mono ?_
            rintro e w1 ⟨rfl, rfl⟩
            go_wp2_with fail
            refine (T2.out _).mono ?_
            rintro e w1 ⟨rfl, rfl⟩
            go_wp2_with fail
            go_ret
            exact ⟨ret_int (by rw [Hv.out, HS.out]; rfl), hb1⟩
          | true =>
            rw [hv] at hs
            have T2 := Lib.hid (fun W => isValue_b x2 true W hv)
            clear hv
            by_cases h0 : 0 < k
            · obtain ⟨j, rfl⟩ : ∃ j, k = j + 1 := ⟨k - 1, by omega⟩
              obtain ⟨g1, _⟩ := HR.out.get hb1 j (by omega)
              have hp := pv_succ l j (by omega)
              obtain ⟨x0, e0⟩ : ∃ x, x = l[j].1 := ⟨_, rfl⟩
              rw [← e0] at g1 hp
              rw [hp] at hs
              have hw1 : IntKind.i64.wrap (((j + 1 : Nat) : Int) - 1) = (j : Int) := by rw [IntKind.wrap_i64]; omega
              by_cases hle : x1 ≤ x0
              · have hs' : vL (-1) l = 1 := by simp [hle] at hs; exact hs
                have HS := Lib.hid hs'
                clear hs hs' hp e0
                go_wp2_with fail
                refine (T1.out _).mono ?_
                rintro e w1 ⟨rfl, rfl⟩
                go_wp2_with fail
                refine (T2.out _).mono ?_
                rintro e w1 ⟨rfl, rfl⟩
                go_wp2_with fail
                go_quiet (fail)
                go_wp2_with fail
                go_ret
                exact ⟨ret_int (by rw [Hv.out, HS.out]), (dNb hb1 _)⟩
              · have hs' : vL (-1) l = vL (pv l (j + 1 + 1)) (l.drop (j + 1 + 1)) := by simpa [hle] using hs
                have HS := Lib.hid hs'
                have hgt : x0 < x1 := by omega
                clear hs hs' hp e0 hle
                go_wp2_with fail
                refine (T1.out _).mono ?_
                rintro e w1 ⟨rfl, rfl⟩
                go_wp2_with fail
                refine (T2.out _).mono ?_
                rintro e w1 ⟨rfl, rfl⟩
                go_wp2_with fail
                go_quiet (fail)
                go_wp2_with fail
                go_roundw
                case rel => exact ⟨j + 1 + 1, by omega, by go_num, HS.out.symm, (dNb hb1 _)⟩
                case measure => simp [intOf]; omega
            · obtain rfl : k = 0 := by omega
              simp only [Nat.zero_mul, Nat.add_zero] at h1 h2
              have hs' : vL (-1) l = vL (pv l 1) (l.drop 1) := by
                have : ¬ x1 ≤ pv l 0 := by show ¬ x1 ≤ -1; omega
                simpa [this] using hs
              have HS := Lib.hid hs'
              clear hs hs'
              go_wp2_with fail
              refine (T1.out _).mono ?_
              rintro e w1 ⟨rfl, rfl⟩
              go_wp2_with fail
              refine (T2.out _).mono ?_
              rintro e w1 ⟨rfl, rfl⟩
              go_wp2_with fail
              go_quiet (fail)
              go_wp2_with fail
              go_roundw
              case rel => exact ⟨1, by omega, by go_num, HS.out.symm, (dNb hb1 _)⟩
              case measure => simp [intOf]; omega
      · go_wp2
        go_ret
        refine ⟨ret_int ?_, hb⟩
        rw [Hv.out, ← HI.out, List.drop_eq_nil_of_le (by omega)]; rfl
end Go.Proofs.Ytapfinnbfnhdbab
