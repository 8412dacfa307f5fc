/-
  The law MoneyNearest holds: for every input it returns true and leaves its arguments as they were, where the library's variables are as its text lays them.
-/
import Derived.Test.YtjjhdbodjcffaaaDoorMonAC
namespace Go.Proofs.YtjjhdbodjcffaaaDoor
namespace moneyNearest
open Go.ChangeShapes Go.WideShapes Go.ChangeAt Go.RowKit Go.Deep
open Go.ChangeMaps (open_string shut_string)
open IntWalk
set_option linter.unusedVariables false

set_option maxHeartbeats 2000000 in
/-- What is known of a rounded quotient. -/
theorem near (n d m : Int) (hn : I64 n) (h1 : ¬ d < 1) (hdm : d ≤ 9223372036854775807) (m0 : 1 ≤ m) (m1 : m ≤ 4) : ∃ q D : Int, scV n 1 d m = q ∧ scE n 1 d m = 0 ∧ I64 q ∧ wrap64 (n - wrap64 (q * d)) = D ∧ -d < D ∧ D < d ∧
    (m < 3 → (D < 0 → -D ≤ d + D) ∧ (0 < D → D ≤ d - D)) ∧ (m = 3 → (0 ≤ n → 0 ≤ D) ∧ (n < 0 → D ≤ 0)) ∧ (m = 4 → (0 ≤ n → D ≤ 0) ∧ (n < 0 → 0 ≤ D)) ∧
    (n ≠ -9223372036854775808 → scV (-n) 1 d m = -q ∧ scE (-n) 1 d m = 0 ∧ -9223372036854775807 ≤ q ∧ q ≤ 9223372036854775807) := by
  obtain ⟨n0, n1⟩ := hn
  obtain ⟨A, hA⟩ : ∃ A, A = ab n := ⟨_, rfl⟩
  have hA2 : A = if n < 0 then -n else n := by rw [hA]; rfl
  obtain ⟨Q0, hQ0⟩ : ∃ Q0, Q0 = A / d := ⟨_, rfl⟩
  obtain ⟨r, hr⟩ : ∃ r, r = A % d := ⟨_, rfl⟩
  have x1 := Int.emod_add_mul_ediv A d
  have x2 := Int.emod_nonneg A (show d ≠ 0 by omega)
  have x3 := Int.emod_lt_of_pos A (show 0 < d by omega)
  rw [← hQ0, ← hr] at x1
  rw [← hr] at x2 x3
  have hq0 : 0 ≤ Q0 := by rw [hQ0]; exact Int.ediv_nonneg (by rw [hA2]; split <;> omega) (by omega)
  obtain ⟨U, hU⟩ : ∃ U, U = upI Q0 r d m := ⟨_, rfl⟩
  have hU2 : (m = 1 → (U = true ↔ d ≤ 2 * r)) ∧ (m = 2 → (U = true → d ≤ 2 * r) ∧ (U = false → 2 * r ≤ d)) ∧ (m = 3 → U = false) ∧ (m = 4 → (U = true ↔ 0 < r)) ∧ (U = true → 0 < r) := by
    rw [hU]
    unfold upI
    rcases (by omega : m = 1 ∨ m = 2 ∨ m = 3 ∨ m = 4) with rfl | rfl | rfl | rfl
    · simp; omega
    · simp; omega
    · simp
    · simp
  have hQs : ∀ k : Int, ab k = A → scQ k 1 d m = Q0 + (if U = true then 1 else 0) := fun k hk => by
    unfold scQ; rw [hk, show ab 1 = 1 by decide, Int.mul_one, ← hQ0, ← hr, ← hU]
  clear hU hQ0 hr
  have hP : d * Q0 ≤ A := by omega
  obtain ⟨u, hu⟩ : ∃ u : Int, u = if U = true then 1 else 0 := ⟨_, rfl⟩
  have hu2 : (U = true ∧ u = 1) ∨ (U = false ∧ u = 0) := by cases U <;> simp [hu]
  have hb : Q0 + u ≤ A := by
    by_cases hd1 : d = 1
    · subst hd1
      have : U = false := by
        cases U with
        | false => rfl
        | true => have := hU2.2.2.2.2 rfl; omega
      rw [Int.one_mul] at x1
      rcases hu2 with ⟨c, _⟩ | ⟨_, c⟩
      · rw [this] at c; cases c
      · omega
    · have h2 : 2 * Q0 ≤ d * Q0 := Int.mul_le_mul_of_nonneg_right (by omega) hq0
      rcases hu2 with ⟨c, c2⟩ | ⟨_, c⟩
      · have := hU2.2.2.2.2 c; omega
      · omega
  have hpd : (Q0 + u) * d = d * Q0 + (if U = true then d else 0) := by
    rw [Int.add_mul, Int.mul_comm Q0 d, hu]; cases U <;> simp
  have hfin : ∀ k : Int, ab k = A → -9223372036854775808 ≤ k → k ≤ 9223372036854775807 → scV k 1 d m = (if k < 0 then -(Q0 + u) else Q0 + u) ∧ scE k 1 d m = 0 := fun k hk k0 k1 => by
    have hk2 : A = if k < 0 then -k else k := by rw [← hk]; rfl
    have hN : scN k 1 = decide (k < 0) := by unfold scN; simp
    unfold scV scE
    rw [if_neg h1, if_neg (show ¬ (m < 1 ∨ 4 < m) by omega), if_neg h1, if_neg (show ¬ (m < 1 ∨ 4 < m) by omega), hQs k hk, hN, ← hu]
    by_cases c : k < 0
    · rw [if_pos c] at hk2
      unfold finV finE
      simp only [c, decide_true, if_true]
      rw [if_pos (by omega), if_pos (by omega)]; exact ⟨rfl, rfl⟩
    · rw [if_neg c] at hk2
      unfold finV finE
      simp only [c, decide_false, Bool.false_eq_true, if_false]
      rw [if_pos (by omega), if_pos (by omega)]; exact ⟨rfl, rfl⟩
  obtain ⟨f1, f2⟩ := hfin n hA.symm n0 n1
  refine ⟨_, n - (if n < 0 then -(Q0 + u) else Q0 + u) * d, f1, f2, ?_, ?_, ?_⟩
  · unfold I64
    split <;> omega
  · generalize hz : (if n < 0 then -(Q0 + u) else Q0 + u) * d = P
    have hPb : P = if n < 0 then -((Q0 + u) * d) else (Q0 + u) * d := by
      rw [← hz]; split
      · rw [Int.neg_mul]
      · rfl
    rw [hpd] at hPb
    have hUd : (U = true ∧ (if U = true then d else 0) = d) ∨ (U = false ∧ (if U = true then d else 0) = 0) := by cases U <;> simp
    have : -9223372036854775808 ≤ n - P ∧ n - P ≤ 9223372036854775807 := by
      rw [hPb]
      generalize (if U = true then d else 0) = E at hUd
      by_cases c : n < 0
      · rw [if_pos c] at hA2 ⊢
        rcases hUd with ⟨_, e⟩ | ⟨_, e⟩ <;> omega
      · rw [if_neg c] at hA2 ⊢
        rcases hUd with ⟨_, e⟩ | ⟨_, e⟩ <;> omega
    unfold wrap64
    omega
  · generalize hz : (if n < 0 then -(Q0 + u) else Q0 + u) * d = P
    have hPb : P = if n < 0 then -((Q0 + u) * d) else (Q0 + u) * d := by
      rw [← hz]; split
      · rw [Int.neg_mul]
      · rfl
    rw [hpd] at hPb
    have hUd : (U = true ∧ (if U = true then d else 0) = d) ∨ (U = false ∧ (if U = true then d else 0) = 0) := by cases U <;> simp
    generalize (if U = true then d else 0) = E at hUd hPb
    obtain ⟨u1, u2, u3, u4, u5⟩ := hU2
    refine ⟨?_, ?_, ?_, ?_, ?_, ?_⟩
    · by_cases c : n < 0
      · rw [if_pos c] at hA2 hPb
        rcases hUd with ⟨_, e⟩ | ⟨_, e⟩ <;> omega
      · rw [if_neg c] at hA2 hPb
        rcases hUd with ⟨e0, e⟩ | ⟨_, e⟩
        · have := u5 e0; omega
        · omega
    · by_cases c : n < 0
      · rw [if_pos c] at hA2 hPb
        rcases hUd with ⟨e0, e⟩ | ⟨_, e⟩
        · have := u5 e0; omega
        · omega
      · rw [if_neg c] at hA2 hPb
        rcases hUd with ⟨_, e⟩ | ⟨_, e⟩ <;> omega
    · intro hm
      have key : (U = true → d ≤ 2 * r) ∧ (U = false → 2 * r ≤ d) := by
        rcases (by omega : m = 1 ∨ m = 2) with h | h
        · refine ⟨(u1 h).1, fun hu => ?_⟩
          have : ¬ d ≤ 2 * r := fun hh => by have := (u1 h).2 hh; rw [hu] at this; cases this
          omega
        · exact u2 h
      by_cases c : n < 0
      · rw [if_pos c] at hA2 hPb
        rcases hUd with ⟨e0, e⟩ | ⟨e0, e⟩
        · have := key.1 e0; omega
        · have := key.2 e0; omega
      · rw [if_neg c] at hA2 hPb
        rcases hUd with ⟨e0, e⟩ | ⟨e0, e⟩
        · have := key.1 e0; omega
        · have := key.2 e0; omega
    · intro hm
      have e0 := u3 hm
      rcases hUd with ⟨e1, _⟩ | ⟨_, e⟩
      · rw [e0] at e1; cases e1
      · by_cases c : n < 0
        · rw [if_pos c] at hA2 hPb; omega
        · rw [if_neg c] at hA2 hPb; omega
    · intro hm
      have k1 := u4 hm
      rcases hUd with ⟨e0, e⟩ | ⟨e0, e⟩
      · by_cases c : n < 0
        · rw [if_pos c] at hA2 hPb; omega
        · rw [if_neg c] at hA2 hPb; omega
      · have : ¬ 0 < r := fun hh => by have := k1.2 hh; rw [e0] at this; cases this
        by_cases c : n < 0
        · rw [if_pos c] at hA2 hPb; omega
        · rw [if_neg c] at hA2 hPb; omega
    · intro hmin
      have hab : ab (-n) = A := by
        rw [hA2]; unfold ab
        by_cases c : n < 0
        · rw [if_pos c, if_neg (by omega)]
        · rw [if_neg c]
          split <;> omega
      obtain ⟨g1, g2⟩ := hfin (-n) hab (by omega) (by omega)
      refine ⟨?_, g2, ?_, ?_⟩
      · rw [g1]
        by_cases c : n < 0
        · rw [if_neg (by omega), if_pos c]; omega
        · rw [if_neg c] at hA2 ⊢
          by_cases c2 : -n < 0
          · rw [if_pos c2]
          · rw [if_neg c2]; omega
      · split at hA2 <;> split <;> omega
      · split at hA2 <;> split <;> omega
set_option maxHeartbeats 8000000 in
set_option maxRecDepth 10000 in
theorem walk (n d x : Int) (w : World) (hn : I64 n) (hd : I64 d) (x0 : 0 ≤ x) (x1 : x ≤ 255) (hT : Tabs w) :
    Calls Tryd.prog 4 #[.int .i64 n, .int .i64 d, .int .u8 x] w fun e w' => e = .returned (.bool true) ∧ Below w.heap.size w w' := by
  have HT := Lib.hid hT
  have HN := Lib.hid hn
  obtain ⟨n0, n1⟩ := hn
  obtain ⟨d0, d1⟩ := hd
  clear hT
  obtain ⟨m, hm⟩ : ∃ m, m = 1 + x % 4 := ⟨_, rfl⟩
  have mb : 1 ≤ m ∧ m ≤ 4 := by omega
  obtain ⟨m0, m1⟩ := mb
  have HM := Lib.hid hm.symm
  clear hm
  by_cases h1 : d < 1
  · go_enter Tryd.func4, Tryd.ntmps4
    go_wp2_with fail
    refine (awake_run _ HT.out).mono ?_
    rintro e wx ⟨rfl, gx⟩
    go_wp2_with fail
    go_ret
    exact ⟨rfl, gx⟩
  · obtain ⟨q, D, e1, e2, ⟨q0, q1⟩, hw, b0, b1, F12, F3, F4, hback⟩ := near n d m HN.out h1 d1 m0 m1
    have C1 := Lib.hid (fun W => round_all n d m W ⟨n0, n1, by decide, by decide, d0, d1, by omega, by omega⟩)
    rw [e1, e2] at C1
    have HW := Lib.hid hw
    have HB := Lib.hid hback
    clear e1 e2 hw hback
    go_enter Tryd.func4, Tryd.ntmps4
    go_upto_region 2 with fail
    rw [HM.out]
    clear HM x0 x1
    go_wp2_with fail
    refine (C1.out _).mono ?_
    rintro e w1 ⟨rfl, k1, rfl⟩
    go_upto_region 8 with fail
    rw [HW.out]
    have hD : D < 0 ∨ D = 0 ∨ 0 < D := by omega
    rcases (by omega : m < 3 ∨ m = 3 ∨ m = 4) with hm12 | hm3 | hm4
    · have e3 : (m == 3) = false := eq_f _ _ (by omega)
      have e4 : (m == 4) = false := eq_f _ _ (by omega)
      obtain ⟨g1, g2⟩ := F12 hm12
      clear F12 F3 F4
      by_cases hs : n < 0
      · rcases hD with hD | hD | hD
        · have g := g1 hD
          clear g1 g2
          by_cases hz : n = -9223372036854775808
          · have hz2 : (n == -9223372036854775808) = true := eq_t _ _ hz
            clear hz
            have B1 := Lib.hid (below_draws w k1)
            go_wp2_with fail
            refine (awake_run _ (HT.out.below B1.out)).mono ?_
            rintro e wx ⟨rfl, gx⟩
            go_wp2_with fail
            go_ret
            exact ⟨rfl, bt B1.out gx⟩
          · have C2 := Lib.hid (fun W => round_all (-n) d m W ⟨by omega, by omega, by decide, by decide, d0, d1, by omega, by omega⟩)
            obtain ⟨z1, z2, z3, z4⟩ := HB.out hz
            rw [z1, z2] at C2
            clear z1 z2
            have hz2 : (n == -9223372036854775808) = false := eq_f _ _ hz
            go_wp2_with fail
            refine (C2.out _).mono ?_
            rintro e w2 ⟨rfl, k2, rfl⟩
            have B1 := Lib.hid (below_draws w (k1 + k2))
            go_wp2_with fail
            refine (awake_run _ (HT.out.below B1.out)).mono ?_
            rintro e wx ⟨rfl, gx⟩
            go_wp2_with fail
            go_ret
            exact ⟨rfl, bt B1.out gx⟩
        · subst hD
          clear g1 g2
          by_cases hz : n = -9223372036854775808
          · have hz2 : (n == -9223372036854775808) = true := eq_t _ _ hz
            clear hz
            have B1 := Lib.hid (below_draws w k1)
            go_wp2_with fail
            refine (awake_run _ (HT.out.below B1.out)).mono ?_
            rintro e wx ⟨rfl, gx⟩
            go_wp2_with fail
            go_ret
            exact ⟨rfl, bt B1.out gx⟩
          · have C2 := Lib.hid (fun W => round_all (-n) d m W ⟨by omega, by omega, by decide, by decide, d0, d1, by omega, by omega⟩)
            obtain ⟨z1, z2, z3, z4⟩ := HB.out hz
            rw [z1, z2] at C2
            clear z1 z2
            have hz2 : (n == -9223372036854775808) = false := eq_f _ _ hz
            go_wp2_with fail
            refine (C2.out _).mono ?_
            rintro e w2 ⟨rfl, k2, rfl⟩
            have B1 := Lib.hid (below_draws w (k1 + k2))
            go_wp2_with fail
            refine (awake_run _ (HT.out.below B1.out)).mono ?_
            rintro e wx ⟨rfl, gx⟩
            go_wp2_with fail
            go_ret
            exact ⟨rfl, bt B1.out gx⟩
        · have g := g2 hD
          clear g1 g2
          by_cases hz : n = -9223372036854775808
          · have hz2 : (n == -9223372036854775808) = true := eq_t _ _ hz
            clear hz
            have B1 := Lib.hid (below_draws w k1)
            go_wp2_with fail
            refine (awake_run _ (HT.out.below B1.out)).mono ?_
            rintro e wx ⟨rfl, gx⟩
            go_wp2_with fail
            go_ret
            exact ⟨rfl, bt B1.out gx⟩
          · have C2 := Lib.hid (fun W => round_all (-n) d m W ⟨by omega, by omega, by decide, by decide, d0, d1, by omega, by omega⟩)
            obtain ⟨z1, z2, z3, z4⟩ := HB.out hz
            rw [z1, z2] at C2
            clear z1 z2
            have hz2 : (n == -9223372036854775808) = false := eq_f _ _ hz
            go_wp2_with fail
            refine (C2.out _).mono ?_
            rintro e w2 ⟨rfl, k2, rfl⟩
            have B1 := Lib.hid (below_draws w (k1 + k2))
            go_wp2_with fail
            refine (awake_run _ (HT.out.below B1.out)).mono ?_
            rintro e wx ⟨rfl, gx⟩
            go_wp2_with fail
            go_ret
            exact ⟨rfl, bt B1.out gx⟩
      · rcases hD with hD | hD | hD
        · have g := g1 hD
          clear g1 g2
          have hz : n ≠ -9223372036854775808 := by omega
          have C2 := Lib.hid (fun W => round_all (-n) d m W ⟨by omega, by omega, by decide, by decide, d0, d1, by omega, by omega⟩)
          obtain ⟨z1, z2, z3, z4⟩ := HB.out hz
          rw [z1, z2] at C2
          clear z1 z2
          have hz2 : (n == -9223372036854775808) = false := eq_f _ _ hz
          go_wp2_with fail
          refine (C2.out _).mono ?_
          rintro e w2 ⟨rfl, k2, rfl⟩
          have B1 := Lib.hid (below_draws w (k1 + k2))
          go_wp2_with fail
          refine (awake_run _ (HT.out.below B1.out)).mono ?_
          rintro e wx ⟨rfl, gx⟩
          go_wp2_with fail
          go_ret
          exact ⟨rfl, bt B1.out gx⟩
        · subst hD
          clear g1 g2
          have hz : n ≠ -9223372036854775808 := by omega
          have C2 := Lib.hid (fun W => round_all (-n) d m W ⟨by omega, by omega, by decide, by decide, d0, d1, by omega, by omega⟩)
          obtain ⟨z1, z2, z3, z4⟩ := HB.out hz
          rw [z1, z2] at C2
          clear z1 z2
          have hz2 : (n == -9223372036854775808) = false := eq_f _ _ hz
          go_wp2_with fail
          refine (C2.out _).mono ?_
          rintro e w2 ⟨rfl, k2, rfl⟩
          have B1 := Lib.hid (below_draws w (k1 + k2))
          go_wp2_with fail
          refine (awake_run _ (HT.out.below B1.out)).mono ?_
          rintro e wx ⟨rfl, gx⟩
          go_wp2_with fail
          go_ret
          exact ⟨rfl, bt B1.out gx⟩
        · have g := g2 hD
          clear g1 g2
          have hz : n ≠ -9223372036854775808 := by omega
          have C2 := Lib.hid (fun W => round_all (-n) d m W ⟨by omega, by omega, by decide, by decide, d0, d1, by omega, by omega⟩)
          obtain ⟨z1, z2, z3, z4⟩ := HB.out hz
          rw [z1, z2] at C2
          clear z1 z2
          have hz2 : (n == -9223372036854775808) = false := eq_f _ _ hz
          go_wp2_with fail
          refine (C2.out _).mono ?_
          rintro e w2 ⟨rfl, k2, rfl⟩
          have B1 := Lib.hid (below_draws w (k1 + k2))
          go_wp2_with fail
          refine (awake_run _ (HT.out.below B1.out)).mono ?_
          rintro e wx ⟨rfl, gx⟩
          go_wp2_with fail
          go_ret
          exact ⟨rfl, bt B1.out gx⟩
    · have e3 : (m == 3) = true := eq_t _ _ hm3
      have e4 : (m == 4) = false := eq_f _ _ (by omega)
      obtain ⟨g1, g2⟩ := F3 hm3
      have m2 : 3 ≤ m := by omega
      clear hm3
      clear F12 F3 F4
      by_cases hs : n < 0
      · have g := g2 hs
        clear g1 g2
        rcases hD with hD | hD | hD
        · by_cases hz : n = -9223372036854775808
          · have hz2 : (n == -9223372036854775808) = true := eq_t _ _ hz
            clear hz
            have B1 := Lib.hid (below_draws w k1)
            go_wp2_with fail
            refine (awake_run _ (HT.out.below B1.out)).mono ?_
            rintro e wx ⟨rfl, gx⟩
            go_wp2_with fail
            go_ret
            exact ⟨rfl, bt B1.out gx⟩
          · have C2 := Lib.hid (fun W => round_all (-n) d m W ⟨by omega, by omega, by decide, by decide, d0, d1, by omega, by omega⟩)
            obtain ⟨z1, z2, z3, z4⟩ := HB.out hz
            rw [z1, z2] at C2
            clear z1 z2
            have hz2 : (n == -9223372036854775808) = false := eq_f _ _ hz
            go_wp2_with fail
            refine (C2.out _).mono ?_
            rintro e w2 ⟨rfl, k2, rfl⟩
            have B1 := Lib.hid (below_draws w (k1 + k2))
            go_wp2_with fail
            refine (awake_run _ (HT.out.below B1.out)).mono ?_
            rintro e wx ⟨rfl, gx⟩
            go_wp2_with fail
            go_ret
            exact ⟨rfl, bt B1.out gx⟩
        · subst hD
          by_cases hz : n = -9223372036854775808
          · have hz2 : (n == -9223372036854775808) = true := eq_t _ _ hz
            clear hz
            have B1 := Lib.hid (below_draws w k1)
            go_wp2_with fail
            refine (awake_run _ (HT.out.below B1.out)).mono ?_
            rintro e wx ⟨rfl, gx⟩
            go_wp2_with fail
            go_ret
            exact ⟨rfl, bt B1.out gx⟩
          · have C2 := Lib.hid (fun W => round_all (-n) d m W ⟨by omega, by omega, by decide, by decide, d0, d1, by omega, by omega⟩)
            obtain ⟨z1, z2, z3, z4⟩ := HB.out hz
            rw [z1, z2] at C2
            clear z1 z2
            have hz2 : (n == -9223372036854775808) = false := eq_f _ _ hz
            go_wp2_with fail
            refine (C2.out _).mono ?_
            rintro e w2 ⟨rfl, k2, rfl⟩
            have B1 := Lib.hid (below_draws w (k1 + k2))
            go_wp2_with fail
            refine (awake_run _ (HT.out.below B1.out)).mono ?_
            rintro e wx ⟨rfl, gx⟩
            go_wp2_with fail
            go_ret
            exact ⟨rfl, bt B1.out gx⟩
        · exact absurd hD (by omega)
      · have g := g1 (by omega)
        clear g1 g2
        rcases hD with hD | hD | hD
        · exact absurd hD (by omega)
        · subst hD
          have hz : n ≠ -9223372036854775808 := by omega
          have C2 := Lib.hid (fun W => round_all (-n) d m W ⟨by omega, by omega, by decide, by decide, d0, d1, by omega, by omega⟩)
          obtain ⟨z1, z2, z3, z4⟩ := HB.out hz
          rw [z1, z2] at C2
          clear z1 z2
          have hz2 : (n == -9223372036854775808) = false := eq_f _ _ hz
          go_wp2_with fail
          refine (C2.out _).mono ?_
          rintro e w2 ⟨rfl, k2, rfl⟩
          have B1 := Lib.hid (below_draws w (k1 + k2))
          go_wp2_with fail
          refine (awake_run _ (HT.out.below B1.out)).mono ?_
          rintro e wx ⟨rfl, gx⟩
          go_wp2_with fail
          go_ret
          exact ⟨rfl, bt B1.out gx⟩
        · have hz : n ≠ -9223372036854775808 := by omega
          have C2 := Lib.hid (fun W => round_all (-n) d m W ⟨by omega, by omega, by decide, by decide, d0, d1, by omega, by omega⟩)
          obtain ⟨z1, z2, z3, z4⟩ := HB.out hz
          rw [z1, z2] at C2
          clear z1 z2
          have hz2 : (n == -9223372036854775808) = false := eq_f _ _ hz
          go_wp2_with fail
          refine (C2.out _).mono ?_
          rintro e w2 ⟨rfl, k2, rfl⟩
          have B1 := Lib.hid (below_draws w (k1 + k2))
          go_wp2_with fail
          refine (awake_run _ (HT.out.below B1.out)).mono ?_
          rintro e wx ⟨rfl, gx⟩
          go_wp2_with fail
          go_ret
          exact ⟨rfl, bt B1.out gx⟩
    · have e3 : (m == 3) = false := eq_f _ _ (by omega)
      have e4 : (m == 4) = true := eq_t _ _ hm4
      obtain ⟨g1, g2⟩ := F4 hm4
      have m2 : 3 ≤ m := by omega
      clear hm4
      clear F12 F3 F4
      by_cases hs : n < 0
      · have g := g2 hs
        clear g1 g2
        rcases hD with hD | hD | hD
        · exact absurd hD (by omega)
        · subst hD
          by_cases hz : n = -9223372036854775808
          · have hz2 : (n == -9223372036854775808) = true := eq_t _ _ hz
            clear hz
            have B1 := Lib.hid (below_draws w k1)
            go_wp2_with fail
            refine (awake_run _ (HT.out.below B1.out)).mono ?_
            rintro e wx ⟨rfl, gx⟩
            go_wp2_with fail
            go_ret
            exact ⟨rfl, bt B1.out gx⟩
          · have C2 := Lib.hid (fun W => round_all (-n) d m W ⟨by omega, by omega, by decide, by decide, d0, d1, by omega, by omega⟩)
            obtain ⟨z1, z2, z3, z4⟩ := HB.out hz
            rw [z1, z2] at C2
            clear z1 z2
            have hz2 : (n == -9223372036854775808) = false := eq_f _ _ hz
            go_wp2_with fail
            refine (C2.out _).mono ?_
            rintro e w2 ⟨rfl, k2, rfl⟩
            have B1 := Lib.hid (below_draws w (k1 + k2))
            go_wp2_with fail
            refine (awake_run _ (HT.out.below B1.out)).mono ?_
            rintro e wx ⟨rfl, gx⟩
            go_wp2_with fail
            go_ret
            exact ⟨rfl, bt B1.out gx⟩
        · by_cases hz : n = -9223372036854775808
          · have hz2 : (n == -9223372036854775808) = true := eq_t _ _ hz
            clear hz
            have B1 := Lib.hid (below_draws w k1)
            go_wp2_with fail
            refine (awake_run _ (HT.out.below B1.out)).mono ?_
            rintro e wx ⟨rfl, gx⟩
            go_wp2_with fail
            go_ret
            exact ⟨rfl, bt B1.out gx⟩
          · have C2 := Lib.hid (fun W => round_all (-n) d m W ⟨by omega, by omega, by decide, by decide, d0, d1, by omega, by omega⟩)
            obtain ⟨z1, z2, z3, z4⟩ := HB.out hz
            rw [z1, z2] at C2
            clear z1 z2
            have hz2 : (n == -9223372036854775808) = false := eq_f _ _ hz
            go_wp2_with fail
            refine (C2.out _).mono ?_
            rintro e w2 ⟨rfl, k2, rfl⟩
            have B1 := Lib.hid (below_draws w (k1 + k2))
            go_wp2_with fail
            refine (awake_run _ (HT.out.below B1.out)).mono ?_
            rintro e wx ⟨rfl, gx⟩
            go_wp2_with fail
            go_ret
            exact ⟨rfl, bt B1.out gx⟩
      · have g := g1 (by omega)
        clear g1 g2
        rcases hD with hD | hD | hD
        · have hz : n ≠ -9223372036854775808 := by omega
          have C2 := Lib.hid (fun W => round_all (-n) d m W ⟨by omega, by omega, by decide, by decide, d0, d1, by omega, by omega⟩)
          obtain ⟨z1, z2, z3, z4⟩ := HB.out hz
          rw [z1, z2] at C2
          clear z1 z2
          have hz2 : (n == -9223372036854775808) = false := eq_f _ _ hz
          go_wp2_with fail
          refine (C2.out _).mono ?_
          rintro e w2 ⟨rfl, k2, rfl⟩
          have B1 := Lib.hid (below_draws w (k1 + k2))
          go_wp2_with fail
          refine (awake_run _ (HT.out.below B1.out)).mono ?_
          rintro e wx ⟨rfl, gx⟩
          go_wp2_with fail
          go_ret
          exact ⟨rfl, bt B1.out gx⟩
        · subst hD
          have hz : n ≠ -9223372036854775808 := by omega
          have C2 := Lib.hid (fun W => round_all (-n) d m W ⟨by omega, by omega, by decide, by decide, d0, d1, by omega, by omega⟩)
          obtain ⟨z1, z2, z3, z4⟩ := HB.out hz
          rw [z1, z2] at C2
          clear z1 z2
          have hz2 : (n == -9223372036854775808) = false := eq_f _ _ hz
          go_wp2_with fail
          refine (C2.out _).mono ?_
          rintro e w2 ⟨rfl, k2, rfl⟩
          have B1 := Lib.hid (below_draws w (k1 + k2))
          go_wp2_with fail
          refine (awake_run _ (HT.out.below B1.out)).mono ?_
          rintro e wx ⟨rfl, gx⟩
          go_wp2_with fail
          go_ret
          exact ⟨rfl, bt B1.out gx⟩
        · exact absurd hD (by omega)

set_option maxRecDepth 100000 in
theorem contract (H : Type) (enc : TypeId × Value → H) (W : World) (base : Nat) (args : Array Value) (ds gs : List (DataW H)) (before : List MemPlace)
    (hval : ∀ (j : Nat) t v, Tryd.f4.params[j]? = some t → args[j]? = some v → Value.okWide Tryd.prog W .any base t v)
    (hW : DataW.Whole enc Tryd.prog Tryd.f4.params.toList Rows.moneyNearestSpec.vars false W args.toList ds gs before) (hL : laidMetH Tryd.prog Rows.moneyNearestRow.laid W) :
    Calls Tryd.prog 4 args W fun e W' => ∃ v, e = .returned v ∧ Rows.moneyNearestSpec.post enc Tryd.prog Tryd.f4 false true false false W args v W' := by
  have hW' := hW
  obtain ⟨p, q, hA0, hV, rfl, hfz, hnd⟩ := hW
  have hA : DataW.TrodAll enc Tryd.prog W 0 (fun _ => true) true Tryd.f4.params.toList args.toList ds p := hA0
  rw [Tryd.params4] at hA hval
  obtain ⟨v0, vs0, d0, ds0, p0, q0, hargs, rfl, rfl, h0, r0⟩ := trodAll_cons hA
  obtain ⟨v1, vs1, d1, ds1, p1, q1, rfl, rfl, rfl, h1, r1⟩ := trodAll_cons r0
  obtain ⟨v2, vs2, d2, ds2, p2, q2, rfl, rfl, rfl, h2, r2⟩ := trodAll_cons r1
  obtain ⟨rfl, rfl, rfl⟩ := trodAll_nil r2
  obtain rfl : args = #[v0, v1, v2] := by cases args; simp_all
  obtain ⟨rfl, rfl⟩ := trodVars_none hV
  have k0' := h0
  have lt0 : ∀ x ∈ p0, x.block < W.heap.size := by obtain ⟨m, hm⟩ := k0'; exact DataW.trod_lt m _ _ _ hm
  have k1' := h1
  have lt1 : ∀ x ∈ p1, x.block < W.heap.size := by obtain ⟨m, hm⟩ := k1'; exact DataW.trod_lt m _ _ _ hm
  have k2' := h2
  have lt2 : ∀ x ∈ p2, x.block < W.heap.size := by obtain ⟨m, hm⟩ := k2'; exact DataW.trod_lt m _ _ _ hm
  obtain ⟨x0, rfl, b0⟩ := int_form (hval 0 3 v0 rfl rfl) h0
  obtain ⟨x1, rfl, b1⟩ := int_form (hval 1 3 v1 rfl rfl) h1
  obtain ⟨x2, rfl, b2⟩ := byte_form (hval 2 5 v2 rfl rfl) h2
  clear hA0
  simp only [List.append_nil] at hW'
  refine (walk x0 x1 x2 W b0 b1 b2.1 b2.2 (tabs_of_laid hL)).mono fun e W' ⟨he, bel⟩ => ?_
  subst he
  exact ⟨_, rfl, _, _, _, [], _, [], hW', trodAll_mk1 (shut_bool Tryd.underlying4 _), (trodAll_cons_mk (Below.trod laidOut (by kernel_rfl) (of_decide_eq_true (by kernel_rfl)) k0' bel lt0) (trodAll_cons_mk (Below.trod laidOut (by kernel_rfl) (of_decide_eq_true (by kernel_rfl)) k1' bel lt1) (trodAll_cons_mk (Below.trod laidOut (by kernel_rfl) (of_decide_eq_true (by kernel_rfl)) k2' bel lt2) trodAll_mk0))), rfl, bel.frame _, fun h => by cases h⟩

noncomputable def lawWorld (os : Os) : World := World.laidAll Tryd.prog os Rows.moneyNearestRow.laid
theorem laid_met (os : Os) : laidMet Tryd.prog Rows.moneyNearestRow.laid ((lawWorld os).forCall (fun _ _ => 0) ⟨#[], #[.int .i64 0, .int .i64 0, .int .u8 0], []⟩).memory :=
  laidMet_laidAll _ (by kernel_rfl) (by kernel_rfl)
theorem reads (os : Os) {H : Type} (enc : TypeId × Value → H) : ∃ places, DataW.whole enc Tryd.prog ((lawWorld os).forCall (fun _ _ => 0) ⟨#[], #[.int .i64 0, .int .i64 0, .int .u8 0], []⟩).memory Tryd.f4.params.toList Rows.moneyNearestSpec.vars false (#[.int .i64 0, .int .i64 0, .int .u8 0] : Array Value).toList 8 = some ([.lit (.int .i64 0), .lit (.int .i64 0), .lit (.int .u8 0)], [], places) :=
  ⟨[], by kernel_rfl⟩

theorem fits (os : Os) : Input.okWideB Tryd.checked.prog ((lawWorld os).forCall (fun _ _ => 0) ⟨#[], #[.int .i64 0, .int .i64 0, .int .u8 0], []⟩) 4 ⟨#[], #[.int .i64 0, .int .i64 0, .int .u8 0], []⟩ = true := by kernel_rfl

set_option maxRecDepth 100000 in
theorem lifted (os : Os) (started : os.Started) (H : Type) (enc : TypeId × Value → H) (F : Stop.Interp) :
    ReturnsInHanded {} Tryd.checked os 4 .any ((OpenSpec.ofChange Rows.moneyNearestSpec).preRow enc Tryd.prog Tryd.f4 Rows.moneyNearestRow.domain false Rows.moneyNearestRow.laid) (((OpenSpec.ofChange Rows.moneyNearestSpec).at F).post enc Tryd.prog Tryd.f4 false true false false) := by
  obtain ⟨places, hx⟩ := reads os enc
  refine returnsInHanded_of_row (C := Tryd.checked) (s := OpenSpec.ofChange Rows.moneyNearestSpec) own started (by kernel_rfl) Tryd.func4
    ⟨lawWorld os, fun _ _ => 0, ⟨#[], #[.int .i64 0, .int .i64 0, .int .u8 0], []⟩, World.laidAll_os _ _ _, World.shaped_of_ZipB (by kernel_rfl) (by kernel_rfl), (Input.okWide_of_okWideB (base := 0) (fits os)).1, (Input.okWide_of_okWideB (fits os)).2,
      OpenSpec.preRow_of_cond 8 hx (by kernel_rfl) (fun k hk => by cases hk) (by kernel_rfl) (laid_met os), by
        simp only [Assume.holds]
        exact ⟨by simp, by simp, fun _ => Modest.zero, by simp, by simp⟩⟩ ?_
  intro W base args ds gs before hval hW _ _ _ hL _ _
  exact contract H enc W base args ds gs before hval hW hL

theorem said : Rows.MoneyNearestSaid :=
  OpenClaim.holds_of_cond 4 Tryd.f4 rfl rfl rfl rfl rfl rfl rfl ⟨rfl, rfl, rfl, rfl, rfl⟩ rfl rfl rfl rfl rfl (by kernel_rfl) Tryd.func4 (by kernel_rfl)
    (of_decide_eq_true (by kernel_rfl)) (by unfold Func.isWrapper; first | (rw [if_pos (by decide +kernel)]; kernel_rfl) | (rw [if_neg (by decide +kernel)]; exact ⟨rfl, rfl⟩))
    (fun os started H enc _ F => by rw [OpenClaim.pre_eq_preRow]; exact lifted os started H enc F)

theorem plain (f : FuncId) (fn : Func) (hf : Tryd.pinned.checked.prog.funcNamed "chargenet/chargenetlaw03.MoneyNearest" = some f) (hfn : Tryd.pinned.checked.prog.funcs[f]? = some fn) :
    true = Tryd.pinned.checked.prog.looks [] ∧ ∀ (j : Nat) t, fn.params[j]? = some t → Tryd.pinned.checked.prog.wantsStandIn t = false := by
  obtain rfl : f = 4 := Option.some.inj ((show Tryd.prog.funcNamed "chargenet/chargenetlaw03.MoneyNearest" = some 4 by kernel_rfl).symm.trans hf) |>.symm
  obtain rfl : fn = Tryd.f4 := (Option.some.inj (Tryd.func4.symm.trans hfn)).symm
  refine ⟨by kernel_rfl, fun j t ht => ?_⟩
  rw [Tryd.params4] at ht
  have hm : t ∈ [3, 3, 5] := by simpa using Array.mem_of_getElem? ht
  have hall : ([3, 3, 5].all fun u => !Tryd.prog.wantsStandIn u) = true := by kernel_rfl
  exact (show Tryd.prog.wantsStandIn t = false by simpa using List.all_eq_true.1 hall t hm)
end moneyNearest

theorem moneyNearest_holds : Rows.MoneyNearestCardSaid :=
  Claim7.holds_tied_plain_at .later [] _ _ _ _ moneyNearest.said (fun _ h => by cases h) (by kernel_rfl) (fun _ h => by cases h) moneyNearest_row_tie rfl ⟨rfl, rfl⟩ (by kernel_rfl) rfl moneyNearest.plain (by kernel_rfl)
#print axioms moneyNearest_holds
end Go.Proofs.YtjjhdbodjcffaaaDoor
