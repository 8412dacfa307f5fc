/-
  What the small functions of money and of its reference return: absolute values, signs, when a quotient is rounded up, products and quotients of two words.
-/
import Derived.Test.YtjjhdbodjcffaaaDoorMonB
namespace Go.Proofs.YtjjhdbodjcffaaaDoor
open Go.RowKit
open IntWalk

/-- The absolute value. -/
def ab (n : Int) : Int := if n < 0 then -n else n
/-- Is a quotient q with the remainder r rounded away from zero? -/
def upI (q r d m : Int) : Bool := if m = 1 then decide (d ≤ 2 * r) else if m = 2 then decide (d < 2 * r) || (decide (d = 2 * r) && decide (q % 2 = 1)) else if m = 4 then decide (0 < r) else false
def finV (neg : Bool) (Q : Int) : Int := if neg = true then (if Q ≤ 9223372036854775808 then -Q else 0) else (if Q ≤ 9223372036854775807 then Q else 0)
def finE (neg : Bool) (Q : Int) : Int := if neg = true then (if Q ≤ 9223372036854775808 then 0 else 20) else (if Q ≤ 9223372036854775807 then 0 else 20)
/-- An integer and an error that are handed back. -/
def ie (a b : Int) : Ending := .returned (.tuple #[.int .i64 a, .int .i64 b])
theorem ie_is {a b c d : Int} (h : a = c) (h2 : b = d) : Ending.returned (.tuple #[.int .i64 a, .int .i64 b]) = ie c d := by rw [h, h2]; rfl
theorem one_is {k : IntKind} {a b : Int} (h : a = b) : Ending.returned (.int k a) = .returned (.int k b) := by rw [h]
theorem eq_t (a x : Int) (h : a = x) : (a == x) = true := by simp [h]
theorem eq_f (a x : Int) (h : a ≠ x) : (a == x) = false := by simp [h]
theorem ib_is {a : Int} {b c : Bool} (h : b = c) : Ending.returned (.tuple #[.int .i64 a, .bool b]) = .returned (.tuple #[.int .i64 a, .bool c]) := by rw [h]
theorem bool_is {a b : Bool} (h : a = b) : Ending.returned (.bool a) = .returned (.bool b) := by rw [h]

set_option maxHeartbeats 1000000 in
theorem mag_run (n : Int) (w : World) (h0 : -9223372036854775808 ≤ n) (h1 : n ≤ 9223372036854775807) :
    Calls Tryd.prog 26 #[.int .i64 n] w fun e w' => e = .returned (.int .u64 (ab n)) ∧ w = w' := by
  by_cases h : n < 0
  · go_enter Tryd.func26, Tryd.ntmps26
    go_wp2
    go_ret
    exact ⟨one_is (by unfold ab; rw [if_pos h]; simp only [IntKind.wrap_u64]; omega), rfl⟩
  · go_enter Tryd.func26, Tryd.ntmps26
    go_wp2
    go_ret
    exact ⟨one_is (by unfold ab; rw [if_neg (by omega)]), rfl⟩
set_option maxHeartbeats 1000000 in
theorem rmag_run (n : Int) (w : World) (h0 : -9223372036854775808 ≤ n) (h1 : n ≤ 9223372036854775807) :
    Calls Tryd.prog 31 #[.int .i64 n] w fun e w' => e = .returned (.int .u64 (ab n)) ∧ w = w' := by
  by_cases h : n < 0
  · go_enter Tryd.func31, Tryd.ntmps31
    go_wp2
    go_ret
    exact ⟨one_is (by unfold ab; rw [if_pos h]; simp only [IntKind.wrap_u64]; omega), rfl⟩
  · go_enter Tryd.func31, Tryd.ntmps31
    go_wp2
    go_ret
    exact ⟨one_is (by unfold ab; rw [if_neg (by omega)]), rfl⟩

set_option maxHeartbeats 1000000 in
theorem signed_run (neg : Bool) (Q : Int) (w : World) (h0 : 0 ≤ Q) (h1 : Q ≤ 18446744073709551615) :
    Calls Tryd.prog 29 #[.int .u64 Q, .bool neg] w fun e w' => e = ie (finV neg Q) (finE neg Q) ∧ w = w' := by
  cases neg
  · by_cases h : Q ≤ 9223372036854775807
    · go_enter Tryd.func29, Tryd.ntmps29
      go_wp2
      go_ret2
      exact ⟨ie_is (by simp [finV, h]) (by simp [finE, h]), rfl⟩
    · go_enter Tryd.func29, Tryd.ntmps29
      go_wp2
      go_ret2
      exact ⟨ie_is (by simp [finV]; omega) (by simp [finE]; omega), rfl⟩
  · by_cases h : Q ≤ 9223372036854775808
    · go_enter Tryd.func29, Tryd.ntmps29
      go_wp2
      go_ret2
      exact ⟨ie_is (by simp only [finV, if_pos h, IntKind.wrap_u64, wrap64, if_true]; omega) (by simp [finE, h]), rfl⟩
    · go_enter Tryd.func29, Tryd.ntmps29
      go_wp2
      go_ret2
      exact ⟨ie_is (by simp [finV]; omega) (by simp [finE]; omega), rfl⟩

/-- Does a number of two words with a sign fit? -/
def fitsI (neg : Bool) (hi lo : Int) : Bool := if neg = true then decide (hi = 0) && decide (lo ≤ 9223372036854775808) else decide (hi = 0) && decide (lo < 9223372036854775808)
set_option maxHeartbeats 1000000 in
theorem rsigned_run (neg : Bool) (hi lo : Int) (w : World) (h0 : 0 ≤ lo) (h1 : lo ≤ 18446744073709551615) :
    Calls Tryd.prog 34 #[.bool neg, .int .u64 hi, .int .u64 lo] w fun e w' => (∃ V, e = .returned (.tuple #[.int .i64 V, .bool (fitsI neg hi lo)]) ∧ (fitsI neg hi lo = true → V = if neg = true then -lo else lo)) ∧ w = w' := by
  cases neg
  · by_cases hz : hi = 0
    · subst hz
      go_enter Tryd.func34, Tryd.ntmps34
      go_wp2
      go_ret2
      exact ⟨⟨_, ib_is (by simp [fitsI]), fun h => by simp [fitsI] at h; exact wrap64_in _ (by omega)⟩, rfl⟩
    · have z : (hi == 0) = false := by rw [beq_eq_false_iff_ne]; exact hz
      go_enter Tryd.func34, Tryd.ntmps34
      go_wp2
      go_ret2
      exact ⟨⟨_, ib_is (by simp [fitsI, hz]), fun h => by simp [fitsI, hz] at h⟩, rfl⟩
  · by_cases hz : hi = 0
    · subst hz
      go_enter Tryd.func34, Tryd.ntmps34
      go_wp2
      go_ret2
      exact ⟨⟨_, ib_is (by simp [fitsI]), fun h => by simp [fitsI] at h; simp only [wrap64, IntKind.wrap_u64]; simp; omega⟩, rfl⟩
    · have z : (hi == 0) = false := by rw [beq_eq_false_iff_ne]; exact hz
      go_enter Tryd.func34, Tryd.ntmps34
      go_wp2
      go_ret2
      exact ⟨⟨_, ib_is (by simp [fitsI, hz]), fun h => by simp [fitsI, hz] at h⟩, rfl⟩

set_option maxHeartbeats 1000000 in
theorem away_run (q r d m : Int) (w : World) (h0 : 0 ≤ q) (h1 : q ≤ 18446744073709551615) (r0 : 0 ≤ r) (r1 : r < d) (hd : d ≤ 9223372036854775807) (m0 : 1 ≤ m) (m1 : m ≤ 4) :
    Calls Tryd.prog 28 #[.int .u64 q, .int .u64 r, .int .u64 d, .int .i64 m] w fun e w' => e = .returned (.bool (upI q r d m)) ∧ w = w' := by
  obtain rfl | rfl | rfl | rfl : m = 1 ∨ m = 2 ∨ m = 3 ∨ m = 4 := by omega
  · go_enter Tryd.func28, Tryd.ntmps28
    go_wp2
    go_ret
    exact ⟨bool_is (by simp [upI]; omega), rfl⟩
  · by_cases h : r = d - r
    · have z := eq_t r (d - r) h
      have h' : 2 * r = d := by omega
      clear h
      go_enter Tryd.func28, Tryd.ntmps28
      go_wp2
      go_ret
      exact ⟨bool_is (by simp [upI, show d = 2 * r by omega]; rfl), rfl⟩
    · have z := eq_f r (d - r) h
      go_enter Tryd.func28, Tryd.ntmps28
      go_wp2
      go_ret
      exact ⟨bool_is (by simp [upI, show ¬ d = 2 * r by omega]; omega), rfl⟩
  · go_enter Tryd.func28, Tryd.ntmps28
    go_wp2
    go_ret
    exact ⟨bool_is (by simp [upI]), rfl⟩
  · go_enter Tryd.func28, Tryd.ntmps28
    go_wp2
    go_ret
    exact ⟨bool_is (by simp [upI]), rfl⟩

set_option maxHeartbeats 1000000 in
theorem up_run (odd : Bool) (q r d m : Int) (ho : odd = decide (q % 2 = 1)) (w : World) (r0 : 0 ≤ r) (r1 : r < d) (hd : d ≤ 9223372036854775807) (m0 : 1 ≤ m) (m1 : m ≤ 4) :
    Calls Tryd.prog 33 #[.bool odd, .int .u64 r, .int .u64 d, .int .i64 m] w fun e w' => e = .returned (.bool (upI q r d m)) ∧ w = w' := by
  have HO := Lib.hid ho
  clear ho
  obtain rfl | rfl | rfl | rfl : m = 1 ∨ m = 2 ∨ m = 3 ∨ m = 4 := by omega
  · go_enter Tryd.func33, Tryd.ntmps33
    go_wp2
    go_ret
    exact ⟨bool_is (by simp [upI]; omega), rfl⟩
  · by_cases h2 : d - r < r
    · go_enter Tryd.func33, Tryd.ntmps33
      go_wp2
      go_ret
      exact ⟨bool_is (by simp [upI, show d < 2 * r by omega]), rfl⟩
    · by_cases h : r = d - r
      · have z := eq_t r (d - r) h
        have h' : 2 * r = d := by omega
        clear h
        go_enter Tryd.func33, Tryd.ntmps33
        go_wp2
        go_ret
        exact ⟨bool_is (by rw [HO.out]; simp [upI, show d = 2 * r by omega]), rfl⟩
      · have z := eq_f r (d - r) h
        go_enter Tryd.func33, Tryd.ntmps33
        go_wp2
        go_ret
        exact ⟨bool_is (by simp [upI, show ¬ d = 2 * r by omega]; omega), rfl⟩
  · go_enter Tryd.func33, Tryd.ntmps33
    go_wp2
    go_ret
    exact ⟨bool_is (by simp [upI]), rfl⟩
  · go_enter Tryd.func33, Tryd.ntmps33
    go_wp2
    go_ret
    exact ⟨bool_is (by simp [upI]), rfl⟩
end Go.Proofs.YtjjhdbodjcffaaaDoor
