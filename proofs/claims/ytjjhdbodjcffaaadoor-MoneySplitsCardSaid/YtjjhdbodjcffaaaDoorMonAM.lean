/-
  The errors of Split, and of the reference's.
-/
import Derived.Test.YtjjhdbodjcffaaaDoorMonAL
namespace Go.Proofs.YtjjhdbodjcffaaaDoor
open Go.RowKit
open IntWalk
set_option linter.unusedVariables false

theorem sum_in : ∀ l : List Int, (∀ x ∈ l, 0 ≤ x ∧ x ≤ 1099511627776) → 0 ≤ l.sum ∧ l.sum ≤ 1099511627776 * (l.length : Int)
  | [], _ => by simp
  | a :: l, h => by
    have := sum_in l (fun x hx => h x (List.mem_cons_of_mem _ hx))
    have := h a (List.mem_cons_self ..)
    rw [List.sum_cons, List.length_cons]; omega
theorem pre_in (l : List Int) (k : Nat) (hk : k ≤ l.length) (h : ∀ x ∈ l.take k, 0 ≤ x ∧ x ≤ 1099511627776) : 0 ≤ pre l k ∧ pre l k ≤ 1099511627776 * (k : Int) := by
  have := sum_in _ h
  rw [List.length_take, Nat.min_eq_left hk] at this
  exact this
theorem take_ok {l : List Int} {k : Nat} (hk : k < l.length) (h : ∀ x ∈ l.take k, 0 ≤ x ∧ x ≤ 1099511627776) {x : Int} (e : l[k] = x) (x0 : 0 ≤ x) (x1 : x ≤ 1099511627776) : ∀ y ∈ l.take (k + 1), 0 ≤ y ∧ y ≤ 1099511627776 := by
  intro y hy
  rw [List.take_succ_eq_append_getElem hk] at hy
  rcases List.mem_append.1 hy with h' | h'
  · exact h y h'
  · have : y = l[k] := by simpa using h'
    omega

theorem split_lim (a : Int) (l : List Int) (p : Option Addr) (c : Nat) (w : World) (h : 512 < l.length) :
    Calls Tryd.prog 18 #[.int .i64 a, .slice p l.length c] w fun e w' => e = .returned (.tuple #[.slice none 0 0, .int .i64 3]) ∧ w' = w := by
  go_enter Tryd.func18, Tryd.ntmps18
  go_wp2_with fail
  go_ret2
  exact ⟨rfl, rfl⟩
theorem split_rng (a : Int) (l : List Int) (p : Option Addr) (c : Nat) (w : World) (h : ¬ 512 < l.length) (ha : a < -1099511627776 ∨ 1099511627776 < a) :
    Calls Tryd.prog 18 #[.int .i64 a, .slice p l.length c] w fun e w' => e = .returned (.tuple #[.slice none 0 0, .int .i64 2]) ∧ w' = w := by
  by_cases h1 : a < -1099511627776
  · clear ha
    go_enter Tryd.func18, Tryd.ntmps18
    go_wp2_with fail
    go_ret2
    exact ⟨rfl, rfl⟩
  · have h2 : 1099511627776 < a := by omega
    clear ha
    go_enter Tryd.func18, Tryd.ntmps18
    go_wp2_with fail
    go_ret2
    exact ⟨rfl, rfl⟩
set_option maxHeartbeats 2000000 in
set_option maxRecDepth 100000 in
theorem split_bad (a : Int) (l : List Int) (p : Option Addr) (c : Nat) (w : World) (h : ¬ 512 < l.length) (a0 : -1099511627776 ≤ a) (a1 : a ≤ 1099511627776) (hcm : c ≤ maxLen)
    (hc : l ≠ [] → ∃ b o, p = some ⟨b, o, none⟩ ∧ At1 w b o l) (hb : ¬ ∀ x ∈ l, 0 ≤ x ∧ x ≤ 1099511627776) :
    Calls Tryd.prog 18 #[.int .i64 a, .slice p l.length c] w fun e w' => e = .returned (.tuple #[.slice none 0 0, .int .i64 2]) ∧ w' = w := by
  have HC := Lib.hid hc
  have HB := Lib.hid hb
  clear hc hb
  go_enter Tryd.func18, Tryd.ntmps18
  go_wp2_with fail
  go_loop [6, 22] (fun s i => ∃ k : Nat, k ≤ l.length ∧ i = .int .i64 k ∧ s = .int .i64 (pre l k) ∧ Hid (∀ x ∈ l.take k, 0 ≤ x ∧ x ≤ 1099511627776)) (fun _ i => l.length - (intOf i).toNat)
  case atStart => exact ⟨0, Nat.zero_le _, rfl, rfl, Lib.hid (fun x hx => by simp at hx)⟩
  case round =>
    obtain ⟨k, hk, rfl, rfl, HW⟩ := hrel
    by_cases hlt : k < l.length
    · obtain ⟨b, o, hp, ha⟩ := HC.out (fun e => by rw [e] at hlt; exact absurd hlt (by simp))
      have hcw := ha.2 k hlt
      obtain rfl : some ⟨b, o, none⟩ = p := hp.symm
      have HX := Lib.hid (fun x (e : l[k] = x) x0 x1 => take_ok hlt HW.out e x0 x1)
      obtain ⟨p0, p1⟩ := pre_in l k hk HW.out
      have HS := Lib.hid (pre_succ l k hlt)
      obtain ⟨x, hx⟩ : ∃ x, l[k] = x := ⟨_, rfl⟩
      have HE := Lib.hid hx
      rw [hx] at hcw HS
      obtain ⟨S, hS⟩ : ∃ S, pre l k = S := ⟨_, rfl⟩
      rw [hS] at p0 p1 HS ⊢
      clear hx hp ha HW hS
      by_cases x0 : x < 0
      · go_wp2_with fail
        go_ret2
        exact ⟨rfl, rfl⟩
      by_cases x1 : 1099511627776 < x
      · go_wp2_with fail
        go_ret2
        exact ⟨rfl, rfl⟩
      go_wp2_with fail
      go_round
      case rel => exact ⟨k + 1, by omega, by go_num, by rw [HS.out], Lib.hid (HX.out x HE.out (by omega) (by omega))⟩
      case measure => simp [intOf]; omega
    · obtain rfl : k = l.length := by omega
      rw [List.take_length] at HW
      exact absurd HW.out HB.out
set_option maxHeartbeats 2000000 in
set_option maxRecDepth 100000 in
theorem split_zero (a : Int) (l : List Int) (p : Option Addr) (c : Nat) (w : World) (h : ¬ 512 < l.length) (a0 : -1099511627776 ≤ a) (a1 : a ≤ 1099511627776) (hcm : c ≤ maxLen)
    (hc : l ≠ [] → ∃ b o, p = some ⟨b, o, none⟩ ∧ At1 w b o l) (hb : ∀ x ∈ l, 0 ≤ x ∧ x ≤ 1099511627776) (hz : l.sum = 0) :
    Calls Tryd.prog 18 #[.int .i64 a, .slice p l.length c] w fun e w' => e = .returned (.tuple #[.slice none 0 0, .int .i64 1]) ∧ w' = w := by
  have HC := Lib.hid hc
  have HB := Lib.hid hb
  have HZ := Lib.hid hz
  clear hc hb hz
  go_enter Tryd.func18, Tryd.ntmps18
  go_wp2_with fail
  go_loop [6, 22] (fun s i => ∃ k : Nat, k ≤ l.length ∧ i = .int .i64 k ∧ s = .int .i64 (pre l k)) (fun _ i => l.length - (intOf i).toNat)
  case atStart => exact ⟨0, Nat.zero_le _, rfl, rfl⟩
  case round =>
    obtain ⟨k, hk, rfl, rfl⟩ := hrel
    by_cases hlt : k < l.length
    · obtain ⟨b, o, hp, ha⟩ := HC.out (fun e => by rw [e] at hlt; exact absurd hlt (by simp))
      have hcw := ha.2 k hlt
      obtain rfl : some ⟨b, o, none⟩ = p := hp.symm
      obtain ⟨p0, p1⟩ := pre_in l k hk (fun x hx => HB.out x (List.mem_of_mem_take hx))
      have HS := Lib.hid (pre_succ l k hlt)
      obtain ⟨x0, x1⟩ := HB.out _ (List.getElem_mem hlt)
      obtain ⟨x, hx⟩ : ∃ x, l[k] = x := ⟨_, rfl⟩
      rw [hx] at hcw HS x0 x1
      obtain ⟨S, hS⟩ : ∃ S, pre l k = S := ⟨_, rfl⟩
      rw [hS] at p0 p1 HS ⊢
      clear hx hp ha hS
      go_wp2_with fail
      go_round
      case rel => exact ⟨k + 1, by omega, by go_num, by rw [HS.out]⟩
      case measure => simp [intOf]; omega
    · obtain rfl : k = l.length := by omega
      rw [pre_all, HZ.out]
      go_wp2_with fail
      go_ret2
      exact ⟨rfl, rfl⟩

theorem rsplit_lim (a : Int) (l : List Int) (p : Option Addr) (c : Nat) (w : World) (h : 512 < l.length) :
    Calls Tryd.prog 19 #[.int .i64 a, .slice p l.length c] w fun e w' => e = .returned (.tuple #[.slice none 0 0, .int .i64 3]) ∧ w' = w := by
  go_enter Tryd.func19, Tryd.ntmps19
  go_wp2_with fail
  go_ret2
  exact ⟨rfl, rfl⟩
theorem rsplit_rng (a : Int) (l : List Int) (p : Option Addr) (c : Nat) (w : World) (h : ¬ 512 < l.length) (ha : a < -1099511627776 ∨ 1099511627776 < a) :
    Calls Tryd.prog 19 #[.int .i64 a, .slice p l.length c] w fun e w' => e = .returned (.tuple #[.slice none 0 0, .int .i64 2]) ∧ w' = w := by
  by_cases h1 : a < -1099511627776
  · clear ha
    go_enter Tryd.func19, Tryd.ntmps19
    go_wp2_with fail
    go_ret2
    exact ⟨rfl, rfl⟩
  · have h2 : 1099511627776 < a := by omega
    clear ha
    go_enter Tryd.func19, Tryd.ntmps19
    go_wp2_with fail
    go_ret2
    exact ⟨rfl, rfl⟩
set_option maxHeartbeats 2000000 in
set_option maxRecDepth 100000 in
theorem rsplit_bad (a : Int) (l : List Int) (p : Option Addr) (c : Nat) (w : World) (h : ¬ 512 < l.length) (a0 : -1099511627776 ≤ a) (a1 : a ≤ 1099511627776) (hcm : c ≤ maxLen)
    (hc : l ≠ [] → ∃ b o, p = some ⟨b, o, none⟩ ∧ At1 w b o l) (hb : ¬ ∀ x ∈ l, 0 ≤ x ∧ x ≤ 1099511627776) :
    Calls Tryd.prog 19 #[.int .i64 a, .slice p l.length c] w fun e w' => e = .returned (.tuple #[.slice none 0 0, .int .i64 2]) ∧ w' = w := by
  have HC := Lib.hid hc
  have HB := Lib.hid hb
  clear hc hb
  go_enter Tryd.func19, Tryd.ntmps19
  go_wp2_with fail
  go_loop [6, 7] (fun s i => ∃ k : Nat, k ≤ l.length ∧ i = .int .i64 k ∧ s = .int .u64 (pre l k) ∧ Hid (∀ x ∈ l.take k, 0 ≤ x ∧ x ≤ 1099511627776)) (fun _ i => l.length - (intOf i).toNat)
  case atStart => exact ⟨0, Nat.zero_le _, rfl, rfl, Lib.hid (fun x hx => by simp at hx)⟩
  case round =>
    obtain ⟨k, hk, rfl, rfl, HW⟩ := hrel
    by_cases hlt : k < l.length
    · obtain ⟨b, o, hp, ha⟩ := HC.out (fun e => by rw [e] at hlt; exact absurd hlt (by simp))
      have hcw := ha.2 k hlt
      obtain rfl : some ⟨b, o, none⟩ = p := hp.symm
      have HX := Lib.hid (fun x (e : l[k] = x) x0 x1 => take_ok hlt HW.out e x0 x1)
      obtain ⟨p0, p1⟩ := pre_in l k hk HW.out
      have HS := Lib.hid (pre_succ l k hlt)
      obtain ⟨x, hx⟩ : ∃ x, l[k] = x := ⟨_, rfl⟩
      have HE := Lib.hid hx
      rw [hx] at hcw HS
      obtain ⟨S, hS⟩ : ∃ S, pre l k = S := ⟨_, rfl⟩
      rw [hS] at p0 p1 HS ⊢
      clear hx hp ha HW hS
      by_cases x0 : x < 0
      · go_wp2_with fail
        go_ret2
        exact ⟨rfl, rfl⟩
      by_cases x1 : 1099511627776 < x
      · go_wp2_with fail
        go_ret2
        exact ⟨rfl, rfl⟩
      go_wp2_with fail
      go_round
      case rel => exact ⟨k + 1, by omega, by go_num, by rw [HS.out], Lib.hid (HX.out x HE.out (by omega) (by omega))⟩
      case measure => simp [intOf]; omega
    · obtain rfl : k = l.length := by omega
      rw [List.take_length] at HW
      exact absurd HW.out HB.out
set_option maxHeartbeats 2000000 in
set_option maxRecDepth 100000 in
theorem rsplit_zero (a : Int) (l : List Int) (p : Option Addr) (c : Nat) (w : World) (h : ¬ 512 < l.length) (a0 : -1099511627776 ≤ a) (a1 : a ≤ 1099511627776) (hcm : c ≤ maxLen)
    (hc : l ≠ [] → ∃ b o, p = some ⟨b, o, none⟩ ∧ At1 w b o l) (hb : ∀ x ∈ l, 0 ≤ x ∧ x ≤ 1099511627776) (hz : l.sum = 0) :
    Calls Tryd.prog 19 #[.int .i64 a, .slice p l.length c] w fun e w' => e = .returned (.tuple #[.slice none 0 0, .int .i64 1]) ∧ w' = w := by
  have HC := Lib.hid hc
  have HB := Lib.hid hb
  have HZ := Lib.hid hz
  clear hc hb hz
  go_enter Tryd.func19, Tryd.ntmps19
  go_wp2_with fail
  go_loop [6, 7] (fun s i => ∃ k : Nat, k ≤ l.length ∧ i = .int .i64 k ∧ s = .int .u64 (pre l k)) (fun _ i => l.length - (intOf i).toNat)
  case atStart => exact ⟨0, Nat.zero_le _, rfl, rfl⟩
  case round =>
    obtain ⟨k, hk, rfl, rfl⟩ := hrel
    by_cases hlt : k < l.length
    · obtain ⟨b, o, hp, ha⟩ := HC.out (fun e => by rw [e] at hlt; exact absurd hlt (by simp))
      have hcw := ha.2 k hlt
      obtain rfl : some ⟨b, o, none⟩ = p := hp.symm
      obtain ⟨p0, p1⟩ := pre_in l k hk (fun x hx => HB.out x (List.mem_of_mem_take hx))
      have HS := Lib.hid (pre_succ l k hlt)
      obtain ⟨x0, x1⟩ := HB.out _ (List.getElem_mem hlt)
      obtain ⟨x, hx⟩ : ∃ x, l[k] = x := ⟨_, rfl⟩
      rw [hx] at hcw HS x0 x1
      obtain ⟨S, hS⟩ : ∃ S, pre l k = S := ⟨_, rfl⟩
      rw [hS] at p0 p1 HS ⊢
      clear hx hp ha hS
      go_wp2_with fail
      go_round
      case rel => exact ⟨k + 1, by omega, by go_num, by rw [HS.out]⟩
      case measure => simp [intOf]; omega
    · obtain rfl : k = l.length := by omega
      rw [pre_all, HZ.out]
      go_wp2_with fail
      go_ret2
      exact ⟨rfl, rfl⟩
end Go.Proofs.YtjjhdbodjcffaaaDoor
