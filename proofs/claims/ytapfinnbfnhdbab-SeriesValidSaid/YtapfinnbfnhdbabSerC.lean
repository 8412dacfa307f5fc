/-
  What the reference's next returns.
-/
import Derived.Test.YtapfinnbfnhdbabSerT
import Derived.Test.YtapfinnbfnhdbabSerB
namespace Go.Proofs.Ytapfinnbfnhdbab
open Go.RowKit
open Ser
set_option linter.unusedVariables false

theorem nx_yes {t b x : Int} (h1 : t < x) (h2 : b < 0 ∨ x < b) (s : St) (h : s.1 = x) : nx t b s = x := by unfold nx; rw [h, if_pos ⟨h1, h2⟩]
theorem nx_no {t b x : Int} (h : ¬ (t < x ∧ (b < 0 ∨ x < b))) (s : St) (e : s.1 = x) : nx t b s = b := by unfold nx; rw [e, if_neg h]

set_option maxHeartbeats 8000000 in
set_option maxRecDepth 1000000 in
theorem next_nn (p1 : Option Addr) (c1 : Nat) (p2 : Option Addr) (c2 : Nat) (la lb : List St) (t : Int) (w : World) (hla : la.length ≤ 2000000) (hlb : lb.length ≤ 2000000) (hA : la = []) (hB : lb = []) :
    Calls Try.prog 45 #[.slice p1 la.length c1, .slice p2 lb.length c2, .int .i64 t] w fun e w' => e = .returned (.int .i64 (nextF t (la ++ lb))) ∧ w = w' := by
  have HA := Lib.hid hA
  have HB := Lib.hid hB
  clear hA hB
  go_enter Try.func45, Try.ntmps45
  go_wp2
  go_loop [7, 8] (fun v i => ∃ k : Nat, k ≤ la.length + lb.length ∧ i = .int .i64 k ∧ v = .int .i64 (nextF t ((la ++ lb).take k))) (fun _ i => la.length + lb.length - (intOf i).toNat)
  case atStart => exact ⟨0, Nat.zero_le _, rfl, rfl⟩
  case round =>
    obtain ⟨k, hk, rfl, rfl⟩ := hrel
    by_cases hlt : k < la.length + lb.length
    · have hk2 : k < (la ++ lb).length := by rw [List.length_append]; omega
      have hs := nextF_snoc t ((la ++ lb).take k) (la ++ lb)[k]
      rw [← take_snoc _ k hk2] at hs
      obtain ⟨bs, eb⟩ : ∃ x, x = nextF t ((la ++ lb).take k) := ⟨_, rfl⟩
      rw [← eb] at hs ⊢
      clear eb
      by_cases hka : k < la.length
      · have := HA.out; rw [this] at hka; exact absurd hka (by simp)
      · have hkb : k - la.length < lb.length := by omega
        have := HB.out; rw [this] at hkb; exact absurd hkb (by simp)
    · go_wp2
      go_ret
      exact ⟨ret_int (by rw [List.take_of_length_le (by rw [List.length_append]; omega)]), rfl⟩

set_option maxHeartbeats 8000000 in
set_option maxRecDepth 1000000 in
theorem next_ns (p1 : Option Addr) (c1 : Nat) (b2 o2 c2 : Nat) (la lb : List St) (t : Int) (w : World) (hla : la.length ≤ 2000000) (hlb : lb.length ≤ 2000000) (hA : la = []) (hB : At w b2 o2 lb) :
    Calls Try.prog 45 #[.slice p1 la.length c1, .slice (some ⟨b2, o2, none⟩) lb.length c2, .int .i64 t] w fun e w' => e = .returned (.int .i64 (nextF t (la ++ lb))) ∧ w = w' := by
  have HA := Lib.hid hA
  have HB := Lib.hid hB
  clear hA hB
  go_enter Try.func45, Try.ntmps45
  go_wp2
  go_loop [7, 8] (fun v i => ∃ k : Nat, k ≤ la.length + lb.length ∧ i = .int .i64 k ∧ v = .int .i64 (nextF t ((la ++ lb).take k))) (fun _ i => la.length + lb.length - (intOf i).toNat)
  case atStart => exact ⟨0, Nat.zero_le _, rfl, rfl⟩
  case round =>
    obtain ⟨k, hk, rfl, rfl⟩ := hrel
    by_cases hlt : k < la.length + lb.length
    · have hk2 : k < (la ++ lb).length := by rw [List.length_append]; omega
      have hs := nextF_snoc t ((la ++ lb).take k) (la ++ lb)[k]
      rw [← take_snoc _ k hk2] at hs
      obtain ⟨bs, eb⟩ : ∃ x, x = nextF t ((la ++ lb).take k) := ⟨_, rfl⟩
      rw [← eb] at hs ⊢
      clear eb
      by_cases hka : k < la.length
      · have := HA.out; rw [this] at hka; exact absurd hka (by simp)
      · have hkb : k - la.length < lb.length := by omega
        obtain ⟨h1, _⟩ := HB.out.2 (k - la.length) hkb
        rw [List.getElem_append_right (by omega)] at hs
        obtain ⟨x, ex⟩ : ∃ x, lb[k - la.length].1 = x := ⟨_, rfl⟩
        rw [ex] at h1
        have EX := Lib.hid ex
        have HS := Lib.hid hs
        obtain ⟨j, ej⟩ : ∃ j, j = k - la.length := ⟨_, rfl⟩
        rw [← ej] at h1
        have hw1 : IntKind.i64.wrap ((k : Int) - (la.length : Int)) = (j : Int) := by rw [IntKind.wrap_i64]; omega
        have hw2 : (k : Int) - (la.length : Int) = (j : Int) := by omega
        have hj : j < lb.length := by omega
        clear ex hs ej
        by_cases c1 : t < x
        · by_cases c2 : bs < 0
          · have HN := Lib.hid (nx_yes (b := bs) c1 (.inl c2) lb[k - la.length] EX.out)
            go_wp2
            go_round
            case rel => exact ⟨k + 1, by omega, by go_num, by rw [HS.out, HN.out]⟩
            case measure => simp [intOf]; omega
          · by_cases c3 : x < bs
            · have HN := Lib.hid (nx_yes c1 (.inr c3) lb[k - la.length] EX.out)
              go_wp2
              go_round
              case rel => exact ⟨k + 1, by omega, by go_num, by rw [HS.out, HN.out]⟩
              case measure => simp [intOf]; omega
            · have HN := Lib.hid (nx_no (t := t) (b := bs) (by omega) lb[k - la.length] EX.out)
              go_wp2
              go_round
              case rel => exact ⟨k + 1, by omega, by go_num, by rw [HS.out, HN.out]⟩
              case measure => simp [intOf]; omega
        · have HN := Lib.hid (nx_no (t := t) (b := bs) (by omega) lb[k - la.length] EX.out)
          go_wp2
          go_round
          case rel => exact ⟨k + 1, by omega, by go_num, by rw [HS.out, HN.out]⟩
          case measure => simp [intOf]; omega
    · go_wp2
      go_ret
      exact ⟨ret_int (by rw [List.take_of_length_le (by rw [List.length_append]; omega)]), rfl⟩

set_option maxHeartbeats 8000000 in
set_option maxRecDepth 1000000 in
theorem next_sn (b1 o1 c1 : Nat) (p2 : Option Addr) (c2 : Nat) (la lb : List St) (t : Int) (w : World) (hla : la.length ≤ 2000000) (hlb : lb.length ≤ 2000000) (hA : At w b1 o1 la) (hB : lb = []) :
    Calls Try.prog 45 #[.slice (some ⟨b1, o1, none⟩) la.length c1, .slice p2 lb.length c2, .int .i64 t] w fun e w' => e = .returned (.int .i64 (nextF t (la ++ lb))) ∧ w = w' := by
  have HA := Lib.hid hA
  have HB := Lib.hid hB
  clear hA hB
  go_enter Try.func45, Try.ntmps45
  go_wp2
  go_loop [7, 8] (fun v i => ∃ k : Nat, k ≤ la.length + lb.length ∧ i = .int .i64 k ∧ v = .int .i64 (nextF t ((la ++ lb).take k))) (fun _ i => la.length + lb.length - (intOf i).toNat)
  case atStart => exact ⟨0, Nat.zero_le _, rfl, rfl⟩
  case round =>
    obtain ⟨k, hk, rfl, rfl⟩ := hrel
    by_cases hlt : k < la.length + lb.length
    · have hk2 : k < (la ++ lb).length := by rw [List.length_append]; omega
      have hs := nextF_snoc t ((la ++ lb).take k) (la ++ lb)[k]
      rw [← take_snoc _ k hk2] at hs
      obtain ⟨bs, eb⟩ : ∃ x, x = nextF t ((la ++ lb).take k) := ⟨_, rfl⟩
      rw [← eb] at hs ⊢
      clear eb
      by_cases hka : k < la.length
      · obtain ⟨h1, _⟩ := HA.out.2 k hka
        rw [List.getElem_append_left hka] at hs
        obtain ⟨x, ex⟩ : ∃ x, la[k].1 = x := ⟨_, rfl⟩
        rw [ex] at h1
        have EX := Lib.hid ex
        have HS := Lib.hid hs
        clear ex hs
        by_cases c1 : t < x
        · by_cases c2 : bs < 0
          · have HN := Lib.hid (nx_yes (b := bs) c1 (.inl c2) la[k] EX.out)
            go_wp2
            go_round
            case rel => exact ⟨k + 1, by omega, by go_num, by rw [HS.out, HN.out]⟩
            case measure => simp [intOf]; omega
          · by_cases c3 : x < bs
            · have HN := Lib.hid (nx_yes c1 (.inr c3) la[k] EX.out)
              go_wp2
              go_round
              case rel => exact ⟨k + 1, by omega, by go_num, by rw [HS.out, HN.out]⟩
              case measure => simp [intOf]; omega
            · have HN := Lib.hid (nx_no (t := t) (b := bs) (by omega) la[k] EX.out)
              go_wp2
              go_round
              case rel => exact ⟨k + 1, by omega, by go_num, by rw [HS.out, HN.out]⟩
              case measure => simp [intOf]; omega
        · have HN := Lib.hid (nx_no (t := t) (b := bs) (by omega) la[k] EX.out)
          go_wp2
          go_round
          case rel => exact ⟨k + 1, by omega, by go_num, by rw [HS.out, HN.out]⟩
          case measure => simp [intOf]; omega
      · have hkb : k - la.length < lb.length := by omega
        have := HB.out; rw [this] at hkb; exact absurd hkb (by simp)
    · go_wp2
      go_ret
      exact ⟨ret_int (by rw [List.take_of_length_le (by rw [List.length_append]; omega)]), rfl⟩

set_option maxHeartbeats 8000000 in
set_option maxRecDepth 1000000 in
theorem next_ss (b1 o1 c1 : Nat) (b2 o2 c2 : Nat) (la lb : List St) (t : Int) (w : World) (hla : la.length ≤ 2000000) (hlb : lb.length ≤ 2000000) (hA : At w b1 o1 la) (hB : At w b2 o2 lb) :
    Calls Try.prog 45 #[.slice (some ⟨b1, o1, none⟩) la.length c1, .slice (some ⟨b2, o2, none⟩) lb.length c2, .int .i64 t] w fun e w' => e = .returned (.int .i64 (nextF t (la ++ lb))) ∧ w = w' := by
  have HA := Lib.hid hA
  have HB := Lib.hid hB
  clear hA hB
  go_enter Try.func45, Try.ntmps45
  go_wp2
  go_loop [7, 8] (fun v i => ∃ k : Nat, k ≤ la.length + lb.length ∧ i = .int .i64 k ∧ v = .int .i64 (nextF t ((la ++ lb).take k))) (fun _ i => la.length + lb.length - (intOf i).toNat)
  case atStart => exact ⟨0, Nat.zero_le _, rfl, rfl⟩
  case round =>
    obtain ⟨k, hk, rfl, rfl⟩ := hrel
    by_cases hlt : k < la.length + lb.length
    · have hk2 : k < (la ++ lb).length := by rw [List.length_append]; omega
      have hs := nextF_snoc t ((la ++ lb).take k) (la ++ lb)[k]
      rw [← take_snoc _ k hk2] at hs
      obtain ⟨bs, eb⟩ : ∃ x, x = nextF t ((la ++ lb).take k) := ⟨_, rfl⟩
      rw [← eb] at hs ⊢
      clear eb
      by_cases hka : k < la.length
      · obtain ⟨h1, _⟩ := HA.out.2 k hka
        rw [List.getElem_append_left hka] at hs
        obtain ⟨x, ex⟩ : ∃ x, la[k].1 = x := ⟨_, rfl⟩
        rw [ex] at h1
        have EX := Lib.hid ex
        have HS := Lib.hid hs
        clear ex hs
        by_cases c1 : t < x
        · by_cases c2 : bs < 0
          · have HN := Lib.hid (nx_yes (b := bs) c1 (.inl c2) la[k] EX.out)
            go_wp2
            go_round
            case rel => exact ⟨k + 1, by omega, by go_num, by rw [HS.out, HN.out]⟩
            case measure => simp [intOf]; omega
          · by_cases c3 : x < bs
            · have HN := Lib.hid (nx_yes c1 (.inr c3) la[k] EX.out)
              go_wp2
              go_round
              case rel => exact ⟨k + 1, by omega, by go_num, by rw [HS.out, HN.out]⟩
              case measure => simp [intOf]; omega
            · have HN := Lib.hid (nx_no (t := t) (b := bs) (by omega) la[k] EX.out)
              go_wp2
              go_round
              case rel => exact ⟨k + 1, by omega, by go_num, by rw [HS.out, HN.out]⟩
              case measure => simp [intOf]; omega
        · have HN := Lib.hid (nx_no (t := t) (b := bs) (by omega) la[k] EX.out)
          go_wp2
          go_round
          case rel => exact ⟨k + 1, by omega, by go_num, by rw [HS.out, HN.out]⟩
          case measure => simp [intOf]; omega
      · have hkb : k - la.length < lb.length := by omega
        obtain ⟨h1, _⟩ := HB.out.2 (k - la.length) hkb
        rw [List.getElem_append_right (by omega)] at hs
        obtain ⟨x, ex⟩ : ∃ x, lb[k - la.length].1 = x := ⟨_, rfl⟩
        rw [ex] at h1
        have EX := Lib.hid ex
        have HS := Lib.hid hs
        obtain ⟨j, ej⟩ : ∃ j, j = k - la.length := ⟨_, rfl⟩
        rw [← ej] at h1
        have hw1 : IntKind.i64.wrap ((k : Int) - (la.length : Int)) = (j : Int) := by rw [IntKind.wrap_i64]; omega
        have hw2 : (k : Int) - (la.length : Int) = (j : Int) := by omega
        have hj : j < lb.length := by omega
        clear ex hs ej
        by_cases c1 : t < x
        · by_cases c2 : bs < 0
          · have HN := Lib.hid (nx_yes (b := bs) c1 (.inl c2) lb[k - la.length] EX.out)
            go_wp2
            go_round
            case rel => exact ⟨k + 1, by omega, by go_num, by rw [HS.out, HN.out]⟩
            case measure => simp [intOf]; omega
          · by_cases c3 : x < bs
            · have HN := Lib.hid (nx_yes c1 (.inr c3) lb[k - la.length] EX.out)
              go_wp2
              go_round
              case rel => exact ⟨k + 1, by omega, by go_num, by rw [HS.out, HN.out]⟩
              case measure => simp [intOf]; omega
            · have HN := Lib.hid (nx_no (t := t) (b := bs) (by omega) lb[k - la.length] EX.out)
              go_wp2
              go_round
              case rel => exact ⟨k + 1, by omega, by go_num, by rw [HS.out, HN.out]⟩
              case measure => simp [intOf]; omega
        · have HN := Lib.hid (nx_no (t := t) (b := bs) (by omega) lb[k - la.length] EX.out)
          go_wp2
          go_round
          case rel => exact ⟨k + 1, by omega, by go_num, by rw [HS.out, HN.out]⟩
          case measure => simp [intOf]; omega
    · go_wp2
      go_ret
      exact ⟨ret_int (by rw [List.take_of_length_le (by rw [List.length_append]; omega)]), rfl⟩

theorem next_any (va vb : Value) (la lb : List St) (t : Int) (w : World) (hla : la.length ≤ 2000000) (hlb : lb.length ≤ 2000000) (ha : Rd w va la) (hb : Rd w vb lb) :
    Calls Try.prog 45 #[va, vb, .int .i64 t] w fun e w' => e = .returned (.int .i64 (nextF t (la ++ lb))) ∧ w = w' := by
  obtain ⟨p, c, rfl, hc1, hc2, hp⟩ := ha
  obtain ⟨p', c', rfl, hc1', hc2', hp'⟩ := hb
  by_cases e : la = []
  · by_cases e' : lb = []
    · exact next_nn p c p' c' la lb t w hla hlb e e'
    · obtain ⟨b, o, rfl, h⟩ := hp' e'; exact next_ns p c b o c' la lb t w hla hlb e h
  · obtain ⟨b, o, rfl, h⟩ := hp e
    by_cases e' : lb = []
    · exact next_sn b o c p' c' la lb t w hla hlb h e'
    · obtain ⟨b', o', rfl, h'⟩ := hp' e'; exact next_ss b o c b' o' c' la lb t w hla hlb h h'
end Go.Proofs.Ytapfinnbfnhdbab
