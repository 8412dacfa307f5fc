/-
  Slices of integers; what Sum returns, in money and in its reference.
-/
import Derived.Test.YtjjhdbodjcffaaaDoorMonG
namespace Go.Proofs.YtjjhdbodjcffaaaDoor
open Go.RowKit
open IntWalk

/-- The cells of a place read as a list of integers. -/
def At1 (w : World) (b o : Nat) (l : List Int) : Prop := b < w.heap.size ∧ ∀ i (h : i < l.length), w.cell? ⟨b, o + i, none⟩ = some (.int .i64 (l[i]'h))
/-- A value reads as a list of integers. -/
def RdI (w : World) (v : Value) (l : List Int) : Prop :=
  ∃ (p : Option Addr) (c : Nat), v = .slice p l.length c ∧ l.length ≤ c ∧ c ≤ maxLen ∧ (l ≠ [] → ∃ b o, p = some ⟨b, o, none⟩ ∧ At1 w b o l)
theorem At1.below {w w' : World} {b o : Nat} {l : List Int} (h : At1 w b o l) (hb : Below w.heap.size w w') : At1 w' b o l :=
  ⟨Nat.lt_of_lt_of_le h.1 hb.size, fun i hi => (hb.cell (p := ⟨b, o + i, none⟩) h.1).trans (h.2 i hi)⟩
theorem RdI.below {w w' : World} {v : Value} {l : List Int} (h : RdI w v l) (hb : Below w.heap.size w w') : RdI w' v l := by
  obtain ⟨p, c, h1, h2, h3, h4⟩ := h
  exact ⟨p, c, h1, h2, h3, fun hl => by obtain ⟨b, o, e, ha⟩ := h4 hl; exact ⟨b, o, e, ha.below hb⟩⟩
/-- All are integers of 64 bits. -/
def I64 (x : Int) : Prop := -9223372036854775808 ≤ x ∧ x ≤ 9223372036854775807
def pre (l : List Int) (k : Nat) : Int := (l.take k).sum
theorem pre_succ (l : List Int) (k : Nat) (h : k < l.length) : pre l (k + 1) = pre l k + l[k] := by
  unfold pre; rw [List.take_succ_eq_append_getElem h, List.sum_append]; simp
theorem pre_all (l : List Int) : pre l l.length = l.sum := by unfold pre; rw [List.take_length]
def sumV (l : List Int) : Int := if -9223372036854775808 ≤ l.sum ∧ l.sum ≤ 9223372036854775807 then l.sum else 0
def sumE (l : List Int) : Int := if -9223372036854775808 ≤ l.sum ∧ l.sum ≤ 9223372036854775807 then 0 else 20

set_option maxHeartbeats 2000000 in
set_option maxRecDepth 10000 in
theorem sum_some (b o c : Nat) (l : List Int) (w : World) (hl : l.length ≤ 2000000) (hI : ∀ x ∈ l, I64 x) (hR : At1 w b o l) :
    Calls Tryd.prog 16 #[.slice (some ⟨b, o, none⟩) l.length c] w fun e w' => e = .returned (.tuple #[.int .i64 (sumV l), .int .i64 (sumE l)]) ∧ w = w' := by
  have HR := Lib.hid hR
  have HI := Lib.hid hI
  clear hR hI
  go_enter Tryd.func16, Tryd.ntmps16
  go_wp2
  go_loop [4, 5, 11] (fun s r i => ∃ (k : Nat) (S W : Int), k ≤ l.length ∧ i = .int .i64 k ∧ s = .int .i64 S ∧ r = .int .i64 W ∧ -9223372036854775808 ≤ S ∧ S ≤ 9223372036854775807 ∧ -(k : Int) ≤ W ∧ W ≤ k ∧ Hid (S + W * 18446744073709551616 = pre l k)) (fun _ _ i => l.length - (intOf i).toNat)
  case atStart => exact ⟨0, 0, 0, Nat.zero_le _, rfl, rfl, rfl, by omega, by omega, by omega, by omega, Lib.hid rfl⟩
  case round =>
    obtain ⟨k, S, W, hk, rfl, rfl, rfl, s0, s1, w0, w1, HP⟩ := hrel
    by_cases hlt : k < l.length
    · have hc := HR.out.2 k hlt
      have hs := pre_succ l k hlt
      obtain ⟨x0, x1⟩ := HI.out l[k] (List.getElem_mem hlt)
      obtain ⟨x, hx⟩ : ∃ x, x = l[k] := ⟨_, rfl⟩
      rw [← hx] at hc hs x0 x1
      clear hx
      have HS := Lib.hid hs
      clear hs
      obtain ⟨N, hN⟩ : ∃ N, N = wrap64 (S + x) := ⟨_, rfl⟩
      have EN := Lib.hid hN
      unfold wrap64 at hN
      have HN := Lib.hid hN
      have n0 : -9223372036854775808 ≤ N ∧ N ≤ 9223372036854775807 := by omega
      obtain ⟨n1, n2⟩ := n0
      rcases (by omega : (0 < x ∧ N < S ∧ N = S + x - 18446744073709551616) ∨ (x < 0 ∧ S < N ∧ N = S + x + 18446744073709551616) ∨ (¬ (0 < x ∧ N < S) ∧ ¬ (x < 0 ∧ S < N) ∧ N = S + x)) with ⟨c1, c2, c3⟩ | ⟨c1, c2, c3⟩ | ⟨c1, c2, c3⟩
      · have HN := Lib.hid c3
        clear c3 hN
        go_upto_region 6 with fail
        rw [← EN.out]
        go_wp2
        go_round
        case rel => exact ⟨k + 1, N, W + 1, by omega, rfl, rfl, rfl, by omega, by omega, by omega, by omega, Lib.hid (by rw [HS.out, ← HP.out]; have := HN.out; omega)⟩
        case measure => simp [intOf]; omega
      · have HN := Lib.hid c3
        clear c3 hN
        go_upto_region 6 with fail
        rw [← EN.out]
        go_wp2
        go_round
        case rel => exact ⟨k + 1, N, W - 1, by omega, rfl, rfl, rfl, by omega, by omega, by omega, by omega, Lib.hid (by rw [HS.out, ← HP.out]; have := HN.out; omega)⟩
        case measure => simp [intOf]; omega
      · have HN := Lib.hid c3
        clear c3 hN
        by_cases xp : 0 < x
        · have c1' : S ≤ N := by omega
          clear c1 c2
          go_upto_region 6 with fail
          rw [← EN.out]
          go_wp2
          go_round
          case rel => exact ⟨k + 1, N, W, by omega, rfl, rfl, rfl, by omega, by omega, by omega, by omega, Lib.hid (by rw [HS.out, ← HP.out]; have := HN.out; omega)⟩
          case measure => simp [intOf]; omega
  
        · by_cases xn : x < 0
          · have c2' : N ≤ S := by omega
            clear c1 c2
            go_upto_region 6 with fail
            rw [← EN.out]
            go_wp2
            go_round
            case rel => exact ⟨k + 1, N, W, by omega, rfl, rfl, rfl, by omega, by omega, by omega, by omega, Lib.hid (by rw [HS.out, ← HP.out]; have := HN.out; omega)⟩
            case measure => simp [intOf]; omega
    
          · clear c1 c2
            go_upto_region 6 with fail
            go_wp2
            go_round
            case rel => exact ⟨k + 1, N, W, by omega, rfl, u_is (by have := HN.out; omega), rfl, by omega, by omega, by omega, by omega, Lib.hid (by rw [HS.out, ← HP.out]; have := HN.out; omega)⟩
            case measure => simp [intOf]; omega
    
    · obtain rfl : k = l.length := by omega
      rw [pre_all] at HP
      by_cases hw : W = 0
      · have v1 : sumV l = S := by have := HP.out; unfold sumV; rw [if_pos (by omega)]; omega
        have v2 : sumE l = 0 := by have := HP.out; unfold sumE; rw [if_pos (by omega)]
        have V := Lib.hid (And.intro v1 v2)
        clear v1 v2
        subst hw
        go_wp2
        go_ret2
        exact ⟨ie_is V.out.1.symm V.out.2.symm, rfl⟩
      · have v1 : sumV l = 0 := by have := HP.out; unfold sumV; rw [if_neg (by omega)]
        have v2 : sumE l = 20 := by have := HP.out; unfold sumE; rw [if_neg (by omega)]
        have V := Lib.hid (And.intro v1 v2)
        have hz : (W != 0) = true := by rw [bne_iff_ne]; exact hw
        clear v1 v2
        go_wp2
        go_ret2
        exact ⟨ie_is V.out.1.symm V.out.2.symm, rfl⟩
end Go.Proofs.YtjjhdbodjcffaaaDoor
