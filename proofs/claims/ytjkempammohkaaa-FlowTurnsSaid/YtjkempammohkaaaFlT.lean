/-
  Capacities, greatest flows, equal lists: the reference's small functions.
-/
import Derived.Test.YtjkempammohkaaaFlR
namespace Go.Proofs.Ytjkempammohkaaa
open Go.RowKit
open IntWalk
open Fl
set_option linter.unusedVariables false

/-- What the first arcs add to the capacity of a cut. -/
def capP (G : Nt) (S : Nat → Bool) (k : Nat) : Int := sm (fun i => if S (G.fr i) = true ∧ S (G.to i) = false then G.cap i else 0) k
theorem capP_bd {G : Nt} (hG : G.Ok) (S : Nat → Bool) {k : Nat} (hk : k ≤ G.m) : 0 ≤ capP G S k ∧ capP G S k ≤ k * 1099511627776 := by
  induction k with
  | zero => exact ⟨Int.le_refl _, by show (0 : Int) ≤ _; omega⟩
  | succ k ih =>
    obtain ⟨a, b⟩ := ih (by omega)
    have c := hG.cap0 k (by omega)
    have d := hG.cap1 k (by omega)
    have e : capP G S (k + 1) = capP G S k + if S (G.fr k) = true ∧ S (G.to k) = false then G.cap k else 0 := rfl
    rw [e]
    split <;> omega

set_option maxHeartbeats 4000000 in
set_option maxRecDepth 100000 in
theorem capacity_run {N : Nat} {l : List Ac} {G : Nt} (eG : G = netG (N : Int) l) (NK : NetOk (N : Int) l) (hN : N ≤ 10000) (hl : l.length ≤ 10000) (p : Option Addr) (c : Nat) (S : Nat → Bool) (b : Nat) (w : World) (hA : NetAt w p l) (hS : w.rowIs b 4 N (bv S)) :
    Calls Try.prog 21 #[.agg #[.int .i64 (N : Int), .slice p l.length c], .slice (some ⟨b, 0, none⟩) N N] w fun e w' => e = .returned (.int .i64 (G.capC S)) ∧ Below w.heap.size w w' := by
  have HK := Lib.hid NK
  have NG : Hid (G.N = N) := Lib.hid (by rw [eG]; show (N : Int).toNat = N; omega)
  have GM : Hid (G.m = l.length) := Lib.hid (by rw [eG]; rfl)
  have HG : Hid G.Ok := Lib.hid (by rw [eG]; exact NK.ok)
  have EG := Lib.hid eG
  have B0 := Lib.hid ((Below.refl w.heap.size w).alloc (Nat.le_refl _) (.cells #[.int .i64 (N : Int), .slice p l.length c] 24))
  have HA := Lib.hid (hA.below B0.out)
  have RS := Lib.hid (hS.alloc (.cells #[.int .i64 (N : Int), .slice p l.length c] 24))
  have k1 : (w.alloc (.cells #[.int .i64 (N : Int), .slice p l.length c] 24)).cell? ⟨w.heap.size, 1, none⟩ = some (.slice p l.length c) := by simp
  clear hA NK eG hS
  go_enter Try.func21, Try.ntmps21
  go_upto_region 1 with fail
  revert B0 HA RS k1
  generalize hw1 : (w.alloc (.cells #[.int .i64 (N : Int), .slice p l.length c] 24)) = w1
  intro B0 HA RS k1
  clear hw1
  go_wp2_with fail
  go_loop [5, 6] (fun a i => ∃ k : Nat, i = .int .i64 (k : Int) ∧ k ≤ l.length ∧ a = .int .i64 (capP G S k)) (fun _ i => l.length - (intOf i).toNat)
  case atStart => exact ⟨0, rfl, Nat.zero_le _, rfl⟩
  case round =>
    obtain ⟨k, rfl, hk, rfl⟩ := hrel
    obtain ⟨P, hP⟩ : ∃ P, P = capP G S k := ⟨_, rfl⟩
    have pb := capP_bd HG.out S (k := k) (by have := GM.out; omega)
    rw [← hP] at pb ⊢
    have HP := Lib.hid hP
    clear hP
    obtain ⟨pb0, pb1⟩ := pb
    by_cases hlt : k < l.length
    · obtain ⟨ba, oa, rfl, hba, hca⟩ := HA.out (by intro e; rw [e] at hlt; simp at hlt)
      obtain ⟨d1, d2, d3⟩ := hca k hlt
      obtain ⟨e1, e2, e3⟩ := HK.out.at_ k hlt
      rw [← EG.out] at e1 e2 e3
      rw [e1] at d1
      rw [e2] at d2
      rw [e3] at d3
      have hkm : k < G.m := by have := GM.out; omega
      have f0 := HG.out.frN k hkm
      have g0 := HG.out.toN k hkm
      have cp0 := HG.out.cap0 k hkm
      have cp1 := HG.out.cap1 k hkm
      rw [NG.out] at f0 g0
      clear hca e1 e2 e3 hkm
      have HS : Hid (capP G S (k + 1) = P + if S (G.fr k) = true ∧ S (G.to k) = false then G.cap k else 0) := Lib.hid (by rw [HP.out]; rfl)
      obtain ⟨u, hu⟩ : ∃ u, u = G.fr k := ⟨_, rfl⟩
      obtain ⟨v, hv⟩ : ∃ v, v = G.to k := ⟨_, rfl⟩
      obtain ⟨z, hz2⟩ : ∃ z, z = G.cap k := ⟨_, rfl⟩
      rw [← hu] at d1 f0 HS
      rw [← hv] at d2 g0 HS
      rw [← hz2] at d3 cp0 cp1 HS
      clear hu hv hz2
      have ku := RS.out.cell f0
      have kv := RS.out.cell g0
      unfold bv at ku kv
      have hPz : P + z ≤ 11000000000000000 := by omega
      cases pu : S u
      · rw [pu] at ku
        have HT : Hid (capP G S (k + 1) = P) := Lib.hid (by rw [HS.out, if_neg (by simp [pu])]; omega)
        clear pu
        go_wp2_with fail
        go_round
        case rel => exact ⟨k + 1, by go_num, by omega, by rw [HT.out]⟩
        case measure => simp [intOf]; omega
      · rw [pu] at ku
        cases pv : S v
        · rw [pv] at kv
          have HT : Hid (capP G S (k + 1) = P + z) := Lib.hid (by rw [HS.out, if_pos ⟨pu, pv⟩])
          clear pu pv
          go_wp2_with fail
          go_round
          case rel => exact ⟨k + 1, by go_num, by omega, by rw [HT.out]⟩
          case measure => simp [intOf]; omega
        · rw [pv] at kv
          have HT : Hid (capP G S (k + 1) = P) := Lib.hid (by rw [HS.out, if_neg (by simp [pv])]; omega)
          clear pu pv
          go_wp2_with fail
          go_round
          case rel => exact ⟨k + 1, by go_num, by omega, by rw [HT.out]⟩
          case measure => simp [intOf]; omega
    · obtain rfl : k = l.length := by omega
      have HC : Hid (G.capC S = P) := Lib.hid (by rw [HP.out]; show sm _ _ = sm _ _; rw [GM.out])
      clear pb0 pb1
      go_wp2_with fail
      go_ret
      exact ⟨ret_int HC.out.symm, B0.out⟩

set_option maxHeartbeats 4000000 in
set_option maxRecDepth 100000 in
/-- Equal lists. -/
theorem same_run {n a1 a2 c1 c2 : Nat} (hn : n ≤ 100000) (b1 b2 : Nat) (S T : Nat → Bool) (w : World) (h1 : w.rowIs b1 4 n (bv S)) (h2 : w.rowIs b2 4 n (bv T)) (he : ∀ i, i < n → S i = T i) :
    Calls Try.prog 19 #[.slice (some ⟨b1, 0, none⟩) n c1, .slice (some ⟨b2, 0, none⟩) n c2] w fun e w' => e = .returned (.bool true) ∧ ∃ q, w' = w.drewN q := by
  have R1 := Lib.hid h1
  have R2 := Lib.hid h2
  have HE := Lib.hid he
  clear h1 h2 he
  go_enter Try.func19, Try.ntmps19
  go_wp2_with fail
  go_loopw [5] (fun i wr => ∃ k q : Nat, i = .int .i64 (k : Int) ∧ k ≤ n ∧ wr = w.drewN q) (fun i _ => n - (intOf i).toNat)
  case atStart => exact ⟨0, 0, rfl, Nat.zero_le _, rfl⟩
  case round =>
    obtain ⟨k, q, rfl, hk, rfl⟩ := hrel
    by_cases hlt : k < n
    · have k1 := R1.out.cell hlt
      have k2 := R2.out.cell hlt
      unfold bv at k1 k2
      have e := HE.out k hlt
      rw [← e] at k2
      clear e
      have i0 : (0 : Int) ≤ (k : Int) := by omega
      have i1 : (k : Int) < (n : Int) := by omega
      cases pv : S k
      · rw [pv] at k1 k2
        clear pv
        go_wp2_with fail
        go_quiet (fail)
        go_wp2_with fail
        go_roundw
        case rel => exact ⟨k + 1, q + nq, by go_num, by omega, by first | rfl | simp⟩
        case measure => simp [intOf]; omega
      · rw [pv] at k1 k2
        clear pv
        go_wp2_with fail
        go_quiet (fail)
        go_wp2_with fail
        go_roundw
        case rel => exact ⟨k + 1, q + nq, by go_num, by omega, by first | rfl | simp⟩
        case measure => simp [intOf]; omega
    · obtain rfl : k = n := by omega
      go_wp2_with fail
      go_ret
      exact ⟨rfl, q, rfl⟩
end Go.Proofs.Ytjkempammohkaaa
