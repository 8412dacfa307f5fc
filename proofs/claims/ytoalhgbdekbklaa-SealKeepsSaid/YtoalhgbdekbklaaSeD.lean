/-
  The program's hash of bytes.
-/
import Derived.Test.YtoalhgbdekbklaaSeC
namespace Go.Proofs.Ytoalhgbdekbklaa
open Go.RowKit
open IntWalk
set_option linter.unusedVariables false

/-- The state behind j words. -/
def stK (k l : Int) (b : List UInt8) : Nat → St
  | 0 => begS k l
  | j + 1 => addW (stK k l b j) (wdK (b.drop (8 * j)) 8)
def lastW (b : List UInt8) : Int := orI (wdK (b.drop (8 * (b.length / 8))) (b.length % 8)) (IntKind.u64.wrap ((b.length : Int) * 72057594037927936))
def hashP (k l : Int) (b : List UInt8) : Int := finW (addW (stK k l b (b.length / 8)) (lastW b))
def keyI (k : Int) : Int := xorI k 6616326155283851669
theorem wdK_take (l : List UInt8) (m : Nat) : ∀ k, k ≤ m → wdK (l.take m) k = wdK l k := by
  intro k
  induction k with
  | zero => intro _; rfl
  | succ k ih =>
    intro h
    show orI (wdK (l.take m) k) (shB ((l.take m).getD k 0) k) = orI (wdK l k) (shB (l.getD k 0) k)
    rw [ih (by omega)]
    have : (l.take m).getD k 0 = l.getD k 0 := by
      rw [List.getD_eq_getElem?_getD, List.getD_eq_getElem?_getD, List.getElem?_take, if_pos (by omega)]
    rw [this]

set_option maxHeartbeats 2000000 in
set_option maxRecDepth 10000 in
theorem word_run (v : Value) (l : List UInt8) (w : World) (hl : l.length ≤ 8) (h : RdB w v l) :
    Calls Try.prog 18 #[v] w fun e w' => e = .returned (.int .u64 (wdK l l.length)) ∧ w' = w := by
  obtain ⟨p, c, rfl, hc, hm, hat⟩ := h
  by_cases h0 : l = []
  · subst h0
    go_enter Try.func18, Try.ntmps18
    go_wp2
    refine wp_loop_rounds 1 ?_
    rw [rounds_succ]
    go_wp2
    go_ret
    exact ⟨rfl, rfl⟩
  · obtain ⟨b, o, rfl, ha⟩ := hat h0
    have HA := Lib.hid ha
    have H0 := Lib.hid h0
    clear hat ha h0
    go_enter Try.func18, Try.ntmps18
    go_wp2
    go_loop [3, 8] (fun m i => ∃ k : Nat, k ≤ l.length ∧ i = .int .i64 k ∧ m = .int .u64 (wdK l k)) (fun _ i => l.length - (intOf i).toNat)
    case atStart => exact ⟨0, Nat.zero_le _, rfl, rfl⟩
    case round =>
      obtain ⟨k, hk, rfl, rfl⟩ := hrel
      by_cases hlt : k < l.length
      · have hcell := HA.out.2 k hlt
        obtain ⟨x, hx⟩ : ∃ x, x = l[k] := ⟨_, rfl⟩
        have HX : Hid (wdK l (k + 1) = orI (wdK l k) (shB x k)) := Lib.hid (by show orI _ (shB (l.getD k 0) k) = _; rw [List.getD_eq_getElem?_getD, List.getElem?_eq_getElem hlt, hx]; rfl)
        rw [← hx] at hcell
        unfold bv at hcell
        clear hx
        have hxb := x.toNat_lt
        have e1 : (8 * (k : Int)).toNat = 8 * k := by omega
        go_wp2
        go_round
        case rel => exact ⟨k + 1, by omega, by go_num, by rw [HX.out]; unfold shB orI; rfl⟩
        case measure => simp [intOf]; omega
      · obtain rfl : k = l.length := by omega
        go_wp2
        go_ret
        exact ⟨rfl, rfl⟩
theorem RdB.cut8 {w : World} {b o n c : Nat} {l : List UInt8} (h : AtB w b o l) (hl : l.length = n) (hn : 8 ≤ n) (hc : n ≤ c) (hm : c ≤ maxLen) :
    RdB w (.slice (some ⟨b, o, none⟩) 8 c) (l.take 8) ∧ ∀ p, (n - 8 ≠ 0 → p = some ⟨b, o + 8, none⟩) → RdB w (.slice p (n - 8) (c - 8)) (l.drop 8) := by
  have e8 : (l.take 8).length = 8 := by rw [List.length_take]; omega
  refine ⟨⟨_, c, by rw [e8], by omega, hm, fun _ => ⟨b, o, rfl, h.1, fun i hi => ?_⟩⟩, fun p hp => ⟨p, c - 8, by rw [List.length_drop, hl], by rw [List.length_drop]; omega, by omega, fun hne => ⟨b, o + 8, hp (fun e => hne (by apply List.eq_nil_of_length_eq_zero; rw [List.length_drop]; omega)), h.1, fun i hi => ?_⟩⟩⟩
  · rw [List.getElem_take]; exact h.2 i (by omega)
  · rw [List.length_drop] at hi
    rw [List.getElem_drop]
    have := h.2 (8 + i) (by omega)
    rw [show o + 8 + i = o + (8 + i) by omega]
    exact this

theorem Ce.fresh1 (w : World) (s : St) : CeS (w.alloc (.cells #[.int .u64 s.a, .int .u64 s.b, .int .u64 s.c, .int .u64 s.d] 33)) w.heap.size s := by
  refine ⟨by simp, ?_, ?_, ?_, ?_, fun i => ?_⟩ <;> simp [go_sem]
/-- The cells of a slice lie below block B. -/
def blk (v : Value) (B : Nat) : Prop := ∀ b o n c, v = .slice (some ⟨b, o, none⟩) n c → n ≠ 0 → b < B
theorem rd_block {w : World} {v : Value} {l : List UInt8} (h : RdB w v l) : blk v w.heap.size := fun b o n c e hn => by
  obtain ⟨p, c', e2, _, _, hat⟩ := h
  rw [e2] at e
  injection e with e3 e4 e5
  have : l ≠ [] := fun z => hn (by rw [← e4, z]; rfl)
  obtain ⟨b', o', e6, ha⟩ := hat this
  rw [e3] at e6
  injection e6 with e7
  injection e7 with e8 e9
  rw [e8]
  exact ha.1

theorem RdB.below2 {w w' : World} {v : Value} {l : List UInt8} {B : Nat} (h : RdB w v l) (hb : blk v B) (k : Below B w w') : RdB w' v l := by
  obtain ⟨p, c, rfl, h2, h3, h4⟩ := h
  exact ⟨p, c, rfl, h2, h3, fun hl => by
    obtain ⟨b, o, rfl, ha⟩ := h4 hl
    exact ⟨b, o, rfl, ha.below k (hb b o _ c rfl (fun e => hl (List.eq_nil_of_length_eq_zero e)))⟩⟩
set_option maxHeartbeats 4000000 in
set_option maxRecDepth 10000 in
theorem sum_run (k : Int) (v : Value) (l : List UInt8) (w : World) (hl : l.length ≤ 100000) (h : RdB w v l) :
    Calls Try.prog 9 #[.int .u64 k, v] w fun e w' => e = .returned (.int .u64 (hashP k (keyI k) l)) ∧ Below w.heap.size w w' := by
  have HR := Lib.hid h
  obtain ⟨p, c, rfl, hc, hm, hat⟩ := h
  clear hat
  have B := Lib.hid (begin_run k w)
  unfold stV at B
  obtain ⟨N, hN⟩ : ∃ N, N = l.length / 8 := ⟨_, rfl⟩
  have hq : ((l.length : Nat) : Int) / 8 = (N : Nat) := by omega
  have hN2 : 8 * N ≤ l.length := by omega
  have hN3 : N ≤ 100000 := by omega
  have HN := Lib.hid hN
  have H2 := Lib.hid hN2
  clear hN hN2
  obtain ⟨K, hK⟩ : ∃ K, K = keyI k := ⟨_, rfl⟩
  have HK := Lib.hid hK
  change Hid (Calls _ _ _ _ (fun e w' => e = .returned (.agg #[.int .u64 (begS k (keyI k)).a, .int .u64 (begS k (keyI k)).b, .int .u64 (begS k (keyI k)).c, .int .u64 (begS k (keyI k)).d]) ∧ _)) at B
  rw [← hK] at B ⊢
  clear hK
  go_enter Try.func9, Try.ntmps9
  go_wp2_with fail
  refine B.out.mono ?_
  rintro e w1 ⟨rfl, b1⟩
  have B1 := Lib.hid (b1.alloc b1.size (.cells #[.int .u64 (begS k K).a, .int .u64 (begS k K).b, .int .u64 (begS k K).c, .int .u64 (begS k K).d] 33))
  have C1 := Lib.hid (Ce.fresh1 w1 (begS k K))
  have Z1 := Lib.hid b1.size
  have R1 := Lib.hid ((HR.out.below b1).more (.cells #[.int .u64 (begS k K).a, .int .u64 (begS k K).b, .int .u64 (begS k K).c, .int .u64 (begS k K).d] 33))
  have L1 := Lib.hid (rd_block HR.out)
  clear b1 B
  go_wp2_with fail
  go_loopw [6, 13] (fun r i wr => ∃ j : Nat, j ≤ N ∧ i = .int .i64 j ∧ (RdB wr r (l.drop (8 * j)) ∧ blk r w.heap.size) ∧ CeS wr w1.heap.size (stK k K l j) ∧ Below w.heap.size w wr) (fun _ i _ => N - (intOf i).toNat)
  case atStart => exact ⟨0, Nat.zero_le _, rfl, ⟨R1.out, L1.out⟩, C1.out, B1.out⟩
  case round =>
    obtain ⟨j, hj, rfl, ⟨rr, rb⟩, cc, bb⟩ := hrel
    clear R1 C1 B1 L1
    by_cases hlt : j < N
    · obtain ⟨p2, c2, rfl, hc2, hm2, hat2⟩ := rr
      have hne : l.drop (8 * j) ≠ [] := fun e => by have := congrArg List.length e; have h2 := H2.out; rw [List.length_drop, List.length_nil] at this; omega
      obtain ⟨b, o, rfl, ha⟩ := hat2 hne
      have HJ := Lib.hid (show l.drop (8 * (j + 1)) = (l.drop (8 * j)).drop 8 by rw [List.drop_drop]; congr 1)
      have HS := Lib.hid (show stK k K l (j + 1) = addW (stK k K l j) (wdK (l.drop (8 * j)) 8) from rfl)
      have hlen : 8 ≤ (l.drop (8 * j)).length := by have := H2.out; rw [List.length_drop]; omega
      obtain ⟨t, ht⟩ : ∃ t, t = l.drop (8 * j) := ⟨_, rfl⟩
      rw [← ht] at HJ HS hlen hc2 ha ⊢
      obtain ⟨M, hM⟩ : ∃ M, M = t.length := ⟨_, rfl⟩
      rw [← hM] at hlen hc2 ⊢
      have cut := RdB.cut8 ha hM.symm hlen hc2 hm2
      have e8 : (t.take 8).length = 8 := by rw [List.length_take]; omega
      have W := word_run _ _ wr (by omega) cut.1
      rw [e8, wdK_take t 8 8 (Nat.le_refl _)] at W
      have W1 := Lib.hid W
      have CUT := Lib.hid cut.2
      obtain ⟨m, hmw⟩ : ∃ m, m = wdK t 8 := ⟨_, rfl⟩
      rw [← hmw] at W1 HS
      have A1 := Lib.hid (add_run _ _ m wr cc)
      have BB := Lib.hid bb
      have HB := Lib.hid (show b < w.heap.size by
        have := rb b o (l.drop (8 * j)).length c2 rfl
        exact this (by rw [← ht, ← hM]; omega))
      have HJN := Lib.hid hlt
      obtain ⟨S, hS⟩ : ∃ S, S = stK k K l j := ⟨_, rfl⟩
      rw [← hS] at HS A1
      have HL := Lib.hid hl
      have ZZ := Lib.hid hm2
      clear hat2 ha cut e8 W hmw cc bb rb hne hM ht hS hl hm2 hc hm
      by_cases hcc : c2 = 8
      · obtain rfl : M = 8 := by omega
        subst hcc
        clear hc2 hlen
        go_wp2_with fail
        refine W1.out.mono ?_
        rintro e w2 ⟨rfl, hw⟩
        rw [hw]
        clear hw w2
        go_wp2_with fail
        refine A1.out.mono ?_
        rintro e w2 ⟨rfl, c3, b3⟩
        have C3 := Lib.hid c3
        have B3 := Lib.hid b3
        clear c3 b3 A1 W1
        go_wp2_with fail
        refine ⟨⟨j + 1, HJN.out, by go_num, ⟨?_, ?_⟩, by rw [HS.out]; exact C3.out, BB.out.trans (B3.out.mono Z1.out)⟩, by have := HJN.out; simp [intOf]; omega⟩
        · rw [HJ.out]
          exact RdB.below2 (CUT.out _ (fun h => absurd rfl h)) (fun b' o' n' c' e hn => by injection e with _ e2; exact absurd e2.symm hn) B3.out
        · exact fun b' o' n' c' e hn => by injection e with _ e2; exact absurd e2.symm hn
      · go_wp2_with fail
        refine W1.out.mono ?_
        rintro e w2 ⟨rfl, hw⟩
        rw [hw]
        clear hw w2
        go_wp2_with fail
        refine A1.out.mono ?_
        rintro e w2 ⟨rfl, c3, b3⟩
        have C3 := Lib.hid c3
        have B3 := Lib.hid b3
        clear c3 b3 A1 W1
        go_wp2_with fail
        refine ⟨⟨j + 1, HJN.out, by go_num, ⟨?_, ?_⟩, by rw [HS.out]; exact C3.out, BB.out.trans (B3.out.mono Z1.out)⟩, by have := HJN.out; simp [intOf]; omega⟩
        · rw [HJ.out]
          exact RdB.below2 (CUT.out _ (fun _ => rfl)) (fun b' o' n' c' e hn => by injection e with e1; injection e1 with e1; injection e1 with e1; rw [← e1]; exact Nat.lt_of_lt_of_le HB.out Z1.out) B3.out
        · exact fun b' o' n' c' e hn => by injection e with e1; injection e1 with e1; injection e1 with e1; rw [← e1]; exact HB.out
    · obtain rfl : j = N := by omega
      have W := word_run _ _ wr (by have := HN.out; rw [List.length_drop]; omega) rr
      have el : (l.drop (8 * j)).length = l.length % 8 := by have := HN.out; rw [List.length_drop]; omega
      rw [el] at W
      have W1 := Lib.hid W
      have HLW := Lib.hid (show lastW l = orI (wdK (l.drop (8 * j)) (l.length % 8)) (IntKind.u64.wrap ((l.length : Int) * 72057594037927936)) by unfold lastW; rw [← HN.out])
      obtain ⟨m, hmw⟩ : ∃ m, m = wdK (l.drop (8 * j)) (l.length % 8) := ⟨_, rfl⟩
      rw [← hmw] at W1 HLW
      have A1 := Lib.hid (add_run _ _ (lastW l) wr cc)
      have BB := Lib.hid bb
      clear W el hmw cc bb rr rb hlt
      go_wp2_with fail
      refine W1.out.mono ?_
      rintro e w2 ⟨rfl, hw⟩
      rw [hw]
      clear hw w2
      go_wp2_with fail
      change Calls _ _ #[_, .int .u64 (orI m (IntKind.u64.wrap ((l.length : Int) * 72057594037927936)))] _ _
      rw [← HLW.out]
      refine A1.out.mono ?_
      rintro e w2 ⟨rfl, c3, b3⟩
      have B3 := Lib.hid (BB.out.trans (b3.mono Z1.out))
      have F1 := Lib.hid (finish_run _ _ w2 c3)
      have HH := Lib.hid (show finW (addW (stK k K l j) (lastW l)) = hashP k K l by unfold hashP; rw [← HN.out])
      rw [HH.out] at F1
      clear c3 b3 A1 W1
      go_wp2_with fail
      refine F1.out.mono ?_
      rintro e w3 ⟨rfl, b4⟩
      have B4 := Lib.hid (B3.out.trans (b4.mono Z1.out))
      clear b4 F1
      go_wp2_with fail
      go_ret
      exact ⟨rfl, B4.out⟩
end Go.Proofs.Ytoalhgbdekbklaa
