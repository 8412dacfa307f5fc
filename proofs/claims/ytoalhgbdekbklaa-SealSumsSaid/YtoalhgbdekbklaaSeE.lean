/-
  The reference's hash of bytes.
-/
import Derived.Test.YtoalhgbdekbklaaSeD
namespace Go.Proofs.Ytoalhgbdekbklaa
open Go.RowKit
open IntWalk
set_option linter.unusedVariables false

theorem wrap_len (n : Nat) : (((n : Nat) : Int) % 256 * 72057594037927936) = IntKind.u64.wrap ((n : Int) * 72057594037927936) := by
  rw [IntKind.wrap_u64]; omega
/-- What the reference's word returns at a place. -/
def wordR (l : List UInt8) (a : Nat) : Int :=
  if l.length < a + 8 then orI (wdK (l.drop a) (l.length - a)) (IntKind.u64.wrap ((l.length : Int) * 72057594037927936)) else wdK (l.drop a) 8
theorem wordR_low {l : List UInt8} {a : Nat} (h : a + 8 ≤ l.length) : wordR l a = wdK (l.drop a) 8 := by unfold wordR; rw [if_neg (by omega)]
theorem wordR_last {l : List UInt8} {a : Nat} (h : l.length < a + 8) : wordR l a = orI (wdK (l.drop a) (l.length - a)) (IntKind.u64.wrap ((l.length : Int) * 72057594037927936)) := by unfold wordR; rw [if_pos h]

set_option maxHeartbeats 2000000 in
set_option maxRecDepth 10000 in
theorem rword_run (v : Value) (l : List UInt8) (a : Nat) (w : World) (hl : l.length ≤ 100000) (ha : a ≤ l.length) (h : RdB w v l) :
    Calls Try.prog 20 #[v, .int .i64 a] w fun e w' => e = .returned (.int .u64 (wordR l a)) ∧ w' = w := by
  obtain ⟨p, c, rfl, hc, hm, hat⟩ := h
  have HAT := Lib.hid hat
  clear hat
  go_enter Try.func20, Try.ntmps20
  go_wp2
  go_loop [5, 6] (fun m i => ∃ k : Nat, k ≤ 8 ∧ a + k ≤ l.length ∧ i = .int .i64 k ∧ m = .int .u64 (wdK (l.drop a) k)) (fun _ i => 8 - (intOf i).toNat)
  case atStart => exact ⟨0, Nat.zero_le _, ha, rfl, rfl⟩
  case round =>
    obtain ⟨k, hk, hak, rfl, rfl⟩ := hrel
    by_cases hlt : k < 8
    · by_cases hin : a + k < l.length
      · obtain ⟨b, o, rfl, hat⟩ := HAT.out (fun e => by rw [e] at hin; exact absurd hin (Nat.not_lt_zero _))
        have hcell := hat.2 (a + k) hin
        clear hat
        obtain ⟨x, hx⟩ : ∃ x, x = l[a + k] := ⟨_, rfl⟩
        have HX : Hid (wdK (l.drop a) (k + 1) = orI (wdK (l.drop a) k) (shB x k)) := Lib.hid (by show orI _ (shB ((l.drop a).getD k 0) k) = _; rw [List.getD_eq_getElem?_getD, List.getElem?_drop, List.getElem?_eq_getElem hin, hx]; rfl)
        rw [← hx] at hcell
        unfold bv at hcell
        clear hx
        have hxb := x.toNat_lt
        have e1 : (8 * (k : Int)).toNat = 8 * k := by omega
        have e2 : ((a : Int) + (k : Int)).toNat = a + k := by omega
        go_wp2
        go_round
        case rel => exact ⟨k + 1, by omega, by omega, by go_num, by rw [HX.out]; unfold shB orI; rfl⟩
        case measure => simp [intOf]; omega
      · obtain hak2 : a + k = l.length := by omega
        have hL : l.length < a + 8 := by omega
        have HW := Lib.hid (wordR_last hL)
        have ek : l.length - a = k := by omega
        rw [ek] at HW
        rw [← wrap_len] at HW
        have HV : Hid (wordR l a = bits .or .u64 (wdK (l.drop a) k) (((l.length : Nat) : Int) % 256 * 72057594037927936)) := HW
        clear ek HW
        go_wp2
        go_ret
        rw [HV.out]
        exact ⟨rfl, rfl⟩
    · obtain rfl : k = 8 := by omega
      have HW := Lib.hid (wordR_low hak)
      go_wp2
      go_ret
      exact ⟨by rw [HW.out]; rfl, rfl⟩

/-- The state behind j words of the reference. -/
def stP (k l : Int) (b : List UInt8) (j : Nat) : St := if 8 * j ≤ b.length then stK k l b j else addW (stK k l b (b.length / 8)) (lastW b)
theorem stP_low {k l : Int} {b : List UInt8} {j : Nat} (h : 8 * j ≤ b.length) : stP k l b j = stK k l b j := by unfold stP; rw [if_pos h]
theorem stP_step {k l : Int} {b : List UInt8} {j : Nat} (h : 8 * j ≤ b.length) : stP k l b (j + 1) = addW (stP k l b j) (wordR b (8 * j)) := by
  rw [stP_low h]
  by_cases h2 : 8 * j + 8 ≤ b.length
  · rw [stP_low (by omega), wordR_low h2]; rfl
  · have e : b.length / 8 = j := by omega
    have e2 : b.length - 8 * j = b.length % 8 := by omega
    rw [wordR_last (by omega)]
    unfold stP
    rw [if_neg (by omega)]
    unfold lastW
    rw [e, e2]
theorem stP_end {k l : Int} {b : List UInt8} {j : Nat} (h : b.length < 8 * j) : finW (stP k l b j) = hashP k l b := by unfold stP hashP; rw [if_neg (by omega)]
theorem addW_is {a b c d m : Int} {t : St} (h : t = rndN ⟨a, b, c, xorI d m⟩ 2) : addW ⟨a, b, c, d⟩ m = ⟨xorI t.a m, t.b, t.c, t.d⟩ := by subst h; rfl
theorem finW_is {a b c d : Int} {t : St} (h : t = rndN ⟨a, b, xorI c 255, d⟩ 4) : finW ⟨a, b, c, d⟩ = xorI (xorI (xorI t.a t.b) t.c) t.d := by subst h; rfl
theorem Ce.fresh2 (w : World) (a b c d : Int) : Ce (w.alloc (.cells #[.int .u64 a, .int .u64 b, .int .u64 c, .int .u64 d] 40)) w.heap.size a b c d := by
  refine ⟨by simp, ?_, ?_, ?_, ?_, fun i => ?_⟩ <;> simp [go_sem]

set_option maxHeartbeats 4000000 in
set_option maxRecDepth 10000 in
theorem pair_run (k q : Int) (v : Value) (l : List UInt8) (w : World) (hl : l.length ≤ 100000) (h : RdB w v l) :
    Calls Try.prog 15 #[.int .u64 k, .int .u64 q, v] w fun e w' => e = .returned (.int .u64 (hashP k q l)) ∧ Below w.heap.size w w' := by
  have HR := Lib.hid h
  obtain ⟨p, c, rfl, hc, hm, hat⟩ := h
  clear hat
  have C0 := Lib.hid (Ce.fresh2 w (xorI k 8317987319222330741) (xorI q 7237128888997146477) (xorI k 7816392313619706465) (xorI q 8387220255154660723))
  have B0 := Lib.hid ((Below.refl w.heap.size w).alloc (Nat.le_refl _) (.cells #[.int .u64 (xorI k 8317987319222330741), .int .u64 (xorI q 7237128888997146477), .int .u64 (xorI k 7816392313619706465), .int .u64 (xorI q 8387220255154660723)] 40))
  go_enter Try.func15, Try.ntmps15
  go_wp2
  go_loopw [8] (fun i wr => ∃ j : Nat, 8 * j ≤ l.length + 8 ∧ i = .int .i64 ((8 * j : Nat) : Int) ∧ CeS wr w.heap.size (stP k q l j) ∧ Below w.heap.size w wr) (fun i _ => l.length + 8 - (intOf i).toNat)
  case atStart => exact ⟨0, by omega, rfl, by rw [stP_low (by omega)]; exact C0.out, B0.out⟩
  case round =>
    obtain ⟨j, hj, rfl, cc, bb⟩ := hrel
    clear C0 B0
    by_cases hlt : 8 * j ≤ l.length
    · have HS := Lib.hid (stP_step (k := k) (l := q) hlt)
      have W1 := Lib.hid (rword_run _ l (8 * j) wr hl hlt (HR.out.below bb))
      obtain ⟨m, hm⟩ : ∃ m, m = wordR l (8 * j) := ⟨_, rfl⟩
      obtain ⟨⟨a, b, c0, d⟩, hS⟩ : ∃ S, S = stP k q l j := ⟨_, rfl⟩
      rw [← hm] at HS W1
      rw [← hS] at HS cc
      unfold CeS at cc
      dsimp only at cc
      have CC := Lib.hid cc
      have BB := Lib.hid bb
      obtain ⟨A, hA⟩ : ∃ A, A = 8 * j := ⟨_, rfl⟩
      rw [← hA] at W1 hlt hj ⊢
      have HA := Lib.hid hA
      clear cc bb hm hS hA
      go_wp2_with fail
      refine W1.out.mono ?_
      rintro e w2 ⟨rfl, hw⟩
      rw [hw]
      clear hw w2
      obtain ⟨hg, ha, hb, hc, hd, hz⟩ := CC.out
      have z3 := hz 3
      clear hz
      go_upto_region 7 with fail
      rw [xor_is d m]
      have C1 := Lib.hid (Ce.put3 CC.out (xorI d m))
      have B1 := Lib.hid (BB.out.setCell (p := ⟨w.heap.size, 3, none⟩) (Nat.le_refl _) (Value.int IntKind.u64 (xorI d m)))
      clear hg ha hb hc hd z3
      revert C1 B1
      generalize wr.setCell { block := w.heap.size, off := 3 } (Value.int IntKind.u64 (xorI d m)) = w3
      intro C1 B1
      have M := Lib.hid (rounds_run 2 ⟨a, b, c0, xorI d m⟩ w3 (by omega))
      obtain ⟨⟨ta, tb, tc, td⟩, ht⟩ : ∃ t, t = rndN ⟨a, b, c0, xorI d m⟩ 2 := ⟨_, rfl⟩
      rw [← ht] at M
      have HT := Lib.hid (addW_is ht)
      rw [HT.out] at HS
      unfold stV at M
      clear ht HT
      obtain ⟨hg, ha, hb, hc, hd, hz⟩ := C1.out
      clear hz
      go_wp2_with fail
      refine M.out.mono ?_
      rintro e w4 ⟨rfl, b4⟩
      have C4 := Lib.hid (CeS.below (s := ⟨a, b, c0, xorI d m⟩) C1.out b4 hg)
      have B4 := Lib.hid (B1.out.trans (b4.mono (by have := B1.out.size; exact this)))
      clear b4 hg ha hb hc hd M
      obtain ⟨hg, ha, hb, hc, hd, hz⟩ := C4.out
      have z0 := hz 0
      have z1 := hz 1
      have z2 := hz 2
      have z3 := hz 3
      clear hz
      dsimp only at ha hb hc hd
      go_upto_region 8 with fail
      have C5 := Lib.hid ((((Ce.put0 C4.out ta).put1 tb).put2 tc).put3 td)
      have B5 := Lib.hid ((((B4.out.setCell (p := ⟨w.heap.size, 0, none⟩) (Nat.le_refl _) (Value.int IntKind.u64 ta)).setCell (p := ⟨w.heap.size, 1, none⟩) (Nat.le_refl _) (Value.int IntKind.u64 tb)).setCell (p := ⟨w.heap.size, 2, none⟩) (Nat.le_refl _) (Value.int IntKind.u64 tc)).setCell (p := ⟨w.heap.size, 3, none⟩) (Nat.le_refl _) (Value.int IntKind.u64 td))
      clear hg ha hb hc hd z0 z1 z2 z3
      revert C5 B5
      generalize (((w4.setCell { block := w.heap.size, off := 0 } (Value.int IntKind.u64 ta)).setCell { block := w.heap.size, off := 1 } (Value.int IntKind.u64 tb)).setCell { block := w.heap.size, off := 2 } (Value.int IntKind.u64 tc)).setCell { block := w.heap.size, off := 3 } (Value.int IntKind.u64 td) = w5
      intro C5 B5
      obtain ⟨hg, ha, hb, hc, hd, hz⟩ := C5.out
      have z0 := hz 0
      have C6 := Lib.hid (Ce.put0 C5.out (xorI ta m))
      have B6 := Lib.hid (B5.out.setCell (p := ⟨w.heap.size, 0, none⟩) (Nat.le_refl _) (Value.int IntKind.u64 (xorI ta m)))
      clear hz hb hc hd
      go_wp2
      rw [xor_is ta m]
      refine ⟨⟨j + 1, by have := HA.out; omega, by have := HA.out; rw [u_is]; omega, by rw [HS.out]; exact C6.out, B6.out⟩, by simp [intOf]; omega⟩
    · have HF := Lib.hid (stP_end (k := k) (l := q) (b := l) (j := j) (by omega))
      obtain ⟨⟨a, b, c0, d⟩, hS⟩ : ∃ S, S = stP k q l j := ⟨_, rfl⟩
      rw [← hS] at HF cc
      unfold CeS at cc
      dsimp only at cc
      have CC := Lib.hid cc
      have BB := Lib.hid bb
      clear cc bb hS
      obtain ⟨hg, ha, hb, hc, hd, hz⟩ := CC.out
      have z2 := hz 2
      clear hz
      go_upto_region 10 with fail
      rw [xor_is c0 255]
      have C1 := Lib.hid (Ce.put2 CC.out (xorI c0 255))
      have B1 := Lib.hid (BB.out.setCell (p := ⟨w.heap.size, 2, none⟩) (Nat.le_refl _) (Value.int IntKind.u64 (xorI c0 255)))
      clear hg ha hb hc hd z2
      revert C1 B1
      generalize wr.setCell { block := w.heap.size, off := 2 } (Value.int IntKind.u64 (xorI c0 255)) = w3
      intro C1 B1
      have M := Lib.hid (rounds_run 4 ⟨a, b, xorI c0 255, d⟩ w3 (by omega))
      obtain ⟨⟨ta, tb, tc, td⟩, ht⟩ : ∃ t, t = rndN ⟨a, b, xorI c0 255, d⟩ 4 := ⟨_, rfl⟩
      rw [← ht] at M
      have HT := Lib.hid (finW_is ht)
      rw [HT.out] at HF
      unfold stV at M
      clear ht HT
      obtain ⟨hg, ha, hb, hc, hd, hz⟩ := C1.out
      clear hz
      go_wp2_with fail
      refine M.out.mono ?_
      rintro e w4 ⟨rfl, b4⟩
      have C4 := Lib.hid (CeS.below (s := ⟨a, b, xorI c0 255, d⟩) C1.out b4 hg)
      have B4 := Lib.hid (B1.out.trans (b4.mono (by have := B1.out.size; exact this)))
      clear b4 hg ha hb hc hd M
      obtain ⟨hg, ha, hb, hc, hd, hz⟩ := C4.out
      have z0 := hz 0
      have z1 := hz 1
      have z2 := hz 2
      have z3 := hz 3
      clear hz
      dsimp only at ha hb hc hd
      go_upto_region 11 with fail
      have C5 := Lib.hid ((((Ce.put0 C4.out ta).put1 tb).put2 tc).put3 td)
      have B5 := Lib.hid ((((B4.out.setCell (p := ⟨w.heap.size, 0, none⟩) (Nat.le_refl _) (Value.int IntKind.u64 ta)).setCell (p := ⟨w.heap.size, 1, none⟩) (Nat.le_refl _) (Value.int IntKind.u64 tb)).setCell (p := ⟨w.heap.size, 2, none⟩) (Nat.le_refl _) (Value.int IntKind.u64 tc)).setCell (p := ⟨w.heap.size, 3, none⟩) (Nat.le_refl _) (Value.int IntKind.u64 td))
      clear hg ha hb hc hd z0 z1 z2 z3
      revert C5 B5
      generalize (((w4.setCell { block := w.heap.size, off := 0 } (Value.int IntKind.u64 ta)).setCell { block := w.heap.size, off := 1 } (Value.int IntKind.u64 tb)).setCell { block := w.heap.size, off := 2 } (Value.int IntKind.u64 tc)).setCell { block := w.heap.size, off := 3 } (Value.int IntKind.u64 td) = w5
      intro C5 B5
      obtain ⟨hg, ha, hb, hc, hd, hz⟩ := C5.out
      clear hz
      go_wp2
      go_ret
      rw [← HF.out]
      exact ⟨rfl, B5.out⟩
end Go.Proofs.Ytoalhgbdekbklaa
