/-
  What stays as it was when one block is written; encoders of integers.
-/
import Derived.Test.YtbaodpfiilmpjaaFiA
import Derived.Test.YtbaodpfiilmpjaaByP
namespace Go.Proofs.Ytbaodpfiilmpjaa
open Go.RowKit
open IntWalk
set_option linter.unusedVariables false

/-- The cells of a slice lie below block B. -/
def blk (v : Value) (B : Nat) : Prop := ∀ b o n c, v = .slice (some ⟨b, o, none⟩) n c → n ≠ 0 → b < B
theorem rd_block {w : World} {v : Value} {l : List UInt8} (h : RdB w v l) : blk v w.heap.size := fun b o n c e hn => by
  obtain ⟨p, c', e2, _, _, hat⟩ := h
  rw [e2] at e
  injection e with e3 e4 e5
  have : l ≠ [] := fun z => hn (by rw [← e4, z]; rfl)
  obtain ⟨b', o', e6, ha⟩ := hat this
  rw [e3] at e6
  injection e6 with e7
  injection e7 with e8 e9
  rw [e8]
  exact ha.1
theorem blk.up {v : Value} {B B' : Nat} (h : blk v B) (hB : B ≤ B') : blk v B' := fun b o n c e hn => Nat.lt_of_lt_of_le (h b o n c e hn) hB
theorem RdB.below2 {w w' : World} {v : Value} {l : List UInt8} {B : Nat} (h : RdB w v l) (hb : blk v B) (k : Below B w w') : RdB w' v l := by
  obtain ⟨p, c, rfl, h2, h3, h4⟩ := h
  exact ⟨p, c, rfl, h2, h3, fun hl => by
    obtain ⟨b, o, rfl, ha⟩ := h4 hl
    exact ⟨b, o, rfl, ha.below k (hb b o _ c rfl (fun e => hl (List.eq_nil_of_length_eq_zero e)))⟩⟩
theorem bv_ofNat (n : Nat) : bv (UInt8.ofNat n) = .int .u8 ((n % 256 : Nat) : Int) := by unfold bv; rw [UInt8.toNat_ofNat']
theorem or_128 (u : Nat) : bits .or .u8 128 ((u % 256 : Nat) : Int) = ((128 + u % 128 : Nat) : Int) := by
  have h := u8_or_nat 128 (u % 256) (by decide) (Nat.mod_lt _ (by decide))
  rw [show ((128 : Nat) : Int) = 128 from rfl] at h
  rw [h]
  have e : ∀ x : Fin 256, 128 ||| x.val = 128 + x.val % 128 := by decide +kernel
  have := e ⟨u % 256, Nat.mod_lt _ (by decide)⟩
  simp only at this
  rw [this]
  omega

theorem xor_max (a : Nat) (h : a < 18446744073709551616) : 18446744073709551615 ^^^ a = 18446744073709551615 - a := by
  have h1 := congrArg BitVec.toNat (BitVec.allOnes_xor (x := BitVec.ofNat 64 a))
  rw [BitVec.toNat_xor, BitVec.toNat_not, BitVec.toNat_ofNat, BitVec.toNat_allOnes, Nat.mod_eq_of_lt h] at h1
  exact h1
theorem comp_zig (n : Int) (h1 : -9223372036854775808 ≤ n) (hn : n < 0) : bits BinOp.xor IntKind.u64 IntKind.u64.max (IntKind.u64.wrap (IntKind.u64.wrap n * 2)) = ((zig n : Nat) : Int) := by
  obtain ⟨a, ha⟩ : ∃ a : Nat, IntKind.u64.wrap (IntKind.u64.wrap n * 2) = (a : Int) ∧ a = 18446744073709551615 - zig n := by
    refine ⟨18446744073709551615 - zig n, ?_, rfl⟩
    unfold zig
    rw [if_pos hn, IntKind.wrap_u64, IntKind.wrap_u64]
    omega
  rw [ha.1, show IntKind.u64.max = ((18446744073709551615 : Nat) : Int) from rfl, u64_xor_nat _ _ (by decide) (by rw [ha.2]; omega), xor_max _ (by rw [ha.2]; omega)]
  have := zig_lt n h1 (by omega)
  have := ha.2
  omega
/-- Blocks that are not the row's stay as they were. -/
def Kept (o : Option Nat) (w w' : World) : Prop := ∀ k, k < w.heap.size → o ≠ some k → w'.heap[k]? = w.heap[k]?
def Newer (w : World) (v v' : Value) : Prop := v'.ownBlock = v.ownBlock ∨ ∃ k, v'.ownBlock = some k ∧ w.heap.size ≤ k
theorem kept_step {w wr w2 : World} {v b v2 : Value} {ob : Obj} (h : Kept v.ownBlock w wr ∧ Newer w v b) (hs : w.heap.size ≤ wr.heap.size) (hg : (wr.alloc ob).grownBy w2 b.ownBlock) (hn : v2.ownBlock = b.ownBlock ∨ v2.ownBlock = some (wr.alloc ob).heap.size) : Kept v.ownBlock w w2 ∧ Newer w v v2 := by
  obtain ⟨h1, h2⟩ := h
  refine ⟨fun k hk hne => ?_, ?_⟩
  · have hb : some k ≠ b.ownBlock := fun e => by
      rcases h2 with h2 | ⟨j, h2, hj⟩
      · exact hne (by rw [← h2, ← e])
      · rw [h2] at e; injection e with e; omega
    rw [hg.block k (by simp; omega) (fun e => hb (by first | exact e | exact e.symm)), Below.heap_alloc wr ob k (by omega)]
    exact h1 k hk hne
  · rcases hn with hn | hn
    · rcases h2 with h2 | ⟨j, h2, hj⟩
      · exact Or.inl (hn.trans h2)
      · exact Or.inr ⟨j, hn.trans h2, hj⟩
    · exact Or.inr ⟨_, hn, by simp; omega⟩
theorem encN_step (u : Nat) (h : ¬ u < 128) : encN u = [UInt8.ofNat (128 + u % 128)] ++ encN (u / 128) := by rw [encN_hi u h]; rfl

set_option maxHeartbeats 2000000 in
set_option maxRecDepth 10000 in
theorem appendInt_run (base : Nat) (v : Value) (xs : List UInt8) (n : Int) (w : World) (hv : OwnB w base v xs) (hx : xs.length ≤ 1000000) (h1 : -9223372036854775808 ≤ n) (h2 : n < 9223372036854775808) :
    Calls Try.prog 12 #[v, .int .i64 n] w fun e w' => ∃ v', e = .returned v' ∧ OwnB w' base v' (xs ++ encI n) ∧ Below base w w' ∧ Kept v.ownBlock w w' := by
  have H0 := Lib.hid hv
  have HX := Lib.hid hx
  have HZ := Lib.hid (zig_lt n h1 h2)
  have HT := Lib.hid (encI_ten n h1 h2)
  have H1 := Lib.hid h1
  obtain ⟨U, hU⟩ : ∃ U, U = zig n := ⟨_, rfl⟩
  have HE : Hid (encI n = encN U) := Lib.hid (by rw [hU]; rfl)
  rw [HE.out] at HT ⊢
  rw [← hU] at HZ
  have HU := Lib.hid hU
  have fin : ∀ u5 : Value, u5 = .int .u64 (U : Int) → u5 = .int .u64 ((U : Nat) : Int) := fun _ h => h
  clear hU hv hx
  by_cases hn : n < 0
  · go_enter Try.func12, Try.ntmps12
    go_wp2_with fail
    go_loopw [0, 5] (fun b s wr => ∃ (u : Nat) (ys : List UInt8), s = .int .u64 (u : Nat) ∧ Hid (ys ++ encN u = xs ++ encN U) ∧ u ≤ U ∧ OwnB wr base b ys ∧ Below base w wr ∧ Hid (Kept v.ownBlock w wr ∧ Newer w v b)) (fun _ s _ => (intOf s).toNat)
    case atStart => exact ⟨U, xs, by rw [HU.out]; rw [comp_zig n H1.out hn], Lib.hid rfl, Nat.le_refl _, H0.out, Below.refl _ _, Lib.hid ⟨fun k _ _ => rfl, Or.inl rfl⟩⟩
    case round =>
      obtain ⟨u, ys, rfl, HY, hu, ho, hb, HK⟩ := hrel
      have HO := Lib.hid ho
      have HB := Lib.hid hb
      have HUU := Lib.hid hu
      have hub : u < 18446744073709551616 := by have := HZ.out; omega
      have hyl : ys.length ≤ 1000010 := by
        have := congrArg List.length HY.out
        have := HT.out
        have := HX.out
        rw [List.length_append, List.length_append] at *
        omega
      clear ho hb hu H0 fin
      by_cases hlt : u < 128
      · have HS : Hid (encN u = [UInt8.ofNat u]) := Lib.hid (encN_lo u hlt)
        have e0 : IntKind.u8.wrap (u : Int) = (u : Nat) := by rw [IntKind.wrap_u8]; omega
        have HV : Hid (Value.int .u8 (u : Int) = bv (UInt8.ofNat u)) := Lib.hid (by rw [bv_ofNat, Nat.mod_eq_of_lt (by omega)])
        go_wp2_with (at_builtin; refine wp_app rfl _ _ rfl base _ _ ys [UInt8.ofNat u] rfl rfl (HO.out.more _) (lit_one _ _ _ HV.out) (by omega) (by simp) ?_; intro v2 w2 o2 g2 n2; have K2 := Lib.hid (kept_step HK.out HB.out.size g2 n2); clear n2; have b2 := ((Below.refl base wr).alloc HO.out.2 _).trans (grown_below (HO.out.more _) g2); rw [← HS.out, HY.out] at o2; have O2 := Lib.hid o2; have B2 := Lib.hid (HB.out.trans b2); clear o2 b2 g2)
        go_ret
        exact ⟨_, rfl, O2.out, B2.out, K2.out.1⟩
      · have HS : Hid (encN u = [UInt8.ofNat (128 + u % 128)] ++ encN (u / 128)) := Lib.hid (encN_step u hlt)
        have e0 : IntKind.u8.wrap (u : Int) = ((u % 256 : Nat) : Int) := by rw [IntKind.wrap_u8]; omega
        have e1 : bits .or .u8 128 ((u : Int) % 256) = ((128 + u % 128 : Nat) : Int) := or_128 u
        have HV : Hid (Value.int .u8 (bits .or .u8 128 ((u : Int) % 256)) = bv (UInt8.ofNat (128 + u % 128))) := Lib.hid (by rw [bv_ofNat, Nat.mod_eq_of_lt (show 128 + u % 128 < 256 by omega)]; exact u_is e1)
        clear e1
        go_wp2_with (at_builtin; refine wp_app rfl _ _ rfl base _ _ ys [UInt8.ofNat (128 + u % 128)] rfl rfl (HO.out.more _) (lit_one _ _ _ HV.out) (by omega) (by simp) ?_; intro v2 w2 o2 g2 n2; have K2 := Lib.hid (kept_step HK.out HB.out.size g2 n2); clear n2; have b2 := ((Below.refl base wr).alloc HO.out.2 _).trans (grown_below (HO.out.more _) g2); have O2 := Lib.hid o2; have B2 := Lib.hid (HB.out.trans b2); clear o2 b2 g2)
        refine ⟨⟨u / 128, ys ++ [UInt8.ofNat (128 + u % 128)], u_is (by omega), Lib.hid (by rw [← HY.out, HS.out, List.append_assoc]), by have := HUU.out; omega, O2.out, B2.out, K2⟩, by simp only [intOf]; omega⟩
  · go_enter Try.func12, Try.ntmps12
    go_wp2_with fail
    go_loopw [0, 5] (fun b s wr => ∃ (u : Nat) (ys : List UInt8), s = .int .u64 (u : Nat) ∧ Hid (ys ++ encN u = xs ++ encN U) ∧ u ≤ U ∧ OwnB wr base b ys ∧ Below base w wr ∧ Hid (Kept v.ownBlock w wr ∧ Newer w v b)) (fun _ s _ => (intOf s).toNat)
    case atStart => exact ⟨U, xs, by rw [HU.out]; unfold zig; rw [if_neg (by omega)]; exact u_is (by omega), Lib.hid rfl, Nat.le_refl _, H0.out, Below.refl _ _, Lib.hid ⟨fun k _ _ => rfl, Or.inl rfl⟩⟩
    case round =>
      obtain ⟨u, ys, rfl, HY, hu, ho, hb, HK⟩ := hrel
      have HO := Lib.hid ho
      have HB := Lib.hid hb
      have HUU := Lib.hid hu
      have hub : u < 18446744073709551616 := by have := HZ.out; omega
      have hyl : ys.length ≤ 1000010 := by
        have := congrArg List.length HY.out
        have := HT.out
        have := HX.out
        rw [List.length_append, List.length_append] at *
        omega
      clear ho hb hu H0 fin
      by_cases hlt : u < 128
      · have HS : Hid (encN u = [UInt8.ofNat u]) := Lib.hid (encN_lo u hlt)
        have e0 : IntKind.u8.wrap (u : Int) = (u : Nat) := by rw [IntKind.wrap_u8]; omega
        have HV : Hid (Value.int .u8 (u : Int) = bv (UInt8.ofNat u)) := Lib.hid (by rw [bv_ofNat, Nat.mod_eq_of_lt (by omega)])
        go_wp2_with (at_builtin; refine wp_app rfl _ _ rfl base _ _ ys [UInt8.ofNat u] rfl rfl (HO.out.more _) (lit_one _ _ _ HV.out) (by omega) (by simp) ?_; intro v2 w2 o2 g2 n2; have K2 := Lib.hid (kept_step HK.out HB.out.size g2 n2); clear n2; have b2 := ((Below.refl base wr).alloc HO.out.2 _).trans (grown_below (HO.out.more _) g2); rw [← HS.out, HY.out] at o2; have O2 := Lib.hid o2; have B2 := Lib.hid (HB.out.trans b2); clear o2 b2 g2)
        go_ret
        exact ⟨_, rfl, O2.out, B2.out, K2.out.1⟩
      · have HS : Hid (encN u = [UInt8.ofNat (128 + u % 128)] ++ encN (u / 128)) := Lib.hid (encN_step u hlt)
        have e0 : IntKind.u8.wrap (u : Int) = ((u % 256 : Nat) : Int) := by rw [IntKind.wrap_u8]; omega
        have e1 : bits .or .u8 128 ((u : Int) % 256) = ((128 + u % 128 : Nat) : Int) := or_128 u
        have HV : Hid (Value.int .u8 (bits .or .u8 128 ((u : Int) % 256)) = bv (UInt8.ofNat (128 + u % 128))) := Lib.hid (by rw [bv_ofNat, Nat.mod_eq_of_lt (show 128 + u % 128 < 256 by omega)]; exact u_is e1)
        clear e1
        go_wp2_with (at_builtin; refine wp_app rfl _ _ rfl base _ _ ys [UInt8.ofNat (128 + u % 128)] rfl rfl (HO.out.more _) (lit_one _ _ _ HV.out) (by omega) (by simp) ?_; intro v2 w2 o2 g2 n2; have K2 := Lib.hid (kept_step HK.out HB.out.size g2 n2); clear n2; have b2 := ((Below.refl base wr).alloc HO.out.2 _).trans (grown_below (HO.out.more _) g2); have O2 := Lib.hid o2; have B2 := Lib.hid (HB.out.trans b2); clear o2 b2 g2)
        refine ⟨⟨u / 128, ys ++ [UInt8.ofNat (128 + u % 128)], u_is (by omega), Lib.hid (by rw [← HY.out, HS.out, List.append_assoc]), by have := HUU.out; omega, O2.out, B2.out, K2⟩, by simp only [intOf]; omega⟩

theorem putInt_run (n : Int) (w : World) (h1 : -9223372036854775808 ≤ n) (h2 : n < 9223372036854775808) :
    Calls Try.prog 5 #[.int .i64 n] w fun e w' => ∃ v', e = .returned v' ∧ OwnB w' w.heap.size v' (encI n) ∧ Below w.heap.size w w' := by
  have C := Lib.hid (appendInt_run w.heap.size (.slice none 0 0) [] n w (OwnB.none_ w _ (Nat.le_refl _)) (by simp) h1 h2)
  rw [List.nil_append] at C
  go_enter Try.func5, Try.ntmps5
  go_wp2_with fail
  refine C.out.mono ?_
  rintro e w2 ⟨v', rfl, o, b, _⟩
  have O := Lib.hid o
  have B := Lib.hid b
  clear o b C
  go_wp2_with fail
  go_ret
  exact ⟨_, rfl, O.out, B.out⟩
/-- A length and the bytes. -/
def encD (l : List UInt8) : List UInt8 := encI l.length ++ l
theorem encD_len (l : List UInt8) (h : l.length ≤ 1000000) : (encD l).length ≤ l.length + 10 := by
  unfold encD
  have := encI_ten (l.length : Int) (by omega) (by omega)
  rw [List.length_append]
  omega
theorem appendData_run (base : Nat) (v u : Value) (xs l : List UInt8) (w : World) (hv : OwnB w base v xs) (hu : RdB w u l) (hb : blk u base) (hx : xs.length ≤ 900000) (hl : l.length ≤ 100000) :
    Calls Try.prog 13 #[v, u] w fun e w' => ∃ v', e = .returned v' ∧ OwnB w' base v' (xs ++ encD l) ∧ Below base w w' := by
  have C := Lib.hid (appendInt_run base v xs l.length w hv (by omega) (by omega) (by omega))
  have HU := Lib.hid hu
  have HB := Lib.hid hb
  have HL := Lib.hid hl
  have HT := Lib.hid (encI_ten (l.length : Int) (by omega) (by omega))
  have HX := Lib.hid hx
  have HE := Lib.hid (show encD l = encI l.length ++ l from rfl)
  obtain ⟨p, c, rfl, _, _, _⟩ := hu
  go_enter Try.func13, Try.ntmps13
  go_wp2_with fail
  refine C.out.mono ?_
  rintro e w2 ⟨v', rfl, o, b, _⟩
  have O := Lib.hid o
  have B := Lib.hid b
  have R := Lib.hid (HU.out.below2 HB.out b)
  clear o b C
  go_wp2_with (at_builtin; refine wp_app rfl _ _ rfl base _ _ _ l rfl rfl O.out R.out (by have := HX.out; have := HT.out; rw [List.length_append]; omega) (by have := HL.out; omega) ?_; intro v3 w3 o2 g2 _; have b2 := grown_below O.out g2; rw [List.append_assoc, ← HE.out] at o2; have O2 := Lib.hid o2; have B2 := Lib.hid (B.out.trans b2); clear o2 b2 g2)
  go_ret
  exact ⟨_, rfl, O2.out, B2.out⟩
end Go.Proofs.Ytbaodpfiilmpjaa
