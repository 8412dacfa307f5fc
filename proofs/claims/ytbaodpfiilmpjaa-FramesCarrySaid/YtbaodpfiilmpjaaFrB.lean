/-
  Slices of bytes; what Sum returns, in frame and in its reference.
-/
import Derived.Test.YtbaodpfiilmpjaaFrA
import Derived.Test.YtbaodpfiilmpjaaProg
import Derived.WalkKit
import Derived.Deep.CutBlock
import Derived.Deep.DeepCutAuto
import Derived.Deep.QuietTactic
import Derived.BigQuiet
import Derived.LoopTactic
import Derived.Outline
import Derived.IntWalk
import Derived.Lib.Hide
import Derived.Below
namespace Go.Proofs.Ytbaodpfiilmpjaa.F
open Go.RowKit
open IntWalk

/-- A byte, as a value. -/
def bv (c : UInt8) : Value := .int .u8 (c.toNat : Int)
/-- The cells of a place read as a list of bytes. -/
def AtB (w : World) (b o : Nat) (l : List UInt8) : Prop := b < w.heap.size ∧ ∀ i (h : i < l.length), w.cell? ⟨b, o + i, none⟩ = some (bv (l[i]'h))
/-- A value reads as a list of bytes. -/
def RdB (w : World) (v : Value) (l : List UInt8) : Prop :=
  ∃ (p : Option Addr) (c : Nat), v = .slice p l.length c ∧ l.length ≤ c ∧ c ≤ maxLen ∧ (l ≠ [] → ∃ b o, p = some ⟨b, o, none⟩ ∧ AtB w b o l)
theorem AtB.below {w w' : World} {b o B : Nat} {l : List UInt8} (h : AtB w b o l) (hb : Below B w w') (hB : b < B) : AtB w' b o l :=
  ⟨Nat.lt_of_lt_of_le h.1 hb.size, fun i hi => (hb.cell (p := ⟨b, o + i, none⟩) hB).trans (h.2 i hi)⟩
theorem RdB.below {w w' : World} {v : Value} {l : List UInt8} (h : RdB w v l) (hb : Below w.heap.size w w') : RdB w' v l := by
  obtain ⟨p, c, h1, h2, h3, h4⟩ := h
  exact ⟨p, c, h1, h2, h3, fun hl => by obtain ⟨b, o, e, ha⟩ := h4 hl; exact ⟨b, o, e, ha.below hb ha.1⟩⟩
theorem ret_int {k : IntKind} {a b : Int} (h : a = b) : Ending.returned (.int k a) = .returned (.int k b) := by rw [h]
theorem u_is {k : IntKind} {a b : Int} (h : a = b) : Value.int k a = Value.int k b := by rw [h]
theorem crc_step (l : List UInt8) (k : Nat) (h : k < l.length) : crcF (l.take (k + 1)) 65535 = feedB (crcF (l.take k) 65535) l[k] := by
  rw [List.take_succ_eq_append_getElem h, crcF_snoc]

set_option maxHeartbeats 2000000 in
set_option maxRecDepth 10000 in
theorem sum_some (b o c : Nat) (l : List UInt8) (w : World) (hl : l.length ≤ 2000000) (hR : AtB w b o l) :
    Calls Try.prog 14 #[.slice (some ⟨b, o, none⟩) l.length c] w fun e w' => e = .returned (.int .i64 (crc l : Nat)) ∧ w = w' := by
  have HR := Lib.hid hR
  clear hR
  go_enter Try.func14, Try.ntmps14
  go_wp2
  go_loop [3, 9] (fun s i => ∃ k : Nat, k ≤ l.length ∧ i = .int .i64 k ∧ s = .int .u16 (crcF (l.take k) 65535 : Nat)) (fun _ i => l.length - (intOf i).toNat)
  case atStart => exact ⟨0, Nat.zero_le _, rfl, rfl⟩
  case round =>
    obtain ⟨k, hk, rfl, rfl⟩ := hrel
    by_cases hlt : k < l.length
    · have hc := HR.out.2 k hlt
      have hs := Lib.hid (crc_step l k hlt)
      have hb := crcF_lt (l.take k) 65535 (by decide)
      obtain ⟨x, hx⟩ : ∃ x, x = l[k] := ⟨_, rfl⟩
      rw [← hx] at hc hs
      unfold bv at hc
      obtain ⟨C, hC⟩ : ∃ C, C = crcF (l.take k) 65535 := ⟨_, rfl⟩
      rw [← hC] at hb hs ⊢
      have hxb := x.toNat_lt
      obtain ⟨y, hy⟩ : ∃ y, y = x.toNat := ⟨_, rfl⟩
      have hf : Hid (feedB C x = stN (C ^^^ (y * 256)) 8) := Lib.hid (by rw [hy]; rfl)
      rw [← hy] at hc hxb
      have hz : C ^^^ (y * 256) < 65536 := by rw [hy]; exact mix_lt C x hb
      clear hx hC hy
      have e1 : bits .xor .u16 (C : Int) ((y : Int) * 256) = ((C ^^^ (y * 256) : Nat) : Int) := by
        have := xor_byte C (y * 256) hb (by omega)
        rw [Int.natCast_mul] at this
        exact this
      obtain ⟨Z, hZ⟩ : ∃ Z, Z = C ^^^ (y * 256) := ⟨_, rfl⟩
      rw [← hZ] at e1 hz hf
      clear hZ
      go_upto_region 6 with fail
      clear e1 hc
      go_wp2
      go_loop [3, 18] (fun s i => ∃ j : Nat, j ≤ 8 ∧ i = .int .i64 j ∧ s = .int .u16 (stN Z j : Nat)) (fun _ i => 8 - (intOf i).toNat)
      case atStart => exact ⟨0, Nat.zero_le _, rfl, rfl⟩
      case round =>
        obtain ⟨j, hj, rfl, rfl⟩ := hrel
        by_cases hj8 : j < 8
        · have hc := stN_lt Z j hz
          have e2 := and_top (stN Z j) hc
          have e5 := Lib.hid (show stN Z (j + 1) = st (stN Z j) from rfl)
          obtain ⟨c, hcc⟩ : ∃ c, c = stN Z j := ⟨_, rfl⟩
          rw [← hcc] at hc e2 e5 ⊢
          clear hcc
          by_cases ht : 32768 ≤ c
          · rw [if_pos ht] at e2
            obtain ⟨D, hD⟩ : ∃ D, D = 2 * c - 65536 := ⟨_, rfl⟩
            have e3 := xor_poly D (by omega)
            have ew : IntKind.u16.wrap ((c : Int) * 2) = (D : Int) := by rw [IntKind.wrap_u16]; omega
            have e6 : Hid (st c = D ^^^ 4129) := Lib.hid (by unfold st; rw [if_pos ht, hD])
            clear hD
            go_wp2
            go_round
            case rel => exact ⟨j + 1, by omega, by go_num, by rw [e5.out, e6.out]⟩
            case measure => simp [intOf]; omega
          · rw [if_neg ht] at e2
            have ew : IntKind.u16.wrap ((c : Int) * 2) = (c : Int) * 2 := by rw [IntKind.wrap_u16]; omega
            have e6 : Hid (st c = 2 * c) := Lib.hid (by unfold st; rw [if_neg ht])
            go_wp2
            go_round
            case rel => exact ⟨j + 1, by omega, by go_num, u_is (by rw [e5.out, e6.out]; omega)⟩
            case measure => simp [intOf]; omega
        · obtain rfl : j = 8 := by omega
          go_wp2
          go_round
          case rel => exact ⟨k + 1, by omega, by go_num, u_is (by rw [hs.out, hf.out])⟩
          case measure => simp [intOf]; omega
    · obtain rfl : k = l.length := by omega
      have e : crcF (l.take l.length) 65535 = crc l := by rw [List.take_length]; rfl
      rw [e]
      have hb := crc_lt l
      obtain ⟨C, hC⟩ : ∃ C, C = crc l := ⟨_, rfl⟩
      rw [← hC] at hb ⊢
      have HC := Lib.hid hC
      clear hC e
      go_wp2
      go_ret
      exact ⟨ret_int (by rw [HC.out]), rfl⟩

set_option maxHeartbeats 1000000 in
set_option maxRecDepth 10000 in
theorem sum_none (p : Option Addr) (c : Nat) (w : World) :
    Calls Try.prog 14 #[.slice p 0 c] w fun e w' => e = .returned (.int .i64 65535) ∧ w = w' := by
  go_enter Try.func14, Try.ntmps14
  go_wp2
  refine wp_loop_rounds 1 ?_
  rw [rounds_succ]
  go_wp2
  go_ret
  exact ⟨rfl, rfl⟩
theorem sum_run (v : Value) (l : List UInt8) (w : World) (hl : l.length ≤ 2000000) (hR : RdB w v l) :
    Calls Try.prog 14 #[v] w fun e w' => e = .returned (.int .i64 (crc l : Nat)) ∧ w = w' := by
  obtain ⟨p, c, rfl, _, _, h⟩ := hR
  by_cases hn : l = []
  · subst hn; exact sum_none p c w
  · obtain ⟨b, o, rfl, ha⟩ := h hn
    exact sum_some b o c l w hl ha
end Go.Proofs.Ytbaodpfiilmpjaa.F
