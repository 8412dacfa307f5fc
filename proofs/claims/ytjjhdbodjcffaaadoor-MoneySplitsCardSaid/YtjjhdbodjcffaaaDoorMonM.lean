/-
  The digits of the reference, and its Format.
-/
import Derived.Test.YtjjhdbodjcffaaaDoorMonL
import Derived.Laws.IdiomStrings
namespace Go.Proofs.YtjjhdbodjcffaaaDoor
open Go.RowKit
open IntWalk

theorem dec_more (u : Nat) (h : ¬ u < 10) : dec u = dec (u / 10) ++ ⟨#[UInt8.ofNat (48 + u % 10)]⟩ := by
  show (⟨(Lib.decDigits u).toArray⟩ : ByteArray) = _
  rw [Lib.decDigits, dif_neg h]
  apply ByteArray.ext
  simp [dec]
theorem dec_less (u : Nat) (h : u < 10) : dec u = ⟨#[UInt8.ofNat (48 + u)]⟩ := by
  show (⟨(Lib.decDigits u).toArray⟩ : ByteArray) = _
  rw [Lib.decDigits, dif_pos h]

theorem s_is {a b : ByteArray} (h : a = b) : Ending.returned (.string a) = .returned (.string b) := by rw [h]
theorem ba_empty (a : ByteArray) : a ++ ⟨#[]⟩ = a := ByteArray.append_empty
theorem conv_one (wr : World) (x : Int) (h0 : 0 ≤ x) (h1 : x < 256) :
    (convert 72 9 (.slice (some ⟨wr.heap.size, 0, none⟩) 1 1)).run Tryd.prog (wr.alloc (.cells #[.int .u8 x] 5)) = .ok (.string ⟨#[UInt8.ofNat x.toNat]⟩) (wr.alloc (.cells #[.int .u8 x] 5)) := by
  have h := run_convert_bytes_back (P := Tryd.prog) (wr.alloc (.cells #[.int .u8 x] 5)) 72 9 5 ⟨wr.heap.size, 0, none⟩ 1 [UInt8.ofNat x.toNat] Tryd.underlying72 Tryd.underlying5 Tryd.underlying9 (fun j hj => by
    have e : j = 0 := by simpa using hj
    subst e
    rw [Lib.add_plain, World.cell?_alloc_new]
    have e2 : (UInt8.ofNat x.toNat).toNat = x.toNat := by rw [UInt8.toNat_ofNat']; omega
    simp [e2]; omega)
  exact h

set_option maxHeartbeats 1000000 in
set_option maxRecDepth 10000 in
theorem digits_run (u : Nat) (hu : u < 18446744073709551616) (w : World) :
    Calls Tryd.prog 40 #[.int .u64 u] w fun e w' => e = .returned (.string (dec u)) ∧ Below w.heap.size w w' := by
  go_enter Tryd.func40, Tryd.ntmps40
  go_wp2
  go_loopw [0, 3] (fun n s wr => ∃ (k : Nat) (S : ByteArray), k ≤ u ∧ n = .int .u64 k ∧ s = .string S ∧ Hid (dec k ++ S = dec u) ∧ Below w.heap.size w wr) (fun n _ _ => (intOf n).toNat)
  case atStart => exact ⟨u, ⟨#[]⟩, Nat.le_refl _, rfl, rfl, Lib.hid (ba_empty _), Below.refl _ _⟩
  case round =>
    obtain ⟨k, S, hk, rfl, rfl, HS, hb⟩ := hrel
    have hS : S.size ≤ 20 := by
      have e := congrArg ByteArray.size HS.out
      rw [ByteArray.size_append] at e
      have := dec_le u hu
      omega
    by_cases h9 : 9 < k
    · have hcv := conv_one wr (48 + (k : Int) % 10) (by omega) (by omega)
      obtain ⟨c, hc⟩ : ∃ c, c = UInt8.ofNat (48 + (k : Int) % 10).toNat := ⟨_, rfl⟩
      rw [← hc] at hcv
      have HN : Hid (dec (k / 10) ++ (⟨#[c]⟩ ++ S) = dec u) := Lib.hid (by
        rw [hc, ← HS.out, dec_more k (by omega), ByteArray.append_assoc, show (48 + (k : Int) % 10).toNat = 48 + k % 10 by omega])
      clear hc
      have hb1 := hb.alloc hb.size (.cells #[.int .u8 (48 + (k : Int) % 10)] 5)
      go_wp2
      go_roundw
      case rel => exact ⟨k / 10, _, by omega, u_is (by omega), rfl, HN, hb1⟩
      case measure => simp [intOf]; omega
    · have hcv := conv_one wr (48 + (k : Int)) (by omega) (by omega)
      obtain ⟨c, hc⟩ : ∃ c, c = UInt8.ofNat (48 + (k : Int)).toNat := ⟨_, rfl⟩
      rw [← hc] at hcv
      have HN : Hid (⟨#[c]⟩ ++ S = dec u) := Lib.hid (by
        rw [hc, ← HS.out, dec_less k (by omega), show (48 + (k : Int)).toNat = 48 + k by omega])
      clear hc
      have hb1 := hb.alloc hb.size (.cells #[.int .u8 (48 + (k : Int))] 5)
      go_wp2
      go_ret
      exact ⟨s_is HN.out, hb1⟩
end Go.Proofs.YtjjhdbodjcffaaaDoor
