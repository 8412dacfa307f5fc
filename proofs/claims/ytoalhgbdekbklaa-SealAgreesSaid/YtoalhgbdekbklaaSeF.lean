/-
  What is derived from the hash; the published example.
-/
import Derived.Test.YtoalhgbdekbklaaSeE
import Derived.Test.YtoalhgbdekbklaaByP
import Derived.Lib.ConvBytes
namespace Go.Proofs.Ytoalhgbdekbklaa
open Go.RowKit
open IntWalk
set_option linter.unusedVariables false

theorem rsum_run (k : Int) (v : Value) (l : List UInt8) (w : World) (hl : l.length ≤ 100000) (h : RdB w v l) :
    Calls Try.prog 10 #[.int .u64 k, v] w fun e w' => e = .returned (.int .u64 (hashP k (keyI k) l)) ∧ Below w.heap.size w w' := by
  have C := Lib.hid (pair_run k (keyI k) v l w hl h)
  obtain ⟨K, hK⟩ : ∃ K, K = keyI k := ⟨_, rfl⟩
  rw [← hK] at C ⊢
  have HK : Hid (bits .xor .u64 k 6616326155283851669 = K) := Lib.hid (by rw [hK]; rfl)
  clear hK
  go_enter Try.func10, Try.ntmps10
  go_wp2_with fail
  rw [HK.out]
  refine C.out.mono ?_
  rintro e w2 ⟨rfl, b⟩
  have B := Lib.hid b
  clear b C
  go_wp2_with fail
  go_ret
  exact ⟨rfl, B.out⟩
theorem chain_run (k : Int) (v : Value) (l : List UInt8) (w : World) (hl : l.length ≤ 100000) (h : RdB w v l) :
    Calls Try.prog 13 #[.int .u64 k, v] w fun e w' => e = .returned (.int .u64 (hashP k (keyI k) l)) ∧ Below w.heap.size w w' := by
  have C := Lib.hid (sum_run k v l w hl h)
  go_enter Try.func13, Try.ntmps13
  go_wp2_with fail
  refine C.out.mono ?_
  rintro e w2 ⟨rfl, b⟩
  have B := Lib.hid b
  clear b C
  go_wp2_with fail
  go_ret
  exact ⟨rfl, B.out⟩
theorem rchain_run (k : Int) (v : Value) (l : List UInt8) (w : World) (hl : l.length ≤ 100000) (h : RdB w v l) :
    Calls Try.prog 14 #[.int .u64 k, v] w fun e w' => e = .returned (.int .u64 (hashP k (keyI k) l)) ∧ Below w.heap.size w w' := by
  have C := Lib.hid (rsum_run k v l w hl h)
  go_enter Try.func14, Try.ntmps14
  go_wp2_with fail
  refine C.out.mono ?_
  rintro e w2 ⟨rfl, b⟩
  have B := Lib.hid b
  clear b C
  go_wp2_with fail
  go_ret
  exact ⟨rfl, B.out⟩
/-- The bytes of a string. -/
def strL (s : ByteArray) : List UInt8 := s.data.toList
theorem conv_is (W : World) (s : ByteArray) : (convert 9 23 (.string s)).run Try.prog W = .ok (.slice (some ⟨W.heap.size, 0, none⟩) s.size (grownCap W s.size 0 5)) (Lib.bytesWorld W 5 s) :=
  Lib.run_convert_string_bytes W 9 23 5 s Try.underlying9 Try.underlying23 Try.underlying5
theorem conv_rd (W : World) (s : ByteArray) (h : s.size ≤ 100000) : RdB (Lib.bytesWorld W 5 s) (.slice (some ⟨W.heap.size, 0, none⟩) s.size (grownCap W s.size 0 5)) (strL s) := by
  have e : (strL s).length = s.size := by unfold strL; simp
  refine ⟨_, _, by rw [e], by rw [e]; exact grownCap_ge _ _ _ _, grownCap_le_maxLen _ _ _ _ (by unfold maxLen; omega), fun _ => ⟨W.heap.size, 0, rfl, by rw [Lib.bytesWorld_size]; omega, fun i hi => ?_⟩⟩
  rw [Nat.zero_add, Lib.bytesWorld_cell W _ s i (by rw [← e]; exact hi)]
  unfold bv
  rw [show s.data.toList.getD i 0 = (strL s)[i] by unfold strL; rw [List.getD_eq_getElem?_getD, List.getElem?_eq_getElem (by unfold strL at hi; exact hi)]; rfl]
theorem conv_below (W : World) (s : ByteArray) : Below W.heap.size W (Lib.bytesWorld W 5 s) :=
  ⟨rfl, rfl, rfl, by rw [Lib.bytesWorld_size]; omega, fun k hk => Lib.bytesWorld_at_old W _ s k hk⟩
theorem strL_len (s : ByteArray) : (strL s).length = s.size := by unfold strL; simp

theorem derive_run (k : Int) (s : ByteArray) (w : World) (hl : s.size ≤ 100000) :
    Calls Try.prog 11 #[.int .u64 k, .string s] w fun e w' => e = .returned (.int .u64 (hashP k (keyI k) (strL s))) ∧ Below w.heap.size w w' := by
  have kc := conv_is w s
  have C := Lib.hid (sum_run k _ (strL s) (Lib.bytesWorld w 5 s) (by rw [strL_len]; exact hl) (conv_rd w s hl))
  have B0 := Lib.hid (conv_below w s)
  go_enter Try.func11, Try.ntmps11
  go_wp2_with fail
  refine C.out.mono ?_
  rintro e w2 ⟨rfl, b⟩
  have B := Lib.hid (bt B0.out b)
  clear b C kc
  go_wp2_with fail
  go_ret
  exact ⟨rfl, B.out⟩
theorem rderive_run (k : Int) (s : ByteArray) (w : World) (hl : s.size ≤ 100000) :
    Calls Try.prog 12 #[.int .u64 k, .string s] w fun e w' => e = .returned (.int .u64 (hashP k (keyI k) (strL s))) ∧ Below w.heap.size w w' := by
  have kc := conv_is w s
  have C := Lib.hid (rsum_run k _ (strL s) (Lib.bytesWorld w 5 s) (by rw [strL_len]; exact hl) (conv_rd w s hl))
  have B0 := Lib.hid (conv_below w s)
  go_enter Try.func12, Try.ntmps12
  go_wp2_with fail
  refine C.out.mono ?_
  rintro e w2 ⟨rfl, b⟩
  have B := Lib.hid (bt B0.out b)
  clear b C kc
  go_wp2_with fail
  go_ret
  exact ⟨rfl, B.out⟩

theorem ex_pair : hashP 506097522914230528 1084818905618843912 [0, 1, 2, 3, 4, 5, 6, 7, 8, 9, 10, 11, 12, 13, 14] = 11613035633349379557 := by decide +kernel
theorem ex15 (w : World) : RdB (w.alloc (.cells #[.int .u8 0, .int .u8 1, .int .u8 2, .int .u8 3, .int .u8 4, .int .u8 5, .int .u8 6, .int .u8 7, .int .u8 8, .int .u8 9, .int .u8 10, .int .u8 11, .int .u8 12, .int .u8 13, .int .u8 14] 5)) (.slice (some ⟨w.heap.size, 0, none⟩) 15 15) [0, 1, 2, 3, 4, 5, 6, 7, 8, 9, 10, 11, 12, 13, 14] :=
  lit_rd w [0, 1, 2, 3, 4, 5, 6, 7, 8, 9, 10, 11, 12, 13, 14] w.heap.size 15 rfl rfl (by simp)
theorem ex2 (w : World) : RdB (w.alloc (.cells #[.int .u8 97, .int .u8 98] 5)) (.slice (some ⟨w.heap.size, 0, none⟩) 2 2) [97, 98] :=
  lit_rd w [97, 98] w.heap.size 2 rfl rfl (by simp)
theorem alloc_below (w : World) (o : Obj) : Below w.heap.size w (w.alloc o) := (Below.refl _ w).alloc (Nat.le_refl _) o
/-- The same value wherever the bytes lie. -/
def Sums (l : List UInt8) (s : Int) : Prop := s = hashP 7 (keyI 7) l

set_option maxHeartbeats 4000000 in
set_option maxRecDepth 10000 in
theorem awake_run (w : World) : Calls Try.prog 8 #[] w fun e w' => e = .returned (.bool true) ∧ Below w.heap.size w w' := by
  have C1 := Lib.hid (fun W => pair_run 506097522914230528 1084818905618843912 _ _ _ (by simp) (ex15 W))
  rw [ex_pair] at C1
  obtain ⟨s, hs⟩ : ∃ s, s = hashP 7 (keyI 7) [97, 98] := ⟨_, rfl⟩
  obtain ⟨z, hz⟩ : ∃ z, z = hashP 7 (keyI 7) [] := ⟨_, rfl⟩
  have C2 := Lib.hid (fun W => sum_run 7 _ _ _ (by simp) (ex2 W))
  have C3 := Lib.hid (fun W => rsum_run 7 _ _ _ (by simp) (ex2 W))
  have C4 := Lib.hid (fun W => derive_run 7 ⟨#[97, 98]⟩ W (by decide))
  have C5 := Lib.hid (fun W => chain_run 7 (.slice none 0 0) [] W (by simp) (rdB_nil W))
  have C6 := Lib.hid (fun W => sum_run 7 (.slice none 0 0) [] W (by simp) (rdB_nil W))
  rw [show strL ⟨#[97, 98]⟩ = [97, 98] from rfl] at C4
  rw [← hs] at C2 C3 C4
  rw [← hz] at C5 C6
  clear hs hz
  go_enter Try.func8, Try.ntmps8
  go_wp2_with fail
  refine (C1.out _).mono ?_
  rintro e w1 ⟨rfl, b⟩
  have B1 := Lib.hid (bt (alloc_below _ _) b)
  clear b C1
  go_wp2_with fail
  refine (C2.out _).mono ?_
  rintro e w2 ⟨rfl, b⟩
  have B2 := Lib.hid (bt B1.out (bt (alloc_below _ _) b))
  clear b B1
  go_wp2_with fail
  refine (C3.out _).mono ?_
  rintro e w3 ⟨rfl, b⟩
  have B3 := Lib.hid (bt B2.out (bt (alloc_below _ _) b))
  clear b B2 C3
  go_wp2_with fail
  refine (C4.out _).mono ?_
  rintro e w4 ⟨rfl, b⟩
  have B4 := Lib.hid (bt B3.out b)
  clear b B3 C4
  go_wp2_with fail
  refine (C2.out _).mono ?_
  rintro e w5 ⟨rfl, b⟩
  have B5 := Lib.hid (bt B4.out (bt (alloc_below _ _) b))
  clear b B4 C2
  go_wp2_with fail
  refine (C5.out _).mono ?_
  rintro e w6 ⟨rfl, b⟩
  have B6 := Lib.hid (bt B5.out b)
  clear b B5 C5
  go_wp2_with fail
  refine (C6.out _).mono ?_
  rintro e w7 ⟨rfl, b⟩
  have B7 := Lib.hid (bt B6.out b)
  clear b B6 C6
  go_wp2_with fail
  go_ret
  exact ⟨rfl, B7.out⟩
end Go.Proofs.Ytoalhgbdekbklaa
