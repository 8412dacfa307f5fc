/-
  The notation of an amount: what Format returns.
-/
import Derived.Test.YtjjhdbodjcffaaaDoorMonK
import Derived.Lib.ItoaLen
namespace Go.Proofs.YtjjhdbodjcffaaaDoor
open Go.RowKit
open IntWalk

/-- The decimal numeral. -/
def dec (u : Nat) : ByteArray := ⟨(Lib.decDigits u).toArray⟩
theorem dec_size (u : Nat) : (dec u).size = Lib.nDigits u := by
  show (Lib.decDigits u).toArray.size = _
  rw [List.size_toArray, Lib.decDigits_length]

/-- The notation of an amount, out of its parts. -/
def fmtAB (n : Int) (cur A B : ByteArray) : ByteArray :=
  if n < 0 then { data := #[45] } ++ (A ++ { data := #[46] } ++ B.extract 1 4 ++ { data := #[32] } ++ cur) else A ++ { data := #[46] } ++ B.extract 1 4 ++ { data := #[32] } ++ cur
theorem si_is {a b : ByteArray} {k : Int} (h : a = b) : Ending.returned (.tuple #[.string a, .int .i64 k]) = .returned (.tuple #[.string b, .int .i64 k]) := by rw [h]

set_option maxHeartbeats 1000000 in
set_option maxRecDepth 10000 in
theorem format_walk (n : Int) (cur A B : ByteArray) (w : World) (n0 : -9223372036854775808 ≤ n) (n1 : n ≤ 9223372036854775807) (hT : TabP w) (hc : curB cur = true)
    (hA : A.size ≤ 20) (hB : B.size = 4)
    (HA : Hid (∀ W, TabP W → Calls Tryd.prog 38 #[.int .u64 (ab n / 1000), .int .i64 10] W fun e w' => e = .returned (.string A) ∧ Below W.heap.size W w'))
    (HB : Hid (∀ W, TabP W → Calls Tryd.prog 38 #[.int .u64 (1000 + ab n % 1000), .int .i64 10] W fun e w' => e = .returned (.string B) ∧ Below W.heap.size W w')) :
    Calls Tryd.prog 21 #[.int .i64 n, .string cur] w fun e w' => e = .returned (.tuple #[.string (fmtAB n cur A B), .int .i64 0]) ∧ Below w.heap.size w w' := by
  obtain ⟨a0, a1⟩ := ab_bd n n0 n1
  have hs := curB_size hc
  have CC := Lib.hid (fun W : World => cur_run cur W)
  rw [hc] at CC
  have HT := Lib.hid hT
  clear hT hc
  go_enter Tryd.func21, Tryd.ntmps21
  go_upto_region 4 with (first | (go_at_call 37; refine (CC.out _).mono ?_; rintro e w1 ⟨rfl, g1⟩; have G1 := Lib.hid g1; clear g1) | (go_at_call 26; refine (mag_run _ _ (by omega) (by omega)).mono ?_; rintro e w2 ⟨rfl, rfl⟩))
  go_wp2_with (first | (go_at_call 38; refine (HA.out _ (HT.out.below G1.out)).mono ?_; rintro e w3 ⟨rfl, g3⟩; have G3 := Lib.hid g3; clear g3) | fail)
  refine (HB.out _ ((HT.out.below G1.out).below G3.out)).mono ?_
  rintro e w4 ⟨rfl, g4⟩
  have G4 := Lib.hid (G1.out.trans ((G3.out.mono G1.out.size).trans (g4.mono (Nat.le_trans G1.out.size G3.out.size))))
  clear g4
  by_cases hn : n < 0
  · have E := Lib.hid (show ({ data := #[45] } ++ (A ++ { data := #[46] } ++ B.extract 1 4 ++ { data := #[32] } ++ cur) : ByteArray) = fmtAB n cur A B by unfold fmtAB; rw [if_pos hn])
    go_wp2
    go_ret2
    exact ⟨si_is E.out, G4.out⟩
  · have E := Lib.hid (show (A ++ { data := #[46] } ++ B.extract 1 4 ++ { data := #[32] } ++ cur : ByteArray) = fmtAB n cur A B by unfold fmtAB; rw [if_neg hn])
    go_wp2
    go_ret2
    exact ⟨si_is E.out, G4.out⟩

theorem four_digits (k : Nat) (h0 : 1000 ≤ k) (h1 : k < 2000) : (dec k).size = 4 := by
  rw [dec_size, Lib.nDigits_unique 3 k (by omega) (by omega)]
theorem dec_le (k : Nat) (h : k < 18446744073709551616) : (dec k).size ≤ 20 := by rw [dec_size]; exact Lib.nDigits_le20 k h
/-- The notation of an amount. -/
def fmtS (n : Int) (cur : ByteArray) : ByteArray := fmtAB n cur (dec (ab n / 1000).toNat) (dec (1000 + ab n % 1000).toNat)
theorem fu_dec (u : Int) (h0 : 0 ≤ u) (h1 : u ≤ 18446744073709551615) (w : World) (hT : TabP w) :
    Calls Tryd.prog 38 #[.int .u64 u, .int .i64 10] w fun e w' => e = .returned (.string (dec u.toNat)) ∧ Below w.heap.size w w' := by
  have := fu_run u.toNat (by omega) w hT
  rw [Int.toNat_of_nonneg h0] at this
  exact this

theorem format_ok (n : Int) (cur : ByteArray) (w : World) (n0 : -9223372036854775808 ≤ n) (n1 : n ≤ 9223372036854775807) (hT : TabP w) (hc : curB cur = true) :
    Calls Tryd.prog 21 #[.int .i64 n, .string cur] w fun e w' => e = .returned (.tuple #[.string (fmtS n cur), .int .i64 0]) ∧ Below w.heap.size w w' := by
  obtain ⟨a0, a1⟩ := ab_bd n n0 n1
  exact format_walk n cur _ _ w n0 n1 hT hc (dec_le _ (by omega)) (four_digits _ (by omega) (by omega)) (Lib.hid (fun W hW => fu_dec _ (by omega) (by omega) W hW)) (Lib.hid (fun W hW => fu_dec _ (by omega) (by omega) W hW))

set_option maxHeartbeats 1000000 in
theorem format_bad (n : Int) (cur : ByteArray) (w : World) (hc : curB cur = false) :
    Calls Tryd.prog 21 #[.int .i64 n, .string cur] w fun e w' => e = .returned (.tuple #[.string ⟨#[]⟩, .int .i64 21]) ∧ Below w.heap.size w w' := by
  have CC := Lib.hid (fun W : World => cur_run cur W)
  rw [hc] at CC
  go_enter Tryd.func21, Tryd.ntmps21
  go_wp2_with (go_at_call 37; refine (CC.out _).mono ?_; rintro e w1 ⟨rfl, g1⟩; have G1 := Lib.hid g1; clear g1)
  go_ret2
  exact ⟨rfl, G1.out⟩
end Go.Proofs.YtjjhdbodjcffaaaDoor
