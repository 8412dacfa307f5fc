/-
  What the reference's Format returns.
-/
import Derived.Test.YtjjhdbodjcffaaaDoorMonM
import Derived.Deep.RegionHeld3
namespace Go.Proofs.YtjjhdbodjcffaaaDoor
open Go.RowKit
open IntWalk

theorem kf_draws {w X : World} (h : Below w.heap.size w X ∧ w.heap.size ≤ X.heap.size) (q : Nat) : Below w.heap.size w (X.drewN q).drew ∧ w.heap.size ≤ (X.drewN q).drew.heap.size := by
  have e : ∀ q, Below w.heap.size w (X.drewN q) := fun q => by
    induction q with
    | zero => exact h.1
    | succ n ih => exact ih.drew
  exact ⟨(e q).drew, (e q).drew.size⟩
theorem kf_drew {w X : World} (h : Below w.heap.size w X ∧ w.heap.size ≤ X.heap.size) : Below w.heap.size w X.drew ∧ w.heap.size ≤ X.drew.heap.size := ⟨h.1.drew, h.2⟩
theorem kf_call {w X Z : World} (h : Below w.heap.size w X ∧ w.heap.size ≤ X.heap.size) (g : Below X.heap.size X Z) : Below w.heap.size w Z ∧ w.heap.size ≤ Z.heap.size := ⟨h.1.trans (g.mono h.2), Nat.le_trans h.2 g.size⟩

set_option maxHeartbeats 1000000 in
set_option maxRecDepth 10000 in
theorem rformat_walk (n : Int) (cur A B : ByteArray) (w : World) (n0 : -9223372036854775808 ≤ n) (n1 : n ≤ 9223372036854775807) (hc : curB cur = true)
    (hA : A.size ≤ 20) (hB : B.size = 4)
    (HA : Hid (∀ W, Calls Tryd.prog 40 #[.int .u64 (IntKind.u64.wrap ((ab n).tdiv 1000))] W fun e w' => e = .returned (.string A) ∧ Below W.heap.size W w'))
    (HB : Hid (∀ W, Calls Tryd.prog 40 #[.int .u64 (ab n % 1000 + 1000)] W fun e w' => e = .returned (.string B) ∧ Below W.heap.size W w')) :
    Calls Tryd.prog 22 #[.int .i64 n, .string cur] w fun e w' => e = .returned (.tuple #[.string (fmtAB n cur A B), .int .i64 0]) ∧ Below w.heap.size w w' := by
  obtain ⟨a0, a1⟩ := ab_bd n n0 n1
  have hs := curB_size hc
  have CC := Lib.hid (fun W : World => rcur_run cur W (by omega))
  rw [hc] at CC
  clear hc
  go_enter Tryd.func22, Tryd.ntmps22
  go_upto_region 5 with (first | (go_at_call 39; refine (CC.out _).mono ?_; rintro e w1 ⟨rfl, rfl⟩) | (go_at_call 31; refine (rmag_run _ _ (by omega) (by omega)).mono ?_; rintro e w2 ⟨rfl, rfl⟩) | (go_at_call 40; refine (HB.out _).mono ?_; rintro e w3 ⟨rfl, g3⟩))
  have S0 : Below w.heap.size w w3 ∧ w.heap.size ≤ w3.heap.size := ⟨g3, g3.size⟩
  clear g3
  go_cut [8] (fun t wx => t = .string (A ++ { data := #[46] } ++ B.extract 1 4 ++ { data := #[32] } ++ cur) ∧ Below w.heap.size w wx)
  case first =>
    have c1 : ∀ W, (Op.stringOp .add A { data := #[46] }).run Tryd.prog W = .ok (.string (A ++ { data := #[46] })) W := fun W => run_string_add_sum W _ _ (by show A.size + 1 ≤ _; omega)
    have c2 : ∀ W, (Op.stringOp .add (A ++ { data := #[46] }) (B.extract 1 4)).run Tryd.prog W = .ok (.string (A ++ { data := #[46] } ++ B.extract 1 4)) W := fun W => run_string_add_sum W _ _ (by rw [ByteArray.size_append, ByteArray.size_extract]; show A.size + 1 + _ ≤ _; omega)
    have c3 : ∀ W, (Op.stringOp .add (A ++ { data := #[46] } ++ B.extract 1 4) { data := #[32] }).run Tryd.prog W = .ok (.string (A ++ { data := #[46] } ++ B.extract 1 4 ++ { data := #[32] })) W := fun W => run_string_add_sum W _ _ (by rw [ByteArray.size_append, ByteArray.size_append, ByteArray.size_extract]; show A.size + 1 + _ + 1 ≤ _; omega)
    have c4 : ∀ W, (Op.stringOp .add (A ++ { data := #[46] } ++ B.extract 1 4 ++ { data := #[32] }) cur).run Tryd.prog W = .ok (.string (A ++ { data := #[46] } ++ B.extract 1 4 ++ { data := #[32] } ++ cur)) W := fun W => run_string_add_sum W _ _ (by rw [ByteArray.size_append, ByteArray.size_append, ByteArray.size_append, ByteArray.size_extract]; show A.size + 1 + _ + 1 + _ ≤ _; omega)
    go_region_held3 (fun X => Below w.heap.size w X ∧ w.heap.size ≤ X.heap.size) (first | assumption | exact kf_draws S0 _ | exact kf_drew (by assumption) | exact kf_call (by assumption) (by assumption))
      (first | (go_at_call 40; refine (HA.out _).mono ?_; rintro e w5 ⟨rfl, g5⟩))
    go_wp2_with fail
    go_meet
    case rel => exact ⟨rfl, And.left (by assumption)⟩
  case rest =>
    obtain ⟨rfl, h5⟩ := hcut
    have H5 := Lib.hid h5
    clear h5
    by_cases hn : n < 0
    · have E := Lib.hid (show ({ data := #[45] } ++ (A ++ { data := #[46] } ++ B.extract 1 4 ++ { data := #[32] } ++ cur) : ByteArray) = fmtAB n cur A B by unfold fmtAB; rw [if_pos hn])
      go_wp2
      go_ret2
      exact ⟨si_is E.out, H5.out⟩
    · have E := Lib.hid (show (A ++ { data := #[46] } ++ B.extract 1 4 ++ { data := #[32] } ++ cur : ByteArray) = fmtAB n cur A B by unfold fmtAB; rw [if_neg hn])
      go_wp2
      go_ret2
      exact ⟨si_is E.out, H5.out⟩

theorem dig_dec (u : Int) (h0 : 0 ≤ u) (h1 : u ≤ 18446744073709551615) (w : World) :
    Calls Tryd.prog 40 #[.int .u64 u] w fun e w' => e = .returned (.string (dec u.toNat)) ∧ Below w.heap.size w w' := by
  have := digits_run u.toNat (by omega) w
  rw [Int.toNat_of_nonneg h0] at this
  exact this
theorem quo_word (x : Int) (h0 : 0 ≤ x) (h1 : x ≤ 18446744073709551615) : IntKind.u64.wrap (x.tdiv 1000) = x / 1000 := by
  rw [Int.tdiv_eq_ediv_of_nonneg h0, IntKind.wrap_u64]; omega
theorem rformat_ok (n : Int) (cur : ByteArray) (w : World) (n0 : -9223372036854775808 ≤ n) (n1 : n ≤ 9223372036854775807) (hc : curB cur = true) :
    Calls Tryd.prog 22 #[.int .i64 n, .string cur] w fun e w' => e = .returned (.tuple #[.string (fmtS n cur), .int .i64 0]) ∧ Below w.heap.size w w' := by
  obtain ⟨a0, a1⟩ := ab_bd n n0 n1
  refine rformat_walk n cur _ _ w n0 n1 hc (dec_le (ab n / 1000).toNat (by omega)) (four_digits (1000 + ab n % 1000).toNat (by omega) (by omega)) (Lib.hid (fun W => ?_)) (Lib.hid (fun W => ?_))
  · rw [quo_word _ a0 (by omega)]; exact dig_dec _ (by omega) (by omega) W
  · rw [Int.add_comm]; exact dig_dec _ (by omega) (by omega) W

set_option maxHeartbeats 1000000 in
theorem rformat_bad (n : Int) (cur : ByteArray) (w : World) (hl : cur.size ≤ 2000000) (hc : curB cur = false) :
    Calls Tryd.prog 22 #[.int .i64 n, .string cur] w fun e w' => e = .returned (.tuple #[.string ⟨#[]⟩, .int .i64 21]) ∧ w = w' := by
  have CC := Lib.hid (fun W : World => rcur_run cur W hl)
  rw [hc] at CC
  go_enter Tryd.func22, Tryd.ntmps22
  go_wp2_with (go_at_call 39; refine (CC.out _).mono ?_; rintro e w1 ⟨rfl, rfl⟩)
  go_ret2
  exact ⟨rfl, rfl⟩
end Go.Proofs.YtjjhdbodjcffaaaDoor
