/-
  What the reference's Parse returns of a notation.
-/
import Derived.Test.YtjjhdbodjcffaaaDoorMonAD
import Derived.Deep.QuietTactic
import Derived.BigQuiet
namespace Go.Proofs.YtjjhdbodjcffaaaDoor
open Go.RowKit
open IntWalk

theorem trip_is {a b : Int} {c d : ByteArray} {k l : Int} (h : a = b) (h2 : c = d) (h3 : k = l) : Ending.returned (.tuple #[.int .i64 a, .string c, .int .i64 k]) = .returned (.tuple #[.int .i64 b, .string d, .int .i64 l]) := by rw [h, h2, h3]
theorem acc_step (t : ByteArray) (k : Nat) (hk : k < t.size) : accP t.data.toList (k + 1) = if k + 8 = t.size then accP t.data.toList k else 10 * accP t.data.toList k + (t[k].toNat - 48) := by
  have e : t.data.toList.getD k 0 = t[k] := by
    have hk2 : k < t.data.size := hk
    rw [List.getD_eq_getElem?_getD, Array.getElem?_toList, Array.getElem?_eq_getElem hk2]; rfl
  rw [accP, show t.data.toList.length = t.size by simp, e]

set_option maxHeartbeats 4000000 in
set_option maxRecDepth 10000 in
theorem rparse_yes_n (s t : ByteArray) (v : Int) (w : World) (hs : s.size ≤ 2000000) (h0 : 0 < s.size) (h45 : s[0].toNat = 45) (hT : t = s.extract 1 s.size) (hv : I64 v) (hsg : v < 0) (hg : Good t v) (hf : fmtS v (t.extract (t.size - 3) t.size) = s) :
    Calls Tryd.prog 24 #[.string s] w fun e w' => e = .returned (.tuple #[.int .i64 v, .string (t.extract (t.size - 3) t.size), .int .i64 0]) ∧ Below w.heap.size w w' := by
  have ht : t.size ≤ 2000000 := by rw [hT]; simp [ByteArray.size_extract]; omega
  have ET := Lib.hid (show s.extract 1 s.size = t from hT.symm)
  clear hT
  have hx0 : ∀ W, (Instr.index 9 (.string s) (.int .i64 0)).run Tryd.prog W = .ok (.int .u8 ((s[0]'h0).toNat : Int)) W := fun W => by
    rw [run_index_string W 9 s .i64 _ Tryd.underlying9, dif_pos ⟨by omega, by omega⟩]
    rfl
  obtain ⟨z, hz⟩ : ∃ z, z = s[0]'h0 := ⟨_, rfl⟩
  rw [← hz] at hx0 h45
  clear hz
  have CC := Lib.hid (fun W : World => rcur_run (t.extract (t.size - 3) t.size) W (by rw [ByteArray.size_extract]; omega))
  rw [hg.cur] at CC
  have c1 : ¬ t.size < 9 := by have := hg.lo; omega
  have c2 : ¬ 24 < t.size := by have := hg.hi; omega
  obtain ⟨ab0, ab1⟩ := ab_bd v hv.1 hv.2
  have CF := Lib.hid (fun W => rformat_ok v (t.extract (t.size - 3) t.size) W hv.1 hv.2 hg.cur)
  rw [hf] at CF
  have CS := Lib.hid (fun W : World => rsigned_run true 0 (ab v) W ab0 (by omega))
  have HF : fitsI true 0 (ab v) = true ∧ v = (if true = true then -(ab v) else ab v) := by
    obtain ⟨v0, v1⟩ := hv
    unfold fitsI ab
    rw [if_pos rfl, if_pos rfl, if_pos hsg]; simp; omega
  rw [HF.1] at CS
  have HV := Lib.hid HF.2
  have HG := Lib.hid hg
  obtain ⟨A, hA⟩ : ∃ A, A = ab v := ⟨_, rfl⟩
  rw [← hA] at CS HV ab0 ab1
  have HA := Lib.hid hA
  clear HF hg hf hsg hA hv
  obtain ⟨E, hE⟩ : ∃ E, E = t.extract (t.size - 3) t.size := ⟨_, rfl⟩
  rw [← hE] at CC CF ⊢
  have HE := Lib.hid hE.symm
  clear hE
  go_enter Tryd.func24, Tryd.ntmps24
  go_upto_region 6 with fail
  rw [ET.out]
  go_upto_region 10 with (go_at_call 39; rw [HE.out]; refine (CC.out _).mono ?_; rintro e w1 ⟨rfl, rfl⟩)
  clear hx0 h45
  go_loop [8, 9] (fun n i => ∃ k : Nat, i = .int .i64 k ∧ k + 4 ≤ t.size ∧ n = .int .u64 (accP t.data.toList k : Nat)) (fun _ i => t.size - (intOf i).toNat)
  case atStart => exact ⟨0, rfl, by omega, rfl⟩
  case round =>
    obtain ⟨k, rfl, hk, rfl⟩ := hrel
    have hacc := HG.out.acc k hk
    have hA1 : (ab v).toNat ≤ 9223372036854775808 := by rw [← HA.out]; omega
    by_cases hlt : k + 4 < t.size
    · have hx : ∀ W, (Instr.index 9 (.string t) (.int .i64 (k : Int))).run Tryd.prog W = .ok (.int .u8 ((t[k]'(by omega)).toNat : Int)) W := fun W => by
        rw [run_index_string W 9 t .i64 _ Tryd.underlying9, dif_pos ⟨by omega, by omega⟩]
        rfl
      have hst : accP t.data.toList (k + 1) = if k + 8 = t.size then accP t.data.toList k else 10 * accP t.data.toList k + ((t[k]'(by omega)).toNat - 48) := acc_step t k (by omega)
      obtain ⟨g1, g2⟩ := HG.out.at_ k (by omega) (by omega)
      have hacc2 := HG.out.acc (k + 1) (by omega)
      obtain ⟨y, hy⟩ : ∃ y : Nat, y = (t[k]'(by omega)).toNat := ⟨_, rfl⟩
      rw [← hy] at hx hst g1 g2
      clear hy
      obtain ⟨X, hX⟩ : ∃ X, X = accP t.data.toList k := ⟨_, rfl⟩
      rw [← hX] at hst hacc ⊢
      clear hX
      by_cases h8 : k + 8 = t.size
      · have e8 : ((k : Int) == (t.size : Int) - 8) = true := eq_t _ _ (by omega)
        rw [if_pos h8] at hst
        obtain rfl : y = 46 := g1 h8
        have HST := Lib.hid hst
        clear hst g1 g2 hacc2
        go_wp2
        go_round
        case rel => exact ⟨k + 1, by go_num, by omega, by rw [HST.out]⟩
        case measure => simp [intOf]; omega
      · have e8 : ((k : Int) == (t.size : Int) - 8) = false := eq_f _ _ (by omega)
        rw [if_neg h8] at hst
        obtain ⟨d1, d2⟩ := g2 h8
        rw [hst] at hacc2
        have HST := Lib.hid hst
        clear hst g1 g2
        go_wp2
        go_round
        case rel => exact ⟨k + 1, by go_num, by omega, u_is (by rw [HST.out]; omega)⟩
        case measure => simp [intOf]; omega
    · have e : ((accP t.data.toList k : Nat) : Int) = A := by
        have h2 := HG.out.all
        rw [show t.size - 4 = k by omega] at h2
        rw [h2, HA.out, ← HA.out, Int.toNat_of_nonneg ab0]
      rw [e]
      clear e hacc hA1
      have hee : (s.toList == s.toList) = true := by simp
      go_wp2_with fail
      refine (CS.out _).mono ?_
      rintro e w1 ⟨⟨V1, rfl, hv1⟩, rfl⟩
      obtain rfl : V1 = v := (hv1 trivial).trans HV.out.symm
      clear hv1
      go_wp2_with fail
      rw [HE.out]
      refine (CF.out _).mono ?_
      rintro e w2 ⟨rfl, b2⟩
      have B2 := Lib.hid b2
      clear b2
      go_wp2
      go_quiet (fail)
      go_wp2
      go_ret3
      exact ⟨trip_is rfl HE.out rfl, b_draws B2.out _⟩

set_option maxHeartbeats 4000000 in
set_option maxRecDepth 10000 in
theorem rparse_yes_p (s t : ByteArray) (v : Int) (w : World) (hs : s.size ≤ 2000000) (h0 : 0 < s.size) (h45 : s[0].toNat ≠ 45) (hT : t = s) (hv : I64 v) (hsg : 0 ≤ v) (hg : Good t v) (hf : fmtS v (t.extract (t.size - 3) t.size) = s) :
    Calls Tryd.prog 24 #[.string s] w fun e w' => e = .returned (.tuple #[.int .i64 v, .string (t.extract (t.size - 3) t.size), .int .i64 0]) ∧ Below w.heap.size w w' := by
  have ht : t.size ≤ 2000000 := by rw [hT]; exact hs
  subst hT
  have hx0 : ∀ W, (Instr.index 9 (.string t) (.int .i64 0)).run Tryd.prog W = .ok (.int .u8 ((t[0]'h0).toNat : Int)) W := fun W => by
    rw [run_index_string W 9 t .i64 _ Tryd.underlying9, dif_pos ⟨by omega, by omega⟩]
    rfl
  obtain ⟨z, hz⟩ : ∃ z, z = t[0]'h0 := ⟨_, rfl⟩
  rw [← hz] at hx0 h45
  clear hz
  have CC := Lib.hid (fun W : World => rcur_run (t.extract (t.size - 3) t.size) W (by rw [ByteArray.size_extract]; omega))
  rw [hg.cur] at CC
  have c1 : ¬ t.size < 9 := by have := hg.lo; omega
  have c2 : ¬ 24 < t.size := by have := hg.hi; omega
  obtain ⟨ab0, ab1⟩ := ab_bd v hv.1 hv.2
  have CF := Lib.hid (fun W => rformat_ok v (t.extract (t.size - 3) t.size) W hv.1 hv.2 hg.cur)
  rw [hf] at CF
  have CS := Lib.hid (fun W : World => rsigned_run false 0 (ab v) W ab0 (by omega))
  have HF : fitsI false 0 (ab v) = true ∧ v = (if false = true then -(ab v) else ab v) := by
    obtain ⟨v0, v1⟩ := hv
    unfold fitsI ab
    simp only [Bool.false_eq_true, if_false]; rw [if_neg (show ¬ v < 0 by omega)]; simp; omega
  rw [HF.1] at CS
  have HV := Lib.hid HF.2
  have HG := Lib.hid hg
  obtain ⟨A, hA⟩ : ∃ A, A = ab v := ⟨_, rfl⟩
  rw [← hA] at CS HV ab0 ab1
  have HA := Lib.hid hA
  clear HF hg hf hsg hA hv
  obtain ⟨E, hE⟩ : ∃ E, E = t.extract (t.size - 3) t.size := ⟨_, rfl⟩
  rw [← hE] at CC CF ⊢
  have HE := Lib.hid hE.symm
  clear hE
  go_enter Tryd.func24, Tryd.ntmps24
  go_upto_region 6 with fail
  go_upto_region 10 with (go_at_call 39; rw [HE.out]; refine (CC.out _).mono ?_; rintro e w1 ⟨rfl, rfl⟩)
  clear hx0 h45
  go_loop [8, 9] (fun n i => ∃ k : Nat, i = .int .i64 k ∧ k + 4 ≤ t.size ∧ n = .int .u64 (accP t.data.toList k : Nat)) (fun _ i => t.size - (intOf i).toNat)
  case atStart => exact ⟨0, rfl, by omega, rfl⟩
  case round =>
    obtain ⟨k, rfl, hk, rfl⟩ := hrel
    have hacc := HG.out.acc k hk
    have hA1 : (ab v).toNat ≤ 9223372036854775808 := by rw [← HA.out]; omega
    by_cases hlt : k + 4 < t.size
    · have hx : ∀ W, (Instr.index 9 (.string t) (.int .i64 (k : Int))).run Tryd.prog W = .ok (.int .u8 ((t[k]'(by omega)).toNat : Int)) W := fun W => by
        rw [run_index_string W 9 t .i64 _ Tryd.underlying9, dif_pos ⟨by omega, by omega⟩]
        rfl
      have hst : accP t.data.toList (k + 1) = if k + 8 = t.size then accP t.data.toList k else 10 * accP t.data.toList k + ((t[k]'(by omega)).toNat - 48) := acc_step t k (by omega)
      obtain ⟨g1, g2⟩ := HG.out.at_ k (by omega) (by omega)
      have hacc2 := HG.out.acc (k + 1) (by omega)
      obtain ⟨y, hy⟩ : ∃ y : Nat, y = (t[k]'(by omega)).toNat := ⟨_, rfl⟩
      rw [← hy] at hx hst g1 g2
      clear hy
      obtain ⟨X, hX⟩ : ∃ X, X = accP t.data.toList k := ⟨_, rfl⟩
      rw [← hX] at hst hacc ⊢
      clear hX
      by_cases h8 : k + 8 = t.size
      · have e8 : ((k : Int) == (t.size : Int) - 8) = true := eq_t _ _ (by omega)
        rw [if_pos h8] at hst
        obtain rfl : y = 46 := g1 h8
        have HST := Lib.hid hst
        clear hst g1 g2 hacc2
        go_wp2
        go_round
        case rel => exact ⟨k + 1, by go_num, by omega, by rw [HST.out]⟩
        case measure => simp [intOf]; omega
      · have e8 : ((k : Int) == (t.size : Int) - 8) = false := eq_f _ _ (by omega)
        rw [if_neg h8] at hst
        obtain ⟨d1, d2⟩ := g2 h8
        rw [hst] at hacc2
        have HST := Lib.hid hst
        clear hst g1 g2
        go_wp2
        go_round
        case rel => exact ⟨k + 1, by go_num, by omega, u_is (by rw [HST.out]; omega)⟩
        case measure => simp [intOf]; omega
    · have e : ((accP t.data.toList k : Nat) : Int) = A := by
        have h2 := HG.out.all
        rw [show t.size - 4 = k by omega] at h2
        rw [h2, HA.out, ← HA.out, Int.toNat_of_nonneg ab0]
      rw [e]
      clear e hacc hA1
      have hee : (t.toList == t.toList) = true := by simp
      go_wp2_with fail
      refine (CS.out _).mono ?_
      rintro e w1 ⟨⟨V1, rfl, hv1⟩, rfl⟩
      obtain rfl : V1 = v := (hv1 trivial).trans HV.out.symm
      clear hv1
      go_wp2_with fail
      rw [HE.out]
      refine (CF.out _).mono ?_
      rintro e w2 ⟨rfl, b2⟩
      have B2 := Lib.hid b2
      clear b2
      go_wp2
      go_quiet (fail)
      go_wp2
      go_ret3
      exact ⟨trip_is rfl HE.out rfl, b_draws B2.out _⟩
end Go.Proofs.YtjjhdbodjcffaaaDoor
