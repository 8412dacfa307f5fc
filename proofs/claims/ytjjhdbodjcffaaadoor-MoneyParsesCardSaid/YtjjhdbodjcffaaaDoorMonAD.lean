/-
  What the reference's Parse returns.
-/
import Derived.Test.YtjjhdbodjcffaaaDoorMonAB
import Derived.Deep.QuietTactic
import Derived.BigQuiet
namespace Go.Proofs.YtjjhdbodjcffaaaDoor
open Go.RowKit
open IntWalk

/-- The number that has been read ahead of a place. -/
def accP (t : List UInt8) : Nat → Nat
  | 0 => 0
  | i + 1 => if i + 8 = t.length then accP t i else 10 * accP t i + ((t.getD i 0).toNat - 48)
theorem acc_one (B F R : List UInt8) (hF : F.length = 3) (hR : R.length = 4) : ∀ i, i ≤ B.length → accP (B ++ (46 :: (F ++ R))) i = val (B.take i) 0 := by
  intro i
  induction i with
  | zero => intro _; simp [accP, val]
  | succ i ih =>
    intro hi
    have e : (B ++ (46 :: (F ++ R))).getD i 0 = B[i]'(by omega) := by
      rw [List.getD_eq_getElem?_getD, List.getElem?_append_left (by omega), List.getElem?_eq_getElem (by omega)]; rfl
    rw [accP, if_neg (by simp only [List.length_append, List.length_cons, hF, hR] <;> omega), ih (by omega), e, List.take_succ_eq_append_getElem (by omega), val_app, val_cons]
    rfl
theorem acc_two (B F R : List UInt8) (hF : F.length = 3) (hR : R.length = 4) : ∀ j, j ≤ 3 → accP (B ++ (46 :: (F ++ R))) (B.length + 1 + j) = val (F.take j) (val B 0) := by
  intro j
  induction j with
  | zero =>
    intro _
    show accP _ (B.length + 1) = _
    rw [accP, if_pos (by simp only [List.length_append, List.length_cons, hF, hR] <;> omega), acc_one B F R hF hR _ (Nat.le_refl _), List.take_length]
    simp [val]
  | succ j ih =>
    intro hj
    have e : (B ++ (46 :: (F ++ R))).getD (B.length + 1 + j) 0 = F[j]'(by omega) := by
      rw [List.getD_eq_getElem?_getD, List.getElem?_append_right (by omega), show B.length + 1 + j - B.length = j + 1 by omega, List.getElem?_cons_succ, List.getElem?_append_left (by omega), List.getElem?_eq_getElem (by omega)]; rfl
    show accP _ (B.length + 1 + j + 1) = _
    rw [accP, if_neg (by simp only [List.length_append, List.length_cons, hF, hR] <;> omega), ih (by omega), e, List.take_succ_eq_append_getElem (by omega), val_app, val_cons]
    rfl
theorem val_take (l : List UInt8) (i : Nat) (a : Nat) : val (l.take i) a ≤ val l a := by
  have : val l a = val (l.drop i) (val (l.take i) a) := by rw [← val_app, List.take_append_drop]
  rw [this]; exact val_ge _ _
theorem val_mono (l : List UInt8) : ∀ a b, a ≤ b → val l a ≤ val l b := by
  induction l with
  | nil => intro a b h; exact h
  | cons c l ih => intro a b h; rw [val_cons, val_cons]; exact ih _ _ (by omega)
/-- The string without its sign. -/
structure Good (t : ByteArray) (v : Int) : Prop where
  lo : 9 ≤ t.size
  hi : t.size ≤ 24
  cur : curB (t.extract (t.size - 3) t.size) = true
  at_ : ∀ k (hk : k < t.size), k + 4 < t.size → (k + 8 = t.size → t[k].toNat = 46) ∧ (k + 8 ≠ t.size → 48 ≤ t[k].toNat ∧ t[k].toNat ≤ 57)
  acc : ∀ k, k + 4 ≤ t.size → accP t.data.toList k ≤ (ab v).toNat
  all : accP t.data.toList (t.size - 4) = (ab v).toNat
theorem nd_le : ∀ (k u : Nat), u < 10 ^ (k + 1) → Lib.nDigits u ≤ k + 1
  | 0, u, h => by rw [Lib.nDigits_small (by simpa using h)]; exact Nat.le_refl _
  | k + 1, u, h => by
    by_cases h9 : u < 10
    · rw [Lib.nDigits_small h9]; omega
    · rw [Lib.nDigits_big h9]
      have := nd_le k (u / 10) (by rw [Nat.pow_succ] at h; omega)
      omega
theorem body_len (v : Int) (hv : I64 v) : (body v).length ≤ 16 := by
  obtain ⟨a0, a1⟩ := ab_bd v hv.1 hv.2
  unfold body
  rw [Lib.decDigits_length]
  exact nd_le 15 _ (by omega)
theorem good_of (t c : ByteArray) (v : Int) (hv : I64 v) (hc : curB c = true) (ht : t.data.toList = body v ++ (46 :: (frac v ++ (32 :: c.data.toList)))) : Good t v ∧ t.extract (t.size - 3) t.size = c := by
  have hcl : c.data.toList.length = 3 := by simpa using curB_size hc
  have hl := body_len v hv
  have hp := body_pos v
  have hs : t.size = (body v).length + 8 := by
    have : t.data.toList.length = t.size := by simp
    rw [← this, ht]
    simp only [List.length_append, List.length_cons, frac_len, hcl]
  have hx : t.extract (t.size - 3) t.size = c := by
    apply ByteArray.ext
    rw [← Array.toList_inj, Lib.extract_to_end, hs, ht]
    have e : body v ++ (46 :: (frac v ++ (32 :: c.data.toList))) = (body v ++ (46 :: (frac v ++ [32]))) ++ c.data.toList := by simp
    rw [e]
    apply List.drop_left'
    simp only [List.length_append, List.length_cons, frac_len, List.length_nil]; omega
  obtain ⟨a0, a1⟩ := ab_bd v hv.1 hv.2
  have hval : val (frac v) (val (body v) 0) = (ab v).toNat := by
    unfold body frac
    rw [dec_val, three_val _ _ (by omega)]; omega
  have hR : (32 :: c.data.toList).length = 4 := by rw [List.length_cons, hcl]
  have k1 := acc_one (body v) (frac v) (32 :: c.data.toList) (frac_len v) hR
  have k2 := acc_two (body v) (frac v) (32 :: c.data.toList) (frac_len v) hR
  rw [← ht] at k1 k2
  refine ⟨⟨by omega, by omega, by rw [hx]; exact hc, ?_, ?_, ?_⟩, hx⟩
  · intro k hk hk4
    have hg : t[k] = (t.data.toList)[k]'(by simpa using hk) := by simp [ByteArray.getElem_eq_getElem_data]
    have hg2 : some t[k] = (body v ++ (46 :: (frac v ++ (32 :: c.data.toList))))[k]? := by rw [hg, ← ht, List.getElem?_eq_getElem]
    refine ⟨fun h8 => ?_, fun h8 => ?_⟩
    · rw [List.getElem?_append_right (by omega), show k - (body v).length = 0 by omega] at hg2
      simp only [List.getElem?_cons_zero, Option.some.injEq] at hg2
      rw [hg2]; rfl
    · by_cases c1 : k < (body v).length
      · rw [List.getElem?_append_left c1] at hg2
        have hm : t[k] ∈ body v := List.mem_of_getElem? hg2.symm
        exact dec_digs _ _ hm
      · rw [List.getElem?_append_right (by omega), show k - (body v).length = (k - (body v).length - 1) + 1 by omega, List.getElem?_cons_succ, List.getElem?_append_left (by rw [frac_len]; omega)] at hg2
        have hm : t[k] ∈ frac v := List.mem_of_getElem? hg2.symm
        exact three_digs _ (by omega) _ hm
  · intro k hk
    by_cases c1 : k ≤ (body v).length
    · rw [k1 k c1, ← hval]
      exact Nat.le_trans (val_take _ _ _) (val_ge _ _)
    · have := k2 (k - (body v).length - 1) (by omega)
      rw [show (body v).length + 1 + (k - (body v).length - 1) = k by omega] at this
      rw [this, ← hval]
      exact val_take _ _ _
  · have := k2 3 (by omega)
    rw [show (body v).length + 1 + 3 = t.size - 4 by omega] at this
    rw [this, ← hval, show 3 = (frac v).length from rfl, List.take_length]

set_option maxHeartbeats 1000000 in
set_option maxRecDepth 10000 in
theorem rparse_none (w : World) :
    Calls Tryd.prog 24 #[.string ⟨#[]⟩] w fun e w' => e = parBad ∧ w = w' := by
  go_enter Tryd.func24, Tryd.ntmps24
  go_wp2
  go_ret3
  exact ⟨rfl, rfl⟩

set_option maxHeartbeats 4000000 in
set_option maxRecDepth 10000 in
theorem rparse_no_n (s t : ByteArray) (w : World) (hs : s.size ≤ 2000000) (h0 : 0 < s.size) (h45 : s[0].toNat = 45) (hT : t = s.extract 1 s.size) (hno : ∀ v, ¬ IsAm s v) :
    Calls Tryd.prog 24 #[.string s] w fun e w' => e = parBad ∧ Below w.heap.size w w' := by
  have ht : t.size ≤ 2000000 := by rw [hT]; simp [ByteArray.size_extract]; omega
  have ET := Lib.hid (show s.extract 1 s.size = t from hT.symm)
  clear hT
  have hx0 : ∀ W, (Instr.index 9 (.string s) (.int .i64 0)).run Tryd.prog W = .ok (.int .u8 ((s[0]'h0).toNat : Int)) W := fun W => by
    rw [run_index_string W 9 s .i64 _ Tryd.underlying9, dif_pos ⟨by omega, by omega⟩]
    rfl
  obtain ⟨z, hz⟩ : ∃ z, z = s[0]'h0 := ⟨_, rfl⟩
  rw [← hz] at hx0 h45
  clear hz
  have CC := Lib.hid (fun W : World => rcur_run (t.extract (t.size - 3) t.size) W (by rw [ByteArray.size_extract]; omega))
  have NO := Lib.hid hno
  clear hno
  by_cases c1 : t.size < 9
  · clear CC
    go_enter Tryd.func24, Tryd.ntmps24
    go_upto_region 6 with fail
    rw [ET.out]
    go_wp2
    go_ret3
    exact ⟨rfl, Below.refl _ _⟩
  by_cases c2 : 24 < t.size
  · clear CC
    go_enter Tryd.func24, Tryd.ntmps24
    go_upto_region 6 with fail
    rw [ET.out]
    go_wp2
    go_ret3
    exact ⟨rfl, Below.refl _ _⟩
  cases hc : curB (t.extract (t.size - 3) t.size) with
  | false =>
    rw [hc] at CC
    clear hc
    go_enter Tryd.func24, Tryd.ntmps24
    go_upto_region 6 with fail
    rw [ET.out]
    go_wp2_with (go_at_call 39; refine (CC.out _).mono ?_; rintro e w1 ⟨rfl, rfl⟩)
    go_ret3
    exact ⟨rfl, Below.refl _ _⟩
  | true =>
    rw [hc] at CC
    have HC := Lib.hid hc
    clear hc
    go_enter Tryd.func24, Tryd.ntmps24
    go_upto_region 6 with fail
    rw [ET.out]
    go_wp2_with (go_at_call 39; refine (CC.out _).mono ?_; rintro e w1 ⟨rfl, rfl⟩)
    clear hx0 h45
    go_loop [8, 9] (fun n i => ∃ (k : Nat) (x : Int), i = .int .i64 k ∧ k + 4 ≤ t.size ∧ n = .int .u64 x ∧ 0 ≤ x ∧ x ≤ 18446744073709551615) (fun _ i => t.size - (intOf i).toNat)
    case atStart => exact ⟨0, 0, rfl, by omega, rfl, by omega, by omega⟩
    case round =>
      obtain ⟨k, x, rfl, hk, rfl, x0, x1⟩ := hrel
      by_cases hlt : k + 4 < t.size
      · have hx : ∀ W, (Instr.index 9 (.string t) (.int .i64 (k : Int))).run Tryd.prog W = .ok (.int .u8 ((t[k]'(by omega)).toNat : Int)) W := fun W => by
          rw [run_index_string W 9 t .i64 _ Tryd.underlying9, dif_pos ⟨by omega, by omega⟩]
          rfl
        obtain ⟨y, hy⟩ : ∃ y : Int, y = ((t[k]'(by omega)).toNat : Int) := ⟨_, rfl⟩
        have hyb : 0 ≤ y ∧ y ≤ 255 := by rw [hy]; have := (t[k]'(by omega)).toNat_lt; omega
        rw [← hy] at hx
        clear hy
        obtain ⟨y0, y1⟩ := hyb
        by_cases h8 : k + 8 = t.size
        · have e8 : ((k : Int) == (t.size : Int) - 8) = true := eq_t _ _ (by omega)
          by_cases hp : y = 46
          · subst hp
            go_wp2
            go_round
            case rel => exact ⟨k + 1, x, by go_num, by omega, rfl, x0, x1⟩
            case measure => simp [intOf]; omega
          · have hz2 : (y != 46) = true := by rw [bne_iff_ne]; exact hp
            go_wp2
            go_ret3
            exact ⟨rfl, Below.refl _ _⟩
        · have e8 : ((k : Int) == (t.size : Int) - 8) = false := eq_f _ _ (by omega)
          by_cases d1 : y < 48
          · go_wp2
            go_ret3
            exact ⟨rfl, Below.refl _ _⟩
          by_cases d2 : 57 < y
          · go_wp2
            go_ret3
            exact ⟨rfl, Below.refl _ _⟩
          obtain ⟨N, hN⟩ : ∃ N, N = (10 * x + (y - 48)) % 18446744073709551616 := ⟨_, rfl⟩
          go_wp2
          go_round
          case rel => exact ⟨k + 1, N, by go_num, by omega, u_is (by simp only [IntKind.wrap_u64]; omega), by omega, by omega⟩
          case measure => simp [intOf]; omega
      · obtain ⟨V, hV⟩ : ∃ V, V = (if true = true then -x else x) := ⟨_, rfl⟩
        have CS := Lib.hid (fun W : World => rsigned_run true 0 x W x0 x1)
        cases hf : fitsI true 0 x with
        | false =>
          rw [hf] at CS
          clear hf
          go_wp2_with fail
          refine (CS.out _).mono ?_
          rintro e w1 ⟨⟨V1, rfl, _⟩, rfl⟩
          go_wp2
          go_ret3
          exact ⟨rfl, Below.refl _ _⟩
        | true =>
          rw [hf] at CS
          have hVb : I64 V := by
            rw [hV]
            simp [fitsI] at hf
            unfold I64
            simp
            omega
          have CF := Lib.hid (fun W => rformat_ok V (t.extract (t.size - 3) t.size) W hVb.1 hVb.2 HC.out)
          have hne : ((fmtS V (t.extract (t.size - 3) t.size)).toList == s.toList) = false := ba_ne (fun e2 => by
            have := (am_fmt (v := V) hVb HC.out).2
            rw [e2] at this
            exact NO.out V this)
          obtain ⟨F, hF⟩ : ∃ F, F = fmtS V (t.extract (t.size - 3) t.size) := ⟨_, rfl⟩
          rw [← hF] at CF hne
          have HV := Lib.hid hV
          clear hF hV hf
          go_wp2_with fail
          refine (CS.out _).mono ?_
          rintro e w1 ⟨⟨V1, rfl, hv1⟩, rfl⟩
          obtain rfl : V1 = V := (hv1 trivial).trans HV.out.symm
          clear hv1
          go_wp2_with fail
          refine (CF.out _).mono ?_
          rintro e w2 ⟨rfl, b2⟩
          have B2 := Lib.hid b2
          clear b2
          go_wp2
          go_ret3
          exact ⟨rfl, B2.out⟩

set_option maxHeartbeats 4000000 in
set_option maxRecDepth 10000 in
theorem rparse_no_p (s t : ByteArray) (w : World) (hs : s.size ≤ 2000000) (h0 : 0 < s.size) (h45 : s[0].toNat ≠ 45) (hT : t = s) (hno : ∀ v, ¬ IsAm s v) :
    Calls Tryd.prog 24 #[.string s] w fun e w' => e = parBad ∧ Below w.heap.size w w' := by
  have ht : t.size ≤ 2000000 := by rw [hT]; exact hs
  subst hT
  have hx0 : ∀ W, (Instr.index 9 (.string t) (.int .i64 0)).run Tryd.prog W = .ok (.int .u8 ((t[0]'h0).toNat : Int)) W := fun W => by
    rw [run_index_string W 9 t .i64 _ Tryd.underlying9, dif_pos ⟨by omega, by omega⟩]
    rfl
  obtain ⟨z, hz⟩ : ∃ z, z = t[0]'h0 := ⟨_, rfl⟩
  rw [← hz] at hx0 h45
  clear hz
  have CC := Lib.hid (fun W : World => rcur_run (t.extract (t.size - 3) t.size) W (by rw [ByteArray.size_extract]; omega))
  have NO := Lib.hid hno
  clear hno
  by_cases c1 : t.size < 9
  · clear CC
    go_enter Tryd.func24, Tryd.ntmps24
    go_upto_region 6 with fail
    go_wp2
    go_ret3
    exact ⟨rfl, Below.refl _ _⟩
  by_cases c2 : 24 < t.size
  · clear CC
    go_enter Tryd.func24, Tryd.ntmps24
    go_upto_region 6 with fail
    go_wp2
    go_ret3
    exact ⟨rfl, Below.refl _ _⟩
  cases hc : curB (t.extract (t.size - 3) t.size) with
  | false =>
    rw [hc] at CC
    clear hc
    go_enter Tryd.func24, Tryd.ntmps24
    go_upto_region 6 with fail
    go_wp2_with (go_at_call 39; refine (CC.out _).mono ?_; rintro e w1 ⟨rfl, rfl⟩)
    go_ret3
    exact ⟨rfl, Below.refl _ _⟩
  | true =>
    rw [hc] at CC
    have HC := Lib.hid hc
    clear hc
    go_enter Tryd.func24, Tryd.ntmps24
    go_upto_region 6 with fail
    go_wp2_with (go_at_call 39; refine (CC.out _).mono ?_; rintro e w1 ⟨rfl, rfl⟩)
    clear hx0 h45
    go_loop [8, 9] (fun n i => ∃ (k : Nat) (x : Int), i = .int .i64 k ∧ k + 4 ≤ t.size ∧ n = .int .u64 x ∧ 0 ≤ x ∧ x ≤ 18446744073709551615) (fun _ i => t.size - (intOf i).toNat)
    case atStart => exact ⟨0, 0, rfl, by omega, rfl, by omega, by omega⟩
    case round =>
      obtain ⟨k, x, rfl, hk, rfl, x0, x1⟩ := hrel
      by_cases hlt : k + 4 < t.size
      · have hx : ∀ W, (Instr.index 9 (.string t) (.int .i64 (k : Int))).run Tryd.prog W = .ok (.int .u8 ((t[k]'(by omega)).toNat : Int)) W := fun W => by
          rw [run_index_string W 9 t .i64 _ Tryd.underlying9, dif_pos ⟨by omega, by omega⟩]
          rfl
        obtain ⟨y, hy⟩ : ∃ y : Int, y = ((t[k]'(by omega)).toNat : Int) := ⟨_, rfl⟩
        have hyb : 0 ≤ y ∧ y ≤ 255 := by rw [hy]; have := (t[k]'(by omega)).toNat_lt; omega
        rw [← hy] at hx
        clear hy
        obtain ⟨y0, y1⟩ := hyb
        by_cases h8 : k + 8 = t.size
        · have e8 : ((k : Int) == (t.size : Int) - 8) = true := eq_t _ _ (by omega)
          by_cases hp : y = 46
          · subst hp
            go_wp2
            go_round
            case rel => exact ⟨k + 1, x, by go_num, by omega, rfl, x0, x1⟩
            case measure => simp [intOf]; omega
          · have hz2 : (y != 46) = true := by rw [bne_iff_ne]; exact hp
            go_wp2
            go_ret3
            exact ⟨rfl, Below.refl _ _⟩
        · have e8 : ((k : Int) == (t.size : Int) - 8) = false := eq_f _ _ (by omega)
          by_cases d1 : y < 48
          · go_wp2
            go_ret3
            exact ⟨rfl, Below.refl _ _⟩
          by_cases d2 : 57 < y
          · go_wp2
            go_ret3
            exact ⟨rfl, Below.refl _ _⟩
          obtain ⟨N, hN⟩ : ∃ N, N = (10 * x + (y - 48)) % 18446744073709551616 := ⟨_, rfl⟩
          go_wp2
          go_round
          case rel => exact ⟨k + 1, N, by go_num, by omega, u_is (by simp only [IntKind.wrap_u64]; omega), by omega, by omega⟩
          case measure => simp [intOf]; omega
      · obtain ⟨V, hV⟩ : ∃ V, V = (if false = true then -x else x) := ⟨_, rfl⟩
        have CS := Lib.hid (fun W : World => rsigned_run false 0 x W x0 x1)
        cases hf : fitsI false 0 x with
        | false =>
          rw [hf] at CS
          clear hf
          go_wp2_with fail
          refine (CS.out _).mono ?_
          rintro e w1 ⟨⟨V1, rfl, _⟩, rfl⟩
          go_wp2
          go_ret3
          exact ⟨rfl, Below.refl _ _⟩
        | true =>
          rw [hf] at CS
          have hVb : I64 V := by
            rw [hV]
            simp [fitsI] at hf
            unfold I64
            simp
            omega
          have CF := Lib.hid (fun W => rformat_ok V (t.extract (t.size - 3) t.size) W hVb.1 hVb.2 HC.out)
          have hne : ((fmtS V (t.extract (t.size - 3) t.size)).toList == t.toList) = false := ba_ne (fun e2 => by
            have := (am_fmt (v := V) hVb HC.out).2
            rw [e2] at this
            exact NO.out V this)
          obtain ⟨F, hF⟩ : ∃ F, F = fmtS V (t.extract (t.size - 3) t.size) := ⟨_, rfl⟩
          rw [← hF] at CF hne
          have HV := Lib.hid hV
          clear hF hV hf
          go_wp2_with fail
          refine (CS.out _).mono ?_
          rintro e w1 ⟨⟨V1, rfl, hv1⟩, rfl⟩
          obtain rfl : V1 = V := (hv1 trivial).trans HV.out.symm
          clear hv1
          go_wp2_with fail
          refine (CF.out _).mono ?_
          rintro e w2 ⟨rfl, b2⟩
          have B2 := Lib.hid b2
          clear b2
          go_wp2
          go_ret3
          exact ⟨rfl, B2.out⟩
end Go.Proofs.YtjjhdbodjcffaaaDoor
