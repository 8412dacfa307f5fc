/-
  The reference's TakeList.
-/
import Derived.Test.YtlnnkdnnhmeldaaFiZ
namespace Go.Proofs.Ytlnnkdnnhmeldaa
open Go.RowKit
open IntWalk
set_option linter.unusedVariables false

def finL : Except Int (List (List UInt8) × List UInt8) → Except Int (List (List UInt8))
  | .error k => .error k
  | .ok (ls, r) => if r = [] then .ok ls else .error 5
theorem lstR_fin (l : List UInt8) : lstR l = finL (lstA l) := by
  unfold lstR
  rcases h : lstA l with k | ⟨ls, r⟩ <;> rfl
theorem OwnP.kept2 {w w1 : World} {base : Nat} {v : Value} {ls : List (List UInt8)} (h : OwnP w base v ls) (hb : Below w.heap.size w w1) : OwnP w1 base v ls := h.kept hb (Nat.le_refl _)
set_option maxHeartbeats 16000000 in
set_option maxRecDepth 10000 in
theorem rtakeList_run (v : Value) (l : List UInt8) (w : World) (h : RdB w v l) (hl : l.length ≤ 200000) :
    Calls Try.prog 30 #[v] w (GivesP w (lstR l)) := by
  obtain ⟨T, hT⟩ : ∃ T, T = lstR l := ⟨_, rfl⟩
  have HT := Lib.hid hT
  rw [← hT]
  have RV := Lib.hid h
  have HL := Lib.hid hl
  have C := Lib.hid (rint_run v l 0 w h (Nat.zero_le _) hl)
  unfold RIntG rintR at C
  rw [List.drop_zero] at C
  obtain ⟨p, c, rfl, _, _, _⟩ := h
  clear hT
  rcases hi : readI l with k | ⟨n, r⟩
  · rw [hi] at C
    have hk : (k != 0) = true := by have := readI_err _ k hi; rw [bne_iff_ne]; omega
    have HX := Lib.hid (show T = .error k by rw [HT.out]; unfold lstR lstA; rw [hi])
    clear hi
    go_enter Try.func30, Try.ntmps30
    go_wp2_with fail
    refine C.out.mono ?_
    rintro e w2 ⟨rfl, hw⟩
    rw [hw]
    clear hw w2 C
    go_wp2_with fail
    go_ret2
    exact gives_errP HX.out (Below.refl _ _)
  · rw [hi] at C
    dsimp only at C
    have hlen := readI_len l n r hi
    have HDR := Lib.hid (drop_of_len (l := l) (r := r) (a := 0) ⟨encI n, by rw [List.drop_zero]; exact (readI_back l n r hi).2.2⟩)
    obtain ⟨NX, hNX⟩ : ∃ NX, NX = l.length - r.length := ⟨_, rfl⟩
    have hNi : (l.length : Int) - (r.length : Nat) = (NX : Nat) := by omega
    rw [hNi] at C
    rw [← hNX] at HDR
    have hNl : NX ≤ l.length := by omega
    by_cases h0 : n < 0
    · have HX := Lib.hid (show T = .error 5 by rw [HT.out]; unfold lstR lstA; rw [hi]; dsimp only; rw [if_pos h0])
      clear hi hNi hNX hlen
      go_enter Try.func30, Try.ntmps30
      go_wp2_with fail
      refine C.out.mono ?_
      rintro e w2 ⟨rfl, hw⟩
      rw [hw]
      clear hw w2 C
      go_wp2_with fail
      go_ret2
      exact gives_errP HX.out (Below.refl _ _)
    · by_cases h1 : 256 < n
      · have HX := Lib.hid (show T = .error 3 by rw [HT.out]; unfold lstR lstA; rw [hi]; dsimp only; rw [if_neg h0, if_pos h1])
        have h0' : 0 ≤ n := by omega
        clear hi hNi hNX hlen h0
        go_enter Try.func30, Try.ntmps30
        go_wp2_with fail
        refine C.out.mono ?_
        rintro e w2 ⟨rfl, hw⟩
        rw [hw]
        clear hw w2 C
        go_wp2_with fail
        go_ret2
        exact gives_errP HX.out (Below.refl _ _)
      · obtain ⟨m, rfl⟩ := Int.eq_ofNat_of_zero_le (show 0 ≤ n by omega)
        have hm : m ≤ 256 := by omega
        obtain ⟨T0, hT0⟩ : ∃ T0, T0 = lstA l := ⟨_, rfl⟩
        have HT0 := Lib.hid (show T0 = lstN m [] (l.drop NX) by rw [hT0]; unfold lstA; rw [hi]; dsimp only; rw [if_neg h0, if_neg h1, Int.toNat_natCast, ← HDR.out])
        have HTT := Lib.hid (show T = finL T0 by rw [HT.out, hT0]; exact lstR_fin l)
        clear hi hNi hNX hlen h0 h1 hT0 HT
        go_enter Try.func30, Try.ntmps30
        go_wp2_with fail
        refine C.out.mono ?_
        rintro e w2 ⟨rfl, hw⟩
        rw [hw]
        clear hw w2 C
        go_wp2_with fail
        go_loopw [5, 7, 8] (fun av lv iv wr => ∃ (A j : Nat) (ls : List (List UInt8)), av = .int .i64 A ∧ A ≤ l.length ∧ iv = .int .i64 j ∧ j ≤ m ∧ Hid (OwnP wr w.heap.size lv ls) ∧ Hid (ls.length = j) ∧ Hid (Below w.heap.size w wr) ∧ Hid (T0 = lstN (m - j) ls (l.drop A))) (fun _ _ i _ => m - (intOf i).toNat)
        case atStart => exact ⟨NX, 0, [], rfl, hNl, rfl, Nat.zero_le _, Lib.hid (OwnP.none_ w _ (Nat.le_refl _)), Lib.hid rfl, Lib.hid (Below.refl _ _), HT0⟩
        case round =>
          obtain ⟨A, j, ls, rfl, hA, rfl, hj, HO, HF, HW, H0⟩ := hrel
          clear HT0
          by_cases hlt : j < m
          · obtain ⟨q, hq⟩ : ∃ q, m - j = q + 1 := ⟨m - j - 1, by omega⟩
            have HQ := Lib.hid hq
            have H1 := Lib.hid (show T0 = lstN (q + 1) ls (l.drop A) by rw [← hq]; exact H0.out)
            have CB := Lib.hid (rbytes_run _ l A wr (RV.out.below HW.out) hA HL.out)
            have HO5 := Lib.hid (show ls.length ≤ 100000 by have := HF.out; omega)
            obtain ⟨p3, c3, vs3, rfl, _, _, _, _, _⟩ := HO.out.rd
            clear hq
            go_wp2_with fail
            refine CB.out.mono ?_
            rintro e w3 (⟨k, hd, rfl, hw⟩ | ⟨d, r2, u, hd, rfl, fu, b3⟩)
            · rw [hw]
              have HX := Lib.hid (show T = .error k by rw [HTT.out, H1.out, lstN_err q ls _ k hd]; rfl)
              have hk : (k != 0) = true := by have := readD_err _ k hd; rw [bne_iff_ne]; omega
              clear hw w3 CB hd
              go_wp2_with fail
              go_ret2
              exact gives_errP HX.out HW.out
            · have H2 := Lib.hid (show T0 = lstN q (ls ++ [d]) r2 by rw [H1.out, lstN_ok q ls _ d r2 hd])
              have hdl := readD_len _ d r2 hd
              rw [List.length_drop] at hdl
              have HDR2 := Lib.hid (drop_of_len ⟨_, readD_back _ d r2 hd⟩)
              obtain ⟨NY, hNY⟩ : ∃ NY, NY = l.length - r2.length := ⟨_, rfl⟩
              rw [← hNY] at HDR2 ⊢
              have hYl : NY ≤ l.length := by omega
              have O3 := Lib.hid (HO.out.kept2 b3)
              have F3 := Lib.hid (fu.down (base' := w.heap.size) HW.out.size)
              have W3 := Lib.hid (HW.out.trans (b3.mono HW.out.size))
              obtain ⟨pu, cu, rfl, _, _, _⟩ := fu
              clear b3 CB hd hdl hNY
              go_wp2_with (at_builtin; refine wp_app1 (w := w3) rfl _ _ rfl w.heap.size (.slice p3 ls.length c3) (.slice pu d.length cu) ls d rfl rfl O3.out F3.out HO5.out ?_; intro v4 w4 o4 b4; have O4 := Lib.hid o4; have W4 := Lib.hid (W3.out.trans b4); clear o4 b4)
              refine ⟨⟨NY, j + 1, ls ++ [d], rfl, hYl, by go_num, hlt, O4, Lib.hid (by have := HF.out; simp only [List.length_append, List.length_cons, List.length_nil]; omega), W4, Lib.hid (by rw [H2.out, ← HDR2.out, show m - (j + 1) = q by have := HQ.out; omega])⟩, by simp only [intOf]; omega⟩
          · obtain rfl : j = m := by omega
            have HE := Lib.hid (show T0 = .ok (ls, l.drop A) by rw [H0.out, Nat.sub_self]; rfl)
            by_cases hz : A = l.length
            · have HX := Lib.hid (show T = .ok ls by rw [HTT.out, HE.out, hz, List.drop_length]; simp [finL])
              have hz2 : (((A : Nat) : Int) != (l.length : Nat)) = false := by rw [hz]; simp
              clear hz
              go_wp2_with fail
              go_ret2
              rw [HX.out]
              exact ⟨_, rfl, HO.out.rd, HW.out⟩
            · have HX := Lib.hid (show T = .error 5 by rw [HTT.out, HE.out]; unfold finL; exact if_neg (drop_ne (by omega)))
              have hz2 : (((A : Nat) : Int) != (l.length : Nat)) = true := by rw [bne_iff_ne]; omega
              clear hz
              go_wp2_with fail
              go_ret2
              exact gives_errP HX.out HW.out
end Go.Proofs.Ytlnnkdnnhmeldaa
