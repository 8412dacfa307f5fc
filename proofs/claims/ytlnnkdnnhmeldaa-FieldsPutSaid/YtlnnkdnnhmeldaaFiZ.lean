/-
  The reference's Take and TakeList.
-/
import Derived.Test.YtlnnkdnnhmeldaaFiY
namespace Go.Proofs.Ytlnnkdnnhmeldaa
open Go.RowKit
open IntWalk
set_option linter.unusedVariables false

theorem kR_err {α : Type} (k : Int) : kR (Except.error k : Except Int α) = k := rfl
theorem okL_err {α : Type} (k : Int) : okL (Except.error k : Except Int (List α)) = [] := rfl
theorem gives_errF {w w' : World} {r : Except Int (List Fd)} {k : Int} (h : r = .error k) (hb : Below w.heap.size w w') : GivesF w r (.returned (.tuple #[.slice none 0 0, .int .i64 k])) w' := by subst h; exact ⟨_, rfl, rdF_nil _, hb⟩
theorem gives_errP {w w' : World} {r : Except Int (List (List UInt8))} {k : Int} (h : r = .error k) (hb : Below w.heap.size w w') : GivesP w r (.returned (.tuple #[.slice none 0 0, .int .i64 k])) w' := by subst h; exact ⟨_, rfl, rdP_nil _, hb⟩
theorem drop_ne {l : List UInt8} {a : Nat} (h : a < l.length) : l.drop a ≠ [] := fun e => by have := congrArg List.length e; rw [List.length_drop, List.length_nil] at this; omega
theorem last_snoc (fs : List Fd) (x : Fd) (q : Nat) (h : (fs ++ [x]).length = q + 1) : ((fs ++ [x])[q]'(by omega)) = x := by
  have : q = fs.length := by rw [List.length_append] at h; simpa using h.symm
  subst this
  rw [List.getElem_append_right (Nat.le_refl _)]
  simp

set_option maxHeartbeats 16000000 in
set_option maxRecDepth 10000 in
theorem rtake_run (v : Value) (l : List UInt8) (w : World) (h : RdB w v l) (hl : l.length ≤ 200000) :
    Calls Try.prog 23 #[v] w (GivesF w (takR [] 0 l)) := by
  obtain ⟨T, hT⟩ : ∃ T, T = takR [] 0 l := ⟨_, rfl⟩
  have HT := Lib.hid hT
  rw [← hT]
  have RV := Lib.hid h
  have HL := Lib.hid hl
  obtain ⟨p, c, rfl, _, _, _⟩ := h
  clear hT
  go_enter Try.func23, Try.ntmps23
  go_wp2_with fail
  go_loopw [4, 5] (fun lv av wr => ∃ (A : Nat) (fs : List Fd) (bf : Int), av = .int .i64 A ∧ A ≤ l.length ∧ Hid (OwnF wr w.heap.size lv fs) ∧ fs.length ≤ 256 ∧ Hid (fs.length = 0 → bf = 0) ∧ Hid (∀ q (h : fs.length = q + 1), (fs[q]'(by omega)).1 = bf) ∧
      Hid (Below w.heap.size w wr) ∧ Hid (T = takR fs bf (l.drop A))) (fun _ a _ => l.length - (intOf a).toNat)
  case atStart => exact ⟨0, [], 0, rfl, Nat.zero_le _, Lib.hid (OwnF.none_ w _ (Nat.le_refl _)), by simp, Lib.hid (fun _ => rfl), Lib.hid (fun q h => absurd h (by simp)), Lib.hid (Below.refl _ _), HT⟩
  case round =>
    obtain ⟨A, fs, bf, rfl, hA, HO, hF, HB0, HB1, HW, HTT⟩ := hrel
    clear HT
    by_cases hlt : A < l.length
    · have HNE := Lib.hid (drop_ne hlt)
      obtain ⟨p3, c3, ps, rfl, _, hm3, hlen3, hps3, hat3⟩ := HO.out.rd
      by_cases hf : fs.length = 256
      · have HX := Lib.hid (show T = .error 3 by rw [HTT.out]; exact takR_full fs bf _ HNE.out hf)
        have hfi : ((fs.length : Nat) : Int) = 256 := by omega
        clear hat3 hps3
        go_wp2_with fail
        go_ret2
        exact gives_errF HX.out HW.out
      · have hfi : (((fs.length : Nat) : Int) == 256) = false := by rw [beq_eq_false_iff_ne]; omega
        have hfl : fs.length < 256 := by omega
        have C := Lib.hid (rint_run _ l A wr (RV.out.below HW.out) hA HL.out)
        unfold RIntG rintR at C
        rcases hi : readI (l.drop A) with k | ⟨x, r⟩
        · rw [hi] at C
          have hk : (k != 0) = true := by have := readI_err _ k hi; rw [bne_iff_ne]; omega
          have HX := Lib.hid (show T = .error k by rw [HTT.out]; exact takR_int fs bf _ k HNE.out hf hi)
          clear hi hat3 hps3 hf
          go_wp2_with fail
          refine C.out.mono ?_
          rintro e w2 ⟨rfl, hw⟩
          rw [hw]
          clear hw w2 C
          go_wp2_with fail
          go_ret2
          exact gives_errF HX.out HW.out
        · rw [hi] at C
          dsimp only at C
          have hlen := readI_len _ x r hi
          rw [List.length_drop] at hlen
          have HDR := Lib.hid (drop_of_len ⟨_, (readI_back _ x r hi).2.2⟩)
          obtain ⟨NX, hNX⟩ : ∃ NX, NX = l.length - r.length := ⟨_, rfl⟩
          have hNi : (l.length : Int) - (r.length : Nat) = (NX : Nat) := by omega
          rw [hNi] at C
          rw [← hNX] at HDR
          have hNl : NX ≤ l.length := by omega
          have hAN : A < NX := by omega
          have HI := Lib.hid hi
          have HF2 := Lib.hid hf
          clear hi hf hNi hNX hlen
          by_cases hv1 : 1 ≤ x
          · by_cases hv2 : x ≤ 1000
            · by_cases htb : x ≤ bf
              · obtain ⟨q, hq⟩ : ∃ q, fs.length = q + 1 := ⟨fs.length - 1, by
                  have : fs.length ≠ 0 := fun e => by have := HB0.out e; omega
                  omega⟩
                have HX := Lib.hid (show T = .error 5 by rw [HTT.out]; exact takR_tag fs bf _ x r HNE.out HF2.out HI.out (Or.inr htb))
                obtain ⟨b, o, rfl, _, hc3⟩ := hat3 (fun e => by rw [e] at hq; simp at hq)
                have hy : (ps[q]'(by omega)).1 = bf := by rw [(hps3 q (by omega) (by omega)).1]; exact HB1.out q hq
                have cy := (hc3 q (by omega)).1
                rw [hy] at cy
                rw [hq]
                have hq2 : q + 1 < 256 := by omega
                have hfi2 : ((q : Int) + 1 == 256) = false := by rw [beq_eq_false_iff_ne]; omega
                clear hat3 hps3 hc3 hy hfi hfl hF
                go_wp2_with fail
                refine C.out.mono ?_
                rintro e w2 ⟨rfl, hw⟩
                rw [hw]
                clear hw w2 C
                go_wp2_with fail
                go_ret2
                exact gives_errF HX.out HW.out
              · have htb2 : ¬ (¬ (1 ≤ x ∧ x ≤ 1000) ∨ x ≤ bf) := fun h => by rcases h with h | h; exact h ⟨hv1, hv2⟩; exact htb h
                have CB := Lib.hid (rbytes_run _ l NX wr (RV.out.below HW.out) hNl HL.out)
                have HO5 := Lib.hid (show fs.length ≤ 100000 by omega)
                have HF6 := Lib.hid (show fs.length < 256 from hfl)
                by_cases h00 : fs.length = 0
                · have hz0 : fs = [] := List.length_eq_zero_iff.1 h00
                  subst hz0
                  clear hat3 hps3 h00
                  go_wp2_with fail
                  refine C.out.mono ?_
                  rintro e w2 ⟨rfl, hw⟩
                  rw [hw]
                  clear hw w2 C
                  go_wp2_with fail
                  refine CB.out.mono ?_
                  rintro e w3 (⟨k, hd, rfl, hw⟩ | ⟨d, r2, u, hd, rfl, fu, b3⟩)
                  · rw [hw]
                    have HX := Lib.hid (show T = .error k by rw [HTT.out]; exact takR_data [] bf _ x r k HNE.out HF2.out HI.out htb2 (by rw [HDR.out]; exact hd))
                    have hk : (k != 0) = true := by have := readD_err _ k hd; rw [bne_iff_ne]; omega
                    clear hw w3 CB hd
                    go_wp2_with fail
                    go_ret2
                    exact gives_errF HX.out HW.out
                  · have HX := Lib.hid (show T = takR ([] ++ [(x, d)]) x r2 by rw [HTT.out]; exact takR_step [] bf _ x r d r2 HNE.out HF2.out HI.out htb2 (by rw [HDR.out]; exact hd))
                    have hdl := readD_len _ d r2 hd
                    rw [List.length_drop] at hdl
                    have HDR2 := Lib.hid (drop_of_len ⟨_, readD_back _ d r2 hd⟩)
                    obtain ⟨NY, hNY⟩ : ∃ NY, NY = l.length - r2.length := ⟨_, rfl⟩
                    rw [← hNY] at HDR2 ⊢
                    have hAY : A < NY := by omega
                    have hYl : NY ≤ l.length := by omega
                    have O3 := Lib.hid (HO.out.kept b3)
                    have F3 := Lib.hid (fu.down (base' := w.heap.size) HW.out.size)
                    have W3 := Lib.hid (HW.out.trans (b3.mono HW.out.size))
                    obtain ⟨pu, cu, rfl, _, _, _⟩ := fu
                    clear b3 CB hd hdl hNY
                    go_wp2_with (at_builtin; refine wp_appF (w := w3) rfl _ _ rfl w.heap.size (.slice p3 ([] : List Fd).length c3) (.slice pu d.length cu) [] x d rfl rfl O3.out F3.out HO5.out ?_; intro v4 w4 o4 b4; have O4 := Lib.hid o4; have W4 := Lib.hid (W3.out.trans b4); clear o4 b4)
                    refine ⟨⟨NY, [] ++ [(x, d)], x, rfl, hYl, O4, by have := HF6.out; simp only [List.length_append, List.length_cons, List.length_nil]; omega, Lib.hid (fun e => by simp at e), Lib.hid (fun q h => by rw [last_snoc [] (x, d) q h]), W4, Lib.hid (by rw [HX.out, HDR2.out])⟩, by simp only [intOf]; omega⟩
                · obtain ⟨q, hq⟩ : ∃ q, fs.length = q + 1 := ⟨fs.length - 1, by omega⟩
                  obtain ⟨b, o, rfl, _, hc3⟩ := hat3 (fun e => by rw [e] at hq; simp at hq)
                  have hy : (ps[q]'(by omega)).1 = bf := by rw [(hps3 q (by omega) (by omega)).1]; exact HB1.out q hq
                  have cy := (hc3 q (by omega)).1
                  rw [hy] at cy
                  have HQ := Lib.hid hq
                  rw [hq] at HO ⊢
                  have hq2 : q + 1 < 256 := by omega
                  have hfi2 : ((q : Int) + 1 == 256) = false := by rw [beq_eq_false_iff_ne]; omega
                  clear hat3 hps3 hc3 hy hfi hfl hF h00 hq
                  go_wp2_with fail
                  refine C.out.mono ?_
                  rintro e w2 ⟨rfl, hw⟩
                  rw [hw]
                  clear hw w2 C
                  go_wp2_with fail
                  refine CB.out.mono ?_
                  rintro e w3 (⟨k, hd, rfl, hw⟩ | ⟨d, r2, u, hd, rfl, fu, b3⟩)
                  · rw [hw]
                    have HX := Lib.hid (show T = .error k by rw [HTT.out]; exact takR_data fs bf _ x r k HNE.out HF2.out HI.out htb2 (by rw [HDR.out]; exact hd))
                    have hk : (k != 0) = true := by have := readD_err _ k hd; rw [bne_iff_ne]; omega
                    clear hw w3 CB hd
                    go_wp2_with fail
                    go_ret2
                    exact gives_errF HX.out HW.out
                  · have HX := Lib.hid (show T = takR (fs ++ [(x, d)]) x r2 by rw [HTT.out]; exact takR_step fs bf _ x r d r2 HNE.out HF2.out HI.out htb2 (by rw [HDR.out]; exact hd))
                    have hdl := readD_len _ d r2 hd
                    rw [List.length_drop] at hdl
                    have HDR2 := Lib.hid (drop_of_len ⟨_, readD_back _ d r2 hd⟩)
                    obtain ⟨NY, hNY⟩ : ∃ NY, NY = l.length - r2.length := ⟨_, rfl⟩
                    rw [← hNY] at HDR2 ⊢
                    have hAY : A < NY := by omega
                    have hYl : NY ≤ l.length := by omega
                    have O3 := Lib.hid (HO.out.kept b3)
                    have F3 := Lib.hid (fu.down (base' := w.heap.size) HW.out.size)
                    have W3 := Lib.hid (HW.out.trans (b3.mono HW.out.size))
                    obtain ⟨pu, cu, rfl, _, _, _⟩ := fu
                    clear b3 CB hd hdl hNY
                    go_wp2_with (at_builtin; refine wp_appF (w := w3) rfl _ _ rfl w.heap.size (.slice (some ⟨b, o, none⟩) (q + 1) c3) (.slice pu d.length cu) fs x d rfl rfl O3.out F3.out HO5.out ?_; intro v4 w4 o4 b4; have O4 := Lib.hid o4; have W4 := Lib.hid (W3.out.trans b4); clear o4 b4)
                    refine ⟨⟨NY, fs ++ [(x, d)], x, rfl, hYl, O4, by have := HF6.out; simp only [List.length_append, List.length_cons, List.length_nil]; omega, Lib.hid (fun e => by simp at e), Lib.hid (fun q h => by rw [last_snoc fs (x, d) q h]), W4, Lib.hid (by rw [HX.out, HDR2.out])⟩, by simp only [intOf]; omega⟩
            · have HX := Lib.hid (show T = .error 5 by rw [HTT.out]; exact takR_tag fs bf _ x r HNE.out HF2.out HI.out (Or.inl (fun h => hv2 h.2)))
              have hv3 : 1000 < x := by omega
              clear hat3 hps3
              go_wp2_with fail
              refine C.out.mono ?_
              rintro e w2 ⟨rfl, hw⟩
              rw [hw]
              clear hw w2 C
              go_wp2_with fail
              go_ret2
              exact gives_errF HX.out HW.out
          · have HX := Lib.hid (show T = .error 5 by rw [HTT.out]; exact takR_tag fs bf _ x r HNE.out HF2.out HI.out (Or.inl (fun h => hv1 h.1)))
            have hv3 : x < 1 := by omega
            clear hat3 hps3
            go_wp2_with fail
            refine C.out.mono ?_
            rintro e w2 ⟨rfl, hw⟩
            rw [hw]
            clear hw w2 C
            go_wp2_with fail
            go_ret2
            exact gives_errF HX.out HW.out
    · obtain rfl : A = l.length := by omega
      have HX := Lib.hid (show T = .ok fs by rw [HTT.out, List.drop_length, takR_nil])
      go_wp2_with fail
      go_ret2
      rw [HX.out]
      exact ⟨_, rfl, HO.out.rd, HW.out⟩
end Go.Proofs.Ytlnnkdnnhmeldaa
