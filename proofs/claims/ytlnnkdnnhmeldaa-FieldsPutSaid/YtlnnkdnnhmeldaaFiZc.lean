/-
  The reference's Put.
-/
import Derived.Test.YtlnnkdnnhmeldaaFiZb
namespace Go.Proofs.Ytlnnkdnnhmeldaa
open Go.RowKit
open IntWalk
set_option linter.unusedVariables false

theorem take_all {fs : List Fd} {j : Nat} {P : Fd → Prop} (hlt : j < fs.length) (h : ∀ f ∈ fs.take j, P f) (hx : P fs[j]) : ∀ f ∈ fs.take (j + 1), P f := by
  intro f hf
  rw [List.take_succ_eq_append_getElem hlt] at hf
  rcases List.mem_append.1 hf with q | q
  · exact h f q
  · rw [List.mem_singleton.1 q]; exact hx
set_option maxHeartbeats 16000000 in
set_option maxRecDepth 10000 in
theorem rput_run (v : Value) (fs : List Fd) (w : World) (h : RdF w v fs) (hl : fs.length ≤ 100000) (ht : total (dats fs) ≤ 100000) :
    Calls Try.prog 21 #[v] w (GivesB w (putE fs) (putB fs)) := by
  obtain ⟨p, c, ps, rfl, hc, hm, hlen, hps, hat⟩ := h
  by_cases hbig : 256 < fs.length
  · have e1 : putE fs = 3 := by unfold putE; rw [if_pos hbig]
    have e2 : putB fs = [] := by unfold putB; rw [if_neg (by rw [e1]; decide)]
    rw [e1, e2]
    clear e1 e2 hat hps
    go_enter Try.func21, Try.ntmps21
    go_wp2_with fail
    go_ret2
    exact ⟨_, rfl, fr_nil _ _, Below.refl _ _⟩
  · have hn : fs.length ≤ 256 := by omega
    obtain ⟨E, hE⟩ : ∃ E, E = putE fs := ⟨_, rfl⟩
    have HR := Lib.hid (show E = chkF (prevT fs 0) (fs.drop 0) by rw [hE]; unfold putE; rw [if_neg hbig]; rfl)
    obtain ⟨PB, hPB⟩ : ∃ PB, PB = putB fs := ⟨_, rfl⟩
    have HPB := Lib.hid (show PB = if E = 0 then encF fs else [] by rw [hPB, hE]; rfl)
    rw [← hE, ← hPB]
    have HAT := Lib.hid hat
    have HPS := Lib.hid hps
    have HLEN := Lib.hid hlen
    have HT := Lib.hid ht
    have HK0 := Lib.hid (show ∀ f ∈ fs.take 0, 1 ≤ f.1 ∧ f.1 ≤ 1000 by intro f hf; simp at hf)
    clear hE hPB hbig hat hps hlen ht
    go_enter Try.func21, Try.ntmps21
    go_wp2_with fail
    go_loopw [4, 5] (fun bv i wr => ∃ j : Nat, j ≤ fs.length ∧ i = .int .i64 j ∧ Hid (OwnB wr w.heap.size bv (encF (fs.take j))) ∧ Hid (Below w.heap.size w wr) ∧ Hid (E = chkF (prevT fs j) (fs.drop j)) ∧ Hid (∀ f ∈ fs.take j, 1 ≤ f.1 ∧ f.1 ≤ 1000)) (fun _ i _ => fs.length - (intOf i).toNat)
    case atStart => exact ⟨0, Nat.zero_le _, rfl, Lib.hid (OwnB.none_ w _ (Nat.le_refl _)), Lib.hid (Below.refl _ _), HR, HK0⟩
    case round =>
      obtain ⟨j, hj, rfl, HO, HW, HEE, HK⟩ := hrel
      clear HR HK0
      by_cases hlt : j < fs.length
      · obtain ⟨b, o, rfl, hbl, hcl⟩ := HAT.out (fun e => by rw [e] at hlt; exact absurd hlt (Nat.not_lt_zero _))
        have HBL := Lib.hid hbl
        have HDCL := Lib.hid hcl
        have hjp : j < ps.length := by have := HLEN.out; omega
        obtain ⟨x, hx⟩ : ∃ x, x = (fs[j]).1 := ⟨_, rfl⟩
        obtain ⟨d, hd⟩ : ∃ d, d = (fs[j]).2 := ⟨_, rfl⟩
        obtain ⟨u, hu⟩ : ∃ u, u = (ps[j]).2 := ⟨_, rfl⟩
        have hxp : (ps[j]).1 = x := by rw [hx]; exact (HPS.out j hjp hlt).1
        have cc := f_at hcl j hjp x u hxp hu.symm
        have ru := (HPS.out j hjp hlt).2
        rw [← hu, ← hd] at ru
        have RU := Lib.hid ru
        obtain ⟨pu, cu, rfl, _, _, _⟩ := ru
        have HC1 := Lib.hid cc.1
        have HC2 := Lib.hid cc.2
        have c1 := (HW.out.cell (p := ⟨b, o + j * 2, none⟩) HBL.out).trans cc.1
        have c2 := (HW.out.cell (p := ⟨b, o + j * 2 + 1, none⟩) HBL.out).trans cc.2
        have HD := Lib.hid (chkF_drop fs j hlt)
        rw [← hx] at HD
        have HS := Lib.hid (encF_snoc fs j hlt)
        rw [← hx, ← hd] at HS
        have HXX := Lib.hid hx
        have hdl : d.length ≤ 100000 := by
          have := total_get (dats fs) j (by unfold dats; simpa using hlt)
          have e : (dats fs)[j]'(by unfold dats; simpa using hlt) = d := by rw [hd]; unfold dats; simp
          rw [e] at this
          exact Nat.le_trans this HT.out
        have hxl : (encF (fs.take j)).length ≤ 110000 := by
          have h1 := encF_len (fs.take j) (fun f hf => by have := HK.out f hf; unfold okI; omega) (by
            have := total_take (dats fs) j
            unfold dats at this ⊢
            rw [List.map_take]
            exact Nat.le_trans this HT.out)
          have h2 := total_take (dats fs) j
          unfold dats at h2 h1
          rw [List.map_take] at h1
          have h3 := HT.out
          unfold dats at h3
          rw [List.length_take] at h1
          omega
        have HXL := Lib.hid hxl
        have HDL := Lib.hid hdl
        have HDE := Lib.hid (encI_ten (d.length : Int) (by omega) (by omega))
        clear cc hxp hx hd hu hdl hxl hcl hbl HAT
        by_cases hA : x < 1
        · have HF := Lib.hid (show E = 2 by rw [HEE.out, HD.out, if_pos (by omega)])
          go_wp2_with fail
          go_ret2
          rw [HPB.out, HF.out, if_neg (by decide)]
          exact ⟨_, rfl, fr_nil _ _, HW.out⟩
        · by_cases hB : 1000 < x
          · have HF := Lib.hid (show E = 2 by rw [HEE.out, HD.out, if_pos (by omega)])
            have hA2 : 1 ≤ x := by omega
            clear hA
            go_wp2_with fail
            go_ret2
            rw [HPB.out, HF.out, if_neg (by decide)]
            exact ⟨_, rfl, fr_nil _ _, HW.out⟩
          · have hA2 : 1 ≤ x := by omega
            have hB2 : x ≤ 1000 := by omega
            have C1 := Lib.hid (fun W => rputInt_run x W (by omega) (by omega))
            have HXE := Lib.hid (encI_ten x (by omega) (by omega))
            have HK2 := Lib.hid (take_all (P := fun f => 1 ≤ f.1 ∧ f.1 ≤ 1000) hlt HK.out (by rw [← HXX.out]; exact ⟨hA2, hB2⟩))
            clear hA hB
            by_cases hj0 : j = 0
            · have HF := Lib.hid (show E = chkF (prevT fs (j + 1)) (fs.drop (j + 1)) by rw [HEE.out, HD.out, if_neg (by intro h; exact h ⟨hA2, hB2⟩), if_neg (by rw [hj0]; show ¬ x ≤ 0; omega)])
              subst hj0
              rw [Nat.zero_mul, Nat.add_zero] at c1 c2
              have hz1 := HC1.out
              have hz2 := HC2.out
              rw [Nat.zero_mul, Nat.add_zero] at hz1 hz2
              have HZ1 := Lib.hid hz1
              have HZ2 := Lib.hid hz2
              clear hz1 hz2
              go_wp2_with fail
              go_upto_region 9 with fail
              go_quiet (fail)
              generalize hq : wr.drewN nq = wq
              have b0 : Below wr.heap.size wr wq := by rw [← hq]; exact b_draws (Below.refl _ wr) _
              have HO2 := Lib.hid (HO.out.kept b0 (Nat.le_refl _))
              have HW2 := Lib.hid (HW.out.trans (b0.mono HW.out.size))
              clear hq b0 c1 c2
              have c1 := (HW2.out.cell (p := ⟨b, o, none⟩) HBL.out).trans HZ1.out
              have c2 := (HW2.out.cell (p := ⟨b, o + 1, none⟩) HBL.out).trans HZ2.out
              go_wp2_with fail
              refine (C1.out _).mono ?_
              rintro e w4 ⟨v4, rfl, o4, b4⟩
              have O4 := Lib.hid (HO2.out.kept b4 (Nat.le_refl _))
              have R4 := Lib.hid o4.rd
              have W4 := Lib.hid (HW2.out.trans (b4.mono HW2.out.size))
              clear o4 b4 C1 c1 c2
              go_upto_region 12 with (at_builtin; refine wp_app rfl _ _ rfl w.heap.size _ _ (encF (fs.take 0)) (encI x) rfl rfl O4.out R4.out (by have := HXL.out; omega) (by have := HXE.out; omega) ?_; intro v5 w5 o5 g5 _; have b5 := grown_below O4.out g5; have O5 := Lib.hid o5; have W5 := Lib.hid (W4.out.trans b5); clear o5 b5 g5)
              have c2 := (W5.out.cell (p := ⟨b, o + 1, none⟩) HBL.out).trans HZ2.out
              have C2 := Lib.hid (rputInt_run d.length w5 (by have := HDL.out; omega) (by have := HDL.out; omega))
              go_wp2_with fail
              refine C2.out.mono ?_
              rintro e w6 ⟨v6, rfl, o6, b6⟩
              have O6 := Lib.hid (O5.out.kept b6 (Nat.le_refl _))
              have R6 := Lib.hid o6.rd
              have W6 := Lib.hid (W5.out.trans (b6.mono W5.out.size))
              clear o6 b6 C2 c2
              go_upto_region 13 with (at_builtin; refine wp_app rfl _ _ rfl w.heap.size _ _ _ (encI d.length) rfl rfl O6.out R6.out (by have := HXL.out; have := HXE.out; rw [List.length_append]; omega) (by have := HDE.out; omega) ?_; intro v7 w7 o7 g7 _; have b7 := grown_below O6.out g7; have O7 := Lib.hid o7; have W7 := Lib.hid (W6.out.trans b7); clear o7 b7 g7)
              have c2 := (W7.out.cell (p := ⟨b, o + 1, none⟩) HBL.out).trans HZ2.out
              have R7 := Lib.hid (RU.out.below W7.out)
              go_wp2_with (at_builtin; refine wp_app rfl _ _ rfl w.heap.size _ _ _ d rfl rfl O7.out R7.out (by have := HXL.out; have := HXE.out; have := HDE.out; simp only [List.length_append]; omega) (by have := HDL.out; omega) ?_; intro v8 w8 o8 g8 _; have b8 := grown_below O7.out g8; have O8 := Lib.hid o8; have W8 := Lib.hid (W7.out.trans b8); clear o8 b8 g8)
              refine ⟨⟨0 + 1, hlt, by go_num, Lib.hid (by rw [HS.out]; unfold encD; have := O8.out; simp only [List.append_assoc] at this ⊢; exact this), W8, HF, HK2⟩, by simp [intOf]; omega⟩
            · obtain ⟨m, rfl⟩ : ∃ m, j = m + 1 := ⟨j - 1, by omega⟩
              have hmp : m < ps.length := by omega
              have hml : m < fs.length := by omega
              obtain ⟨y, hy⟩ : ∃ y, y = (fs[m]).1 := ⟨_, rfl⟩
              have hyp : (ps[m]).1 = y := by rw [hy]; exact (HPS.out m hmp hml).1
              have c3 := (HW.out.cell (p := ⟨b, o + m * 2, none⟩) HBL.out).trans (f_at HDCL.out m hmp y _ hyp rfl).1
              have HY := Lib.hid (show prevT fs (m + 1) = y by rw [hy]; show (fs.getD m (0, [])).1 = _; rw [List.getD_eq_getElem?_getD, List.getElem?_eq_getElem hml]; rfl)
              have wm : IntKind.i64.wrap (m : Int) = (m : Int) := i64_in _ (by omega)
              clear hyp hy hj0
              by_cases hxy : x ≤ y
              · have HF := Lib.hid (show E = 1 by rw [HEE.out, HD.out, if_neg (by intro h; exact h ⟨hA2, hB2⟩), HY.out, if_pos hxy])
                go_wp2_with fail
                go_upto_region 9 with fail
                go_quiet (fail)
                generalize hq : wr.drewN nq = wq
                have b0 : Below wr.heap.size wr wq := by rw [← hq]; exact b_draws (Below.refl _ wr) _
                have HO2 := Lib.hid (HO.out.kept b0 (Nat.le_refl _))
                have HW2 := Lib.hid (HW.out.trans (b0.mono HW.out.size))
                clear hq b0 c1 c2
                clear c3
                go_wp2_with fail
                go_ret2
                rw [HPB.out, HF.out, if_neg (by decide)]
                exact ⟨_, rfl, fr_nil _ _, HW2.out⟩
              · have HF := Lib.hid (show E = chkF (prevT fs (m + 1 + 1)) (fs.drop (m + 1 + 1)) by rw [HEE.out, HD.out, if_neg (by intro h; exact h ⟨hA2, hB2⟩), HY.out, if_neg hxy])
                go_wp2_with fail
                go_upto_region 9 with fail
                go_quiet (fail)
                generalize hq : wr.drewN nq = wq
                have b0 : Below wr.heap.size wr wq := by rw [← hq]; exact b_draws (Below.refl _ wr) _
                have HO2 := Lib.hid (HO.out.kept b0 (Nat.le_refl _))
                have HW2 := Lib.hid (HW.out.trans (b0.mono HW.out.size))
                clear hq b0 c1 c2
                clear c3
                have c1 := (HW2.out.cell (p := ⟨b, o + (m + 1) * 2, none⟩) HBL.out).trans HC1.out
                have c2 := (HW2.out.cell (p := ⟨b, o + (m + 1) * 2 + 1, none⟩) HBL.out).trans HC2.out
                go_wp2_with fail
                refine (C1.out _).mono ?_
                rintro e w4 ⟨v4, rfl, o4, b4⟩
                have O4 := Lib.hid (HO2.out.kept b4 (Nat.le_refl _))
                have R4 := Lib.hid o4.rd
                have W4 := Lib.hid (HW2.out.trans (b4.mono HW2.out.size))
                clear o4 b4 C1 c1 c2
                go_upto_region 12 with (at_builtin; refine wp_app rfl _ _ rfl w.heap.size _ _ (encF (fs.take (m + 1))) (encI x) rfl rfl O4.out R4.out (by have := HXL.out; omega) (by have := HXE.out; omega) ?_; intro v5 w5 o5 g5 _; have b5 := grown_below O4.out g5; have O5 := Lib.hid o5; have W5 := Lib.hid (W4.out.trans b5); clear o5 b5 g5)
                have c2 := (W5.out.cell (p := ⟨b, o + (m + 1) * 2 + 1, none⟩) HBL.out).trans HC2.out
                have C2 := Lib.hid (rputInt_run d.length w5 (by have := HDL.out; omega) (by have := HDL.out; omega))
                go_wp2_with fail
                refine C2.out.mono ?_
                rintro e w6 ⟨v6, rfl, o6, b6⟩
                have O6 := Lib.hid (O5.out.kept b6 (Nat.le_refl _))
                have R6 := Lib.hid o6.rd
                have W6 := Lib.hid (W5.out.trans (b6.mono W5.out.size))
                clear o6 b6 C2 c2
                go_upto_region 13 with (at_builtin; refine wp_app rfl _ _ rfl w.heap.size _ _ _ (encI d.length) rfl rfl O6.out R6.out (by have := HXL.out; have := HXE.out; rw [List.length_append]; omega) (by have := HDE.out; omega) ?_; intro v7 w7 o7 g7 _; have b7 := grown_below O6.out g7; have O7 := Lib.hid o7; have W7 := Lib.hid (W6.out.trans b7); clear o7 b7 g7)
                have c2 := (W7.out.cell (p := ⟨b, o + (m + 1) * 2 + 1, none⟩) HBL.out).trans HC2.out
                have R7 := Lib.hid (RU.out.below W7.out)
                go_wp2_with (at_builtin; refine wp_app rfl _ _ rfl w.heap.size _ _ _ d rfl rfl O7.out R7.out (by have := HXL.out; have := HXE.out; have := HDE.out; simp only [List.length_append]; omega) (by have := HDL.out; omega) ?_; intro v8 w8 o8 g8 _; have b8 := grown_below O7.out g8; have O8 := Lib.hid o8; have W8 := Lib.hid (W7.out.trans b8); clear o8 b8 g8)
                refine ⟨⟨m + 1 + 1, hlt, by go_num, Lib.hid (by rw [HS.out]; unfold encD; have := O8.out; simp only [List.append_assoc] at this ⊢; exact this), W8, HF, HK2⟩, by simp [intOf]; omega⟩
      · obtain rfl : j = fs.length := by omega
        have HF := Lib.hid (show E = 0 by rw [HEE.out, List.drop_length]; rfl)
        have O := HO.out
        rw [List.take_length] at O
        have F := Lib.hid O.fr
        clear O
        go_wp2
        go_ret2
        rw [HPB.out, HF.out, if_pos rfl]
        exact ⟨_, rfl, F.out, HW.out⟩
end Go.Proofs.Ytlnnkdnnhmeldaa
