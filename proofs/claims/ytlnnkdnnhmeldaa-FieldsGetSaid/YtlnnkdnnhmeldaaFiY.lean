/-
  The reference's Get and PutList.
-/
import Derived.Test.YtlnnkdnnhmeldaaFiX
namespace Go.Proofs.Ytlnnkdnnhmeldaa
open Go.RowKit
open IntWalk
set_option linter.unusedVariables false

theorem OwnB.kept {w w1 : World} {base B : Nat} {v : Value} {l : List UInt8} (h : OwnB w base v l) (hb : Below B w w1) (hB : w.heap.size ≤ B) : OwnB w1 base v l := by
  obtain ⟨ho, hbs⟩ := h
  refine ⟨⟨ho.1, ?_⟩, Nat.le_trans hbs hb.size⟩
  rcases ho.2 with e | ⟨g, cap, cur, e, h2, hh, h3⟩
  · exact .inl e
  · exact .inr ⟨g, cap, cur, e, h2, (hb.block g (Nat.lt_of_lt_of_le (block_low hh) hB)).trans hh, h3⟩
theorem OwnF.kept {w w1 : World} {base : Nat} {v : Value} {fs : List Fd} (h : OwnF w base v fs) (hb : Below w.heap.size w w1) : OwnF w1 base v fs := by
  obtain ⟨ps, hr, hl, hbs, hf⟩ := h
  refine ⟨ps, ⟨hr.1, ?_⟩, hl, Nat.le_trans hbs hb.size, fun i h hz => ⟨(hf i h hz).1, (hf i h hz).2.kept hb (Nat.le_refl _)⟩⟩
  rcases hr.2 with e | ⟨k, cap, cur, e, h2, hh, h3⟩
  · exact .inl e
  · exact .inr ⟨k, cap, cur, e, h2, (hb.block k (block_low hh)).trans hh, h3⟩
/-- What the reference's Get returns: a slice that reads as the data. -/
def RGetG (w : World) (r : Option (List UInt8)) (e : Ending) (w' : World) : Prop := ∃ u, e = .returned (.tuple #[u, .bool r.isSome]) ∧ RdB w u (r.getD []) ∧ w' = w
set_option maxHeartbeats 8000000 in
set_option maxRecDepth 10000 in
theorem rget_run (v : Value) (fs : List Fd) (tag : Int) (w : World) (h : RdF w v fs) (hl : fs.length ≤ 100000) :
    Calls Try.prog 26 #[v, .int .i64 tag] w (RGetG w (getR fs tag)) := by
  obtain ⟨p, c, ps, rfl, hc, hm, hlen, hps, hat⟩ := h
  obtain ⟨G, hG⟩ : ∃ G, G = getR fs tag := ⟨_, rfl⟩
  have HG := Lib.hid hG
  rw [← hG]
  have HAT := Lib.hid hat
  have HPS := Lib.hid hps
  have HLEN := Lib.hid hlen
  clear hG hat hps hlen
  go_enter Try.func26, Try.ntmps26
  go_wp2_with fail
  go_loop [6] (fun i => ∃ j : Nat, j ≤ fs.length ∧ i = .int .i64 j ∧ Hid (G = getR (fs.drop j) tag)) (fun i => fs.length - (intOf i).toNat)
  case atStart => exact ⟨0, Nat.zero_le _, rfl, HG⟩
  case round =>
    obtain ⟨j, hj, rfl, HGG⟩ := hrel
    clear HG
    by_cases hlt : j < fs.length
    · obtain ⟨b, o, rfl, hbl, hcl⟩ := HAT.out (fun e => by rw [e] at hlt; exact absurd hlt (Nat.not_lt_zero _))
      have hjp : j < ps.length := by have := HLEN.out; omega
      obtain ⟨x, hx⟩ : ∃ x, x = (fs[j]).1 := ⟨_, rfl⟩
      obtain ⟨d, hd⟩ : ∃ d, d = (fs[j]).2 := ⟨_, rfl⟩
      obtain ⟨u, hu⟩ : ∃ u, u = (ps[j]).2 := ⟨_, rfl⟩
      have cc := f_at hcl j hjp x u (by rw [hx]; exact (HPS.out j hjp hlt).1) hu.symm
      have ru := (HPS.out j hjp hlt).2
      rw [← hu, ← hd] at ru
      have RU := Lib.hid ru
      obtain ⟨pu, cu, rfl, _, _, _⟩ := ru
      have c1 := cc.1
      have c2 := cc.2
      have HD := Lib.hid (getR_drop fs tag j hlt)
      rw [← hx, ← hd] at HD
      clear cc hx hd hu hcl HAT
      by_cases hxt : x = tag
      · have HF := Lib.hid (show G = some d by rw [HGG.out, HD.out, if_pos hxt])
        have hz : (x == tag) = true := by simpa using hxt
        clear hxt
        go_wp2_with fail
        go_ret2
        rw [HF.out]
        exact ⟨_, rfl, RU.out, rfl⟩
      · have HF := Lib.hid (show G = getR (fs.drop (j + 1)) tag by rw [HGG.out, HD.out, if_neg hxt])
        have hz : (x == tag) = false := by simpa using hxt
        clear hxt
        go_wp2_with fail
        refine ⟨⟨j + 1, hlt, by go_num, HF⟩, by simp [intOf]; omega⟩
    · obtain rfl : j = fs.length := by omega
      have HF := Lib.hid (show G = none by rw [HGG.out, List.drop_length]; rfl)
      go_wp2
      go_ret2
      rw [HF.out]
      exact ⟨_, rfl, rdB_nil _, rfl⟩

set_option maxHeartbeats 8000000 in
set_option maxRecDepth 10000 in
theorem rputList_run (v : Value) (ls : List (List UInt8)) (w : World) (h : RdP w v ls) (hl : ls.length ≤ 100000) (ht : total ls ≤ 100000) :
    Calls Try.prog 28 #[v] w (GivesB w (putLK ls) (putLB ls)) := by
  obtain ⟨p, c, vs, rfl, hc, hm, hlen, hps, hat⟩ := h
  by_cases hbig : 256 < ls.length
  · have e1 : putLK ls = 3 := by unfold putLK; rw [if_pos hbig]
    have e2 : putLB ls = [] := by unfold putLB; rw [if_pos hbig]
    rw [e1, e2]
    clear e1 e2 hat hps
    go_enter Try.func28, Try.ntmps28
    go_wp2_with fail
    go_ret2
    exact ⟨_, rfl, fr_nil _ _, Below.refl _ _⟩
  · have e1 : putLK ls = 0 := by unfold putLK; rw [if_neg hbig]
    have e2 : putLB ls = encI ls.length ++ encM ls := by unfold putLB; rw [if_neg hbig, encL_is]
    rw [e1, e2]
    have hn : ls.length ≤ 256 := by omega
    have C := Lib.hid (rputInt_run ls.length w (by omega) (by omega))
    have HXE := Lib.hid (encI_ten (ls.length : Int) (by omega) (by omega))
    obtain ⟨H, hH⟩ : ∃ H, H = encI ls.length := ⟨_, rfl⟩
    rw [← hH] at C HXE ⊢
    have HAT := Lib.hid hat
    have HPS := Lib.hid hps
    have HLEN := Lib.hid hlen
    have HT := Lib.hid ht
    clear e1 e2 hH hbig hat hps hlen ht
    go_enter Try.func28, Try.ntmps28
    go_wp2_with fail
    refine C.out.mono ?_
    rintro e w1 ⟨v1, rfl, o1, b1⟩
    have O1 := Lib.hid o1
    have B1 := Lib.hid b1
    clear b1 C o1
    go_wp2_with fail
    go_loopw [4, 5] (fun bv i wr => ∃ j : Nat, j ≤ ls.length ∧ i = .int .i64 j ∧ Hid (OwnB wr w.heap.size bv (H ++ encM (ls.take j))) ∧ Hid (Below w.heap.size w wr)) (fun _ i _ => ls.length - (intOf i).toNat)
    case atStart => exact ⟨0, Nat.zero_le _, rfl, Lib.hid (by rw [show H ++ encM (ls.take 0) = H by simp [encM]]; exact O1.out), B1⟩
    case round =>
      obtain ⟨j, hj, rfl, HO, HW⟩ := hrel
      clear B1 O1
      by_cases hlt : j < ls.length
      · obtain ⟨b, o, rfl, hbl, hcl⟩ := HAT.out (fun e => by rw [e] at hlt; exact absurd hlt (Nat.not_lt_zero _))
        have HBL := Lib.hid hbl
        have hjp : j < vs.length := by have := HLEN.out; omega
        obtain ⟨d, hd⟩ : ∃ d, d = ls[j] := ⟨_, rfl⟩
        obtain ⟨u, hu⟩ : ∃ u, u = vs[j] := ⟨_, rfl⟩
        have cc := hcl j hjp
        have ru := HPS.out j hjp hlt
        rw [← hu] at cc
        rw [← hu, ← hd] at ru
        have RU := Lib.hid ru
        obtain ⟨pu, cu, rfl, _, _, _⟩ := ru
        have HC := Lib.hid cc
        have c1 := (HW.out.cell (p := ⟨b, o + j, none⟩) HBL.out).trans cc
        have HS := Lib.hid (encM_snoc ls j hlt)
        rw [← hd] at HS
        have hdl : d.length ≤ 100000 := by rw [hd]; exact Nat.le_trans (total_get ls j hlt) HT.out
        have hxl : (H ++ encM (ls.take j)).length ≤ 110000 := by
          have h1 := encM_len (ls.take j) (Nat.le_trans (total_take ls j) HT.out)
          have h2 := total_take ls j
          have h3 := HT.out
          have h4 := HXE.out
          rw [List.length_take] at h1
          rw [List.length_append]
          omega
        have HXL := Lib.hid hxl
        have HDL := Lib.hid hdl
        have HDE := Lib.hid (encI_ten (d.length : Int) (by omega) (by omega))
        have C2 := Lib.hid (rputInt_run d.length wr (by omega) (by omega))
        clear cc hd hu hdl hxl hcl hbl HAT
        go_wp2_with fail
        refine C2.out.mono ?_
        rintro e w4 ⟨v4, rfl, o4, b4⟩
        have O4 := Lib.hid (HO.out.kept b4 (Nat.le_refl _))
        have R4 := Lib.hid o4.rd
        have W4 := Lib.hid (HW.out.trans (b4.mono HW.out.size))
        have BK := Lib.hid (show blk v4 w4.heap.size from rd_block o4.rd)
        clear o4 b4 C2 c1
        go_upto_region 8 with (at_builtin; refine wp_app rfl _ _ rfl w.heap.size _ _ (H ++ encM (ls.take j)) (encI d.length) rfl rfl O4.out R4.out (by have := HXL.out; omega) (by have := HDE.out; omega) ?_; intro v5 w5 o5 g5 _; have b5 := grown_below O4.out g5; have O5 := Lib.hid o5; have W5 := Lib.hid (W4.out.trans b5); clear o5 b5 g5)
        have c2 := (W5.out.cell (p := ⟨b, o + j, none⟩) HBL.out).trans HC.out
        have R5 := Lib.hid (RU.out.below W5.out)
        go_wp2_with (at_builtin; refine wp_app rfl _ _ rfl w.heap.size _ _ _ d rfl rfl O5.out R5.out (by have := HXL.out; have := HDE.out; rw [List.length_append]; omega) (by have := HDL.out; omega) ?_; intro v6 w6 o6 g6 _; have b6 := grown_below O5.out g6; have O6 := Lib.hid o6; have W6 := Lib.hid (W5.out.trans b6); clear o6 b6 g6)
        refine ⟨⟨j + 1, hlt, by go_num, Lib.hid (by rw [HS.out]; unfold encD; have := O6.out; simp only [List.append_assoc] at this ⊢; exact this), W6⟩, by simp [intOf]; omega⟩
      · obtain rfl : j = ls.length := by omega
        have O := HO.out
        rw [List.take_length] at O
        have F := Lib.hid O.fr
        clear O
        go_wp2
        go_ret2
        exact ⟨_, rfl, F.out, HW.out⟩
end Go.Proofs.Ytlnnkdnnhmeldaa
