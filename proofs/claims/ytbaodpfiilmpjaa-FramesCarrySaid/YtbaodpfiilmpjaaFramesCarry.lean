/-
  The law FramesCarry holds: for every input it returns true and leaves its arguments as they were.
-/
import Derived.Test.YtbaodpfiilmpjaaRows
import Derived.Test.YtbaodpfiilmpjaaToA
import Derived.WalkKit
import Derived.BigQuiet
namespace Go.Proofs.Ytbaodpfiilmpjaa
namespace framesCarry
open Go.ChangeShapes Go.WideShapes Go.ChangeAt Go.RowKit
open IntWalk
set_option linter.unusedVariables false

def lenV : Value → Nat
  | .slice _ n _ => n
  | _ => 0
set_option maxHeartbeats 16000000 in
set_option maxRecDepth 100000 in
theorem walk (v : Value) (ls : List (List UInt8)) (z : Int) (w : World) (Rl : RdP w v ls) (hz : 0 ≤ z ∧ z < 256) :
    Calls Try.prog 3 #[v, .int .u8 z] w fun e w' => e = .returned (.bool true) ∧ Below w.heap.size w w' := by
  have RL := Lib.hid Rl
  obtain ⟨p, c, vs, rfl, hc, hm, hlen, hps, hat⟩ := Rl
  unfold maxLen at hm
  by_cases hbig : 20 < ls.length
  · clear hps hat
    go_enter Try.func3, Try.ntmps3
    go_wp2_with fail
    go_ret
    exact ⟨rfl, Below.refl _ _⟩
  · have hn : ls.length ≤ 20 := by omega
    have HN := Lib.hid hn
    have HPS := Lib.hid hps
    have HLEN := Lib.hid hlen
    have HAT := Lib.hid hat
    have Z := Lib.hid hz
    clear hbig hlen hps hat
    go_enter Try.func3, Try.ntmps3
    go_wp2_with fail
    go_loopw [5, 29] (fun sv i wr => ∃ j : Nat, j ≤ ls.length ∧ i = .int .i64 j ∧ Hid (OwnB wr w.heap.size sv (strm ls j)) ∧ Hid (Below w.heap.size w wr) ∧ Hid (∀ i (h : i < ls.length), i < j → (ls[i]).length ≤ 300)) (fun _ i _ => ls.length - (intOf i).toNat)
    case atStart => exact ⟨0, Nat.zero_le _, rfl, Lib.hid (by rw [strm_zero]; exact OwnB.none_ w _ (Nat.le_refl _)), Lib.hid (Below.refl _ _), Lib.hid (fun i _ h => absurd h (Nat.not_lt_zero _))⟩
    case round =>
      obtain ⟨j, hj, rfl, HO, HW, HS⟩ := hrel
      by_cases hlt : j < ls.length
      · obtain ⟨b, o, rfl, hbl, hcl⟩ := HAT.out (fun e => by rw [e] at hlt; exact absurd hlt (Nat.not_lt_zero _))
        have hjp : j < vs.length := by have := HLEN.out; omega
        obtain ⟨d, hd⟩ : ∃ d, d = ls[j] := ⟨_, rfl⟩
        obtain ⟨u, hu⟩ : ∃ u, u = vs[j] := ⟨_, rfl⟩
        have cc := hcl j hjp
        have ru := HPS.out j hjp hlt
        rw [← hu] at cc
        rw [← hu, ← hd] at ru
        have RU := Lib.hid ru
        obtain ⟨pu, cu, rfl, _, _, _⟩ := ru
        have c1 := (HW.out.cell (p := ⟨b, o + j, none⟩) hbl).trans cc
        have HD := Lib.hid hd
        clear cc hd hu hcl hbl HAT
        by_cases hb3 : 300 < d.length
        · go_wp2_with fail
          go_ret
          exact ⟨rfl, HW.out⟩
        · have hb3 : d.length ≤ 300 := by omega
          have HB3 := Lib.hid hb3
          have C1 := Lib.hid (putInt_run j wr (by omega) (by omega))
          go_wp2_with fail
          refine C1.out.mono ?_
          rintro e w1 ⟨v1, rfl, o1, b1⟩
          have R1 := Lib.hid o1.rd
          have O1 := Lib.hid (HO.out.kept b1 (Nat.le_refl _))
          have W1 := Lib.hid (HW.out.trans (b1.mono HW.out.size))
          have C2 := Lib.hid (put_run _ _ _ (two_rec w1 v1 (.slice pu d.length cu) (encI j) d R1.out (RU.out.below W1.out)) (by simp) (by have := total_rec j d (by omega) HB3.out; unfold rec0 at this; omega))
          have hE : putE [(1, encI (j : Int)), (2, d)] = 0 := putE_rec j d
          have hPB : putB [(1, encI (j : Int)), (2, d)] = rec1 j d := putB_rec j d
          rw [hE, hPB] at C2
          unfold GivesB at C2
          clear o1 b1 C1 c1 hE hPB
          obtain ⟨q1, k1, rfl, _, _, _⟩ := R1.out
          go_wp2_with fail
          refine C2.out.mono ?_
          rintro e w2 ⟨v2, rfl, f2, b2⟩
          have R2 := Lib.hid f2.rd
          have b2c : Below w1.heap.size w1 w2 := ((Below.refl _ w1).alloc (Nat.le_refl _) _).trans (b2.mono (by simp))
          have O2 := Lib.hid (O1.out.kept b2c (Nat.le_refl _))
          have W2 := Lib.hid (W1.out.trans (b2c.mono W1.out.size))
          have C3 := Lib.hid (F.pack_run v2 (rec1 j d) w2 (by have := rec1_len j d (by omega) HB3.out; omega) (toF R2.out))
          clear f2 b2 b2c C2
          go_wp2_with fail
          refine C3.out.mono ?_
          rintro e w3 ⟨⟨v3, rfl, o3⟩, b3⟩
          have R3 := Lib.hid (ofFO o3).rd
          have O3 := Lib.hid (O2.out.kept b3 (Nat.le_refl _))
          have W3 := Lib.hid (W2.out.trans (b3.mono W2.out.size))
          have HSN := Lib.hid (strm_next ls j hlt)
          rw [← HD.out] at HSN
          have HSL := Lib.hid (strm_len ls HN.out j HS.out)
          have HFL := Lib.hid (F.frm_two (rec1 j d))
          have HRL := Lib.hid (rec1_len j d (by omega) HB3.out)
          have HS2 := Lib.hid (show ∀ i (h : i < ls.length), i < j + 1 → (ls[i]).length ≤ 300 by
            intro i h hi
            by_cases e : i < j
            · exact HS.out i h e
            · obtain rfl : i = j := by omega
              rw [← HD.out]; exact HB3.out)
          clear o3 b3 C3 HS
          go_wp2_with (at_builtin; refine wp_app rfl _ _ rfl w.heap.size _ _ (strm ls j) (F.frm (rec1 j d)) rfl rfl O3.out R3.out (by have := HSL.out; omega) (by have := HFL.out; have := HRL.out; omega) ?_; intro v5 w5 o5 g5 _; have b5 := grown_below O3.out g5; have O5 := Lib.hid o5; have W5 := Lib.hid (W3.out.trans b5); clear o5 b5 g5)
          refine ⟨⟨j + 1, hlt, by go_num, Lib.hid (by rw [HSN.out]; exact O5.out), W5, HS2⟩, by simp [intOf]; omega⟩
      · obtain rfl : j = ls.length := by omega
        have hlast := HO.out.rd
        rw [strm_all] at hlast
        have RS := Lib.hid hlast
        have HALL := Lib.hid (recs_all ls HN.out (fun i h => HS.out i h h))
        have HLS := Lib.hid (fun i (h : i < ls.length) => HS.out i h h)
        clear HO HS hlast
        obtain ⟨ps1, cs1, rfl, _, _, _⟩ := RS.out
        obtain ⟨zn, rfl⟩ := Int.eq_ofNat_of_zero_le Z.out.1
        have hzn : zn < 256 := by have := Z.out.2; omega
        have wz : IntKind.i64.wrap (zn : Int) = (zn : Int) := i64_in _ (by omega)
        have HN2 := Lib.hid (show ls.length ≤ ls.length from Nat.le_refl _)
        clear Z
        go_wp2_with fail
        go_loopw [5, 11, 12] (fun sv rv kv wr2 => ∃ (cq y : List UInt8) (k : Nat), k ≤ ls.length ∧ kv = .int .i64 k ∧ Hid ((recs ls).flatMap F.frm = cq ++ y) ∧ Hid (RdB wr2 sv y) ∧ Hid (RdB wr2 rv (F.feedR cq)) ∧ Hid (F.feedP cq = (recs ls).take k) ∧ Hid (Below w.heap.size w wr2)) (fun sv _ _ _ => lenV sv)
        case atStart => exact ⟨[], (recs ls).flatMap F.frm, 0, Nat.zero_le _, rfl, Lib.hid rfl, RS, Lib.hid (rdB_nil _), Lib.hid rfl, HW⟩
        case round =>
          obtain ⟨cq, y, k, hk, rfl, HY, HS, HR, HP, HW2⟩ := hrel
          clear RS HW
          obtain ⟨ps2, cs2, rfl, hcs, hms, hats⟩ := HS.out
          unfold maxLen at hms
          by_cases hy : y.length = 0
          · have hy0 : y = [] := List.length_eq_zero_iff.1 hy
            have hk2 : k = ls.length := by
              have e := HY.out
              rw [hy0, List.append_nil] at e
              have e2 := F.feedP_all (recs ls) (fun p hp => by have := HALL.out p hp; omega)
              rw [e, HP.out] at e2
              have e3 := congrArg List.length e2
              rw [List.length_take, recs_len] at e3
              omega
            subst hk2
            have hzz : (((y.length : Nat) : Int) > 0) = False := by rw [hy]; simp
            clear hats
            go_wp2_with fail
            go_ret
            exact ⟨by simp, HW2.out⟩
          · have hyn : y ≠ [] := fun e => hy (by rw [e]; rfl)
            obtain ⟨b, o, rfl, hbl⟩ := hats hyn
            have hy1 : 0 < y.length := by omega
            obtain ⟨M, hM⟩ : ∃ M, M = min y.length (zn + 1) := ⟨_, rfl⟩
            have hM1 : M ≤ y.length := by omega
            have hM2 : 0 < M := by omega
            have hMI : min ((y.length : Nat) : Int) ((zn : Int) + 1) = (M : Int) := by omega
            have RC := Lib.hid (rd_take HS.out M hM1)
            have hMc : M ≤ cs2 := by omega
            have C1 := Lib.hid (fun (x : Unit) => F.feed_own)
            have HYL := Lib.hid (show y.length ≤ 20000 by
              have := frms_len (recs ls) HALL.out
              rw [recs_len, HY.out, List.length_append] at this
              have := HN.out
              omega)
            have HCL := Lib.hid (show cq.length ≤ 20000 by
              have := frms_len (recs ls) HALL.out
              rw [recs_len, HY.out, List.length_append] at this
              have := HN.out
              omega)
            clear C1 hats hbl hyn hy
            have C1 := Lib.hid (fun rv (R : RdB wr rv (F.feedR cq)) => F.feed_own rv (.slice (some ⟨b, o, none⟩) M cs2) (F.feedR cq) (y.take M) wr (by have := F.feedR_len cq; have := HCL.out; omega) (by have := HYL.out; rw [List.length_take]; omega) (toF R) (toF RC.out))
            have hM3 : M = y.length ∨ M = zn + 1 := by omega
            clear hM
            go_wp2_with fail
            refine (C1.out _ HR.out).mono ?_
            rintro e w2 ⟨⟨r2, m2, rfl, fr2, om2⟩, b2⟩
            have ST := F.carry_step (recs ls) HALL.out cq (y.take M) (y.drop M) (by rw [List.take_append_drop]; exact HY.out) k (by rw [recs_len]; exact hk) HP.out
            have RR2 := Lib.hid (show RdB w2 r2 (F.feedR (cq ++ y.take M)) by rw [ST.1]; exact ofF fr2.rd)
            have HP2 := Lib.hid ST.2.2.1
            have HG := Lib.hid ST.2.2.2
            have hkl := ST.2.1
            rw [recs_len] at hkl
            have RG := Lib.hid (ofFP om2.rd)
            obtain ⟨G, hG⟩ : ∃ G, G = F.feedP (F.feedR cq ++ y.take M) := ⟨_, rfl⟩
            rw [← hG] at HP2 HG hkl RG
            have W2 := Lib.hid (HW2.out.trans (b2.mono HW2.out.size))
            have RY := Lib.hid (HS.out.below b2)
            have RL2 := Lib.hid (RL.out.below W2.out)
            have HY2 := Lib.hid (show (recs ls).flatMap F.frm = (cq ++ y.take M) ++ y.drop M by rw [List.append_assoc, List.take_append_drop]; exact HY.out)
            clear b2 fr2 om2 hG ST C1 HR HP HS HW2 HY RC
            have hyl : (y.drop M).length = y.length - M := List.length_drop ..
            obtain ⟨pg, cg0, vg, rfl, hgc, hgm, hgl, hgr, hga⟩ := RG.out
            unfold maxLen at hgm
            have HGL := Lib.hid hgl
            have HGR := Lib.hid hgr
            have HGA := Lib.hid hga
            clear hgl hgr hga RG
            by_cases hcap : cs2 = M
            · have RS2 := Lib.hid (show RdB w2 (.slice (some ⟨b, o, none⟩) 0 0) (y.drop M) by
                have := rd_drop_any RY.out M hM1 (some ⟨b, o, none⟩) (fun h => absurd h (by omega))
                rw [show y.length - M = 0 by omega, show cs2 - M = 0 by omega] at this
                exact this)
              subst hcap
              go_wp2_with fail
              go_loopw [12, 82] (fun kv iv wr3 => ∃ i : Nat, i ≤ G.length ∧ iv = .int .i64 i ∧ kv = .int .i64 ((k + i : Nat) : Int) ∧ Hid (Below w2.heap.size w2 wr3)) (fun _ iv _ => G.length - (intOf iv).toNat)
              case atStart => exact ⟨0, Nat.zero_le _, rfl, rfl, Lib.hid (Below.refl _ _)⟩
              case round =>
                obtain ⟨i, hi, rfl, rfl, HB⟩ := hrel
                by_cases hlt2 : i < G.length
                · have hq : k + i < ls.length := by omega
                  have hgi := HG.out i hlt2
                  obtain ⟨q, hq1⟩ : ∃ q, q = k + i := ⟨_, rfl⟩
                  rw [← hq1] at hq hgi ⊢
                  have HQ := Lib.hid hq1
                  clear hq1
                  have hgd : G[i] = rec1 q ls[q] := by rw [recs_get? ls q hq] at hgi; injection hgi with hgi; exact hgi.symm
                  obtain ⟨bg, og, rfl, hbg, hcg⟩ := HGA.out (fun z => by rw [z] at hlt2; exact absurd hlt2 (Nat.not_lt_zero _))
                  obtain ⟨b0, o0, rfl, hb0, hc0⟩ := HAT.out (fun z => by rw [z] at hq; exact absurd hq (Nat.not_lt_zero _))
                  have hig : i < vg.length := by have := HGL.out; omega
                  have hqv : q < vs.length := by have := HLEN.out; omega
                  have rg := HGR.out i hig hlt2
                  rw [hgd] at rg
                  have rl := HPS.out q hqv hq
                  have cg := hcg i hig
                  have cl := hc0 q hqv
                  obtain ⟨d, hd⟩ : ∃ d, d = ls[q] := ⟨_, rfl⟩
                  obtain ⟨ug, hug⟩ : ∃ ug, ug = vg[i] := ⟨_, rfl⟩
                  obtain ⟨ul, hul⟩ : ∃ ul, ul = vs[q] := ⟨_, rfl⟩
                  rw [← hd, ← hug] at rg
                  rw [← hd, ← hul] at rl
                  rw [← hug] at cg
                  rw [← hul] at cl
                  have hd3 : d.length ≤ 300 := by rw [hd]; exact HLS.out q hq
                  have HD3 := Lib.hid hd3
                  have c1 := (HB.out.cell (p := ⟨bg, og + i, none⟩) hbg).trans cg
                  have C2 := Lib.hid (take_run ug (rec1 q d) wr (rg.below HB.out) (by have := rec1_len q d (by have := HN.out; omega) hd3; omega))
                  rw [tak_rec q d (by have := HN.out; omega) hd3] at C2
                  unfold GivesF at C2
                  have hk0 : kR (Except.ok (rec0 q d) : Except Int (List Fd)) = 0 := rfl
                  have hqq : ((q : Int) != (q : Int)) = false := by simp
                  have HCL := Lib.hid (And.intro hb0 cl)
                  have RLQ := Lib.hid rl
                  have HT3 := Lib.hid (total_rec q d (by have := HN.out; omega) hd3)
                  clear hgi hgd rg rl cg cl hd hug hul hcg hc0 hd3 hb0 hbg hig hqv
                  go_wp2_with fail
                  refine C2.out.mono ?_
                  rintro e w4 ⟨u4, rfl, f4, b4⟩
                  have F4 := Lib.hid (show RdF w4 u4 (rec0 q d) from f4)
                  have B4 := Lib.hid (HB.out.trans (b4.mono HB.out.size))
                  have C5 := Lib.hid (get_run u4 (rec0 q d) 1 w4 F4.out (by unfold rec0; simp) (by have := HT3.out; omega))
                  rw [get_rec1] at C5
                  unfold GivesGet at C5
                  clear f4 b4 C2 c1
                  go_wp2_with fail
                  refine C5.out.mono ?_
                  rintro e w5 ⟨u5, rfl, f5, b5⟩
                  have R5 := Lib.hid (show RdB w5 u5 (encI q) from f5.rd)
                  have B5 := Lib.hid (bt B4.out b5)
                  have C6 := Lib.hid (get_run u4 (rec0 q d) 2 w5 (F4.out.below b5) (by unfold rec0; simp) (by have := HT3.out; omega))
                  rw [get_rec2] at C6
                  unfold GivesGet at C6
                  clear f5 b5 C5 F4
                  go_wp2_with fail
                  refine C6.out.mono ?_
                  rintro e w6 ⟨u6, rfl, f6, b6⟩
                  have R6 := Lib.hid (show RdB w6 u6 d from f6.rd)
                  have B6 := Lib.hid (bt B5.out b6)
                  have C7 := Lib.hid (takeInt_run u5 (encI q) w6 (R5.out.below b6) (by have := encI_ten (q : Int) (by omega) (by have := HN.out; omega); omega))
                  rw [intR_enc (q : Int) (by omega) (by have := HN.out; omega)] at C7
                  dsimp only at C7
                  clear f6 b6 C6 R5
                  go_wp2_with fail
                  refine C7.out.mono ?_
                  rintro e w7 ⟨rfl, b7⟩
                  have B7 := Lib.hid (bt B6.out b7)
                  have W7 := Lib.hid (bt W2.out B7.out)
                  have k1 := fun n => str_of (w7.drewN n) u6 d ((R6.out.below b7).draws n)
                  have k2 := fun n => str_of (w7.drewN n) ul d ((RLQ.out.below W7.out).draws n)
                  have c9 := (W7.out.cell (p := ⟨b0, o0 + q, none⟩) HCL.out.1).trans HCL.out.2
                  clear b7 C7
                  go_upto_region 33 with fail
                  go_quiet (fail)
                  have b8 := b_draws B7.out nq
                  revert b8
                  generalize w7.drewN nq = w9
                  intro b8
                  have B8 := Lib.hid b8
                  clear b8 k1 k2 c9 B7 W7
                  go_wp2_with fail
                  refine ⟨⟨i + 1, hlt2, by go_num, by have h9 := HQ.out; first | go_num | (simp only [Value.int.injEq, true_and]; omega), B8⟩, by simp [intOf]; omega⟩
                · obtain rfl : i = G.length := by omega
                  go_wp2_with fail
                  refine ⟨⟨cq ++ y.take cs2, y.drop cs2, k + G.length, by omega, rfl, HY2, Lib.hid (RS2.out.below HB.out), Lib.hid (RR2.out.below HB.out), HP2, Lib.hid (W2.out.trans (HB.out.mono W2.out.size))⟩, by simp only [lenV]; omega⟩
            · have hcap2 : M < cs2 := by omega
              have RS2 := Lib.hid (show RdB w2 (.slice (some ⟨b, o + M, none⟩) (y.length - M) (cs2 - M)) (y.drop M) from rd_drop RY.out M hM1 (some ⟨b, o + M, none⟩) (fun _ => rfl))
              clear hcap
              go_wp2_with fail
              go_loopw [12, 82] (fun kv iv wr3 => ∃ i : Nat, i ≤ G.length ∧ iv = .int .i64 i ∧ kv = .int .i64 ((k + i : Nat) : Int) ∧ Hid (Below w2.heap.size w2 wr3)) (fun _ iv _ => G.length - (intOf iv).toNat)
              case atStart => exact ⟨0, Nat.zero_le _, rfl, rfl, Lib.hid (Below.refl _ _)⟩
              case round =>
                obtain ⟨i, hi, rfl, rfl, HB⟩ := hrel
                by_cases hlt2 : i < G.length
                · have hq : k + i < ls.length := by omega
                  have hgi := HG.out i hlt2
                  obtain ⟨q, hq1⟩ : ∃ q, q = k + i := ⟨_, rfl⟩
                  rw [← hq1] at hq hgi ⊢
                  have HQ := Lib.hid hq1
                  clear hq1
                  have hgd : G[i] = rec1 q ls[q] := by rw [recs_get? ls q hq] at hgi; injection hgi with hgi; exact hgi.symm
                  obtain ⟨bg, og, rfl, hbg, hcg⟩ := HGA.out (fun z => by rw [z] at hlt2; exact absurd hlt2 (Nat.not_lt_zero _))
                  obtain ⟨b0, o0, rfl, hb0, hc0⟩ := HAT.out (fun z => by rw [z] at hq; exact absurd hq (Nat.not_lt_zero _))
                  have hig : i < vg.length := by have := HGL.out; omega
                  have hqv : q < vs.length := by have := HLEN.out; omega
                  have rg := HGR.out i hig hlt2
                  rw [hgd] at rg
                  have rl := HPS.out q hqv hq
                  have cg := hcg i hig
                  have cl := hc0 q hqv
                  obtain ⟨d, hd⟩ : ∃ d, d = ls[q] := ⟨_, rfl⟩
                  obtain ⟨ug, hug⟩ : ∃ ug, ug = vg[i] := ⟨_, rfl⟩
                  obtain ⟨ul, hul⟩ : ∃ ul, ul = vs[q] := ⟨_, rfl⟩
                  rw [← hd, ← hug] at rg
                  rw [← hd, ← hul] at rl
                  rw [← hug] at cg
                  rw [← hul] at cl
                  have hd3 : d.length ≤ 300 := by rw [hd]; exact HLS.out q hq
                  have HD3 := Lib.hid hd3
                  have c1 := (HB.out.cell (p := ⟨bg, og + i, none⟩) hbg).trans cg
                  have C2 := Lib.hid (take_run ug (rec1 q d) wr (rg.below HB.out) (by have := rec1_len q d (by have := HN.out; omega) hd3; omega))
                  rw [tak_rec q d (by have := HN.out; omega) hd3] at C2
                  unfold GivesF at C2
                  have hk0 : kR (Except.ok (rec0 q d) : Except Int (List Fd)) = 0 := rfl
                  have hqq : ((q : Int) != (q : Int)) = false := by simp
                  have HCL := Lib.hid (And.intro hb0 cl)
                  have RLQ := Lib.hid rl
                  have HT3 := Lib.hid (total_rec q d (by have := HN.out; omega) hd3)
                  clear hgi hgd rg rl cg cl hd hug hul hcg hc0 hd3 hb0 hbg hig hqv
                  go_wp2_with fail
                  refine C2.out.mono ?_
                  rintro e w4 ⟨u4, rfl, f4, b4⟩
                  have F4 := Lib.hid (show RdF w4 u4 (rec0 q d) from f4)
                  have B4 := Lib.hid (HB.out.trans (b4.mono HB.out.size))
                  have C5 := Lib.hid (get_run u4 (rec0 q d) 1 w4 F4.out (by unfold rec0; simp) (by have := HT3.out; omega))
                  rw [get_rec1] at C5
                  unfold GivesGet at C5
                  clear f4 b4 C2 c1
                  go_wp2_with fail
                  refine C5.out.mono ?_
                  rintro e w5 ⟨u5, rfl, f5, b5⟩
                  have R5 := Lib.hid (show RdB w5 u5 (encI q) from f5.rd)
                  have B5 := Lib.hid (bt B4.out b5)
                  have C6 := Lib.hid (get_run u4 (rec0 q d) 2 w5 (F4.out.below b5) (by unfold rec0; simp) (by have := HT3.out; omega))
                  rw [get_rec2] at C6
                  unfold GivesGet at C6
                  clear f5 b5 C5 F4
                  go_wp2_with fail
                  refine C6.out.mono ?_
                  rintro e w6 ⟨u6, rfl, f6, b6⟩
                  have R6 := Lib.hid (show RdB w6 u6 d from f6.rd)
                  have B6 := Lib.hid (bt B5.out b6)
                  have C7 := Lib.hid (takeInt_run u5 (encI q) w6 (R5.out.below b6) (by have := encI_ten (q : Int) (by omega) (by have := HN.out; omega); omega))
                  rw [intR_enc (q : Int) (by omega) (by have := HN.out; omega)] at C7
                  dsimp only at C7
                  clear f6 b6 C6 R5
                  go_wp2_with fail
                  refine C7.out.mono ?_
                  rintro e w7 ⟨rfl, b7⟩
                  have B7 := Lib.hid (bt B6.out b7)
                  have W7 := Lib.hid (bt W2.out B7.out)
                  have k1 := fun n => str_of (w7.drewN n) u6 d ((R6.out.below b7).draws n)
                  have k2 := fun n => str_of (w7.drewN n) ul d ((RLQ.out.below W7.out).draws n)
                  have c9 := (W7.out.cell (p := ⟨b0, o0 + q, none⟩) HCL.out.1).trans HCL.out.2
                  clear b7 C7
                  go_upto_region 33 with fail
                  go_quiet (fail)
                  have b8 := b_draws B7.out nq
                  revert b8
                  generalize w7.drewN nq = w9
                  intro b8
                  have B8 := Lib.hid b8
                  clear b8 k1 k2 c9 B7 W7
                  go_wp2_with fail
                  refine ⟨⟨i + 1, hlt2, by go_num, by have h9 := HQ.out; first | go_num | (simp only [Value.int.injEq, true_and]; omega), B8⟩, by simp [intOf]; omega⟩
                · obtain rfl : i = G.length := by omega
                  go_wp2_with fail
                  refine ⟨⟨cq ++ y.take M, y.drop M, k + G.length, by omega, rfl, HY2, Lib.hid (RS2.out.below HB.out), Lib.hid (RR2.out.below HB.out), HP2, Lib.hid (W2.out.trans (HB.out.mono W2.out.size))⟩, by simp only [lenV]; omega⟩

set_option maxRecDepth 100000 in
theorem lifted (os : Os) (started : os.Started) (H : Type) (enc : TypeId × Value → H) :
    ReturnsInHanded {} Try.checked os 3 .any (Rows.framesCarrySpec.pre6 enc Try.prog Try.f3 Rows.framesCarryRow.domain false) (Rows.framesCarrySpec.post enc Try.prog Try.f3 false true false false) := by
  refine returnsInHanded_of_change (C := Try.checked) own started (by kernel_rfl) Try.func3
    (ChangeSpec.witness6 (enc := enc) (C := Try.checked) false ⟨#[], #[.slice none 0 0, .int .u8 0], []⟩ 8 (by kernel_rfl) (by kernel_rfl) (by kernel_rfl) (by kernel_rfl)) ?_
  intro W base args ds gs before hval0 hW hcnd _
  have hval : ∀ (j : Nat) t v, Try.f3.params[j]? = some t → args[j]? = some v → Value.okWide Try.prog W .any base t v := hval0
  have hW' := hW
  obtain ⟨p, q, hA0, hV, rfl, hfz, hnd⟩ := hW
  have hA : DataW.TrodAll enc Try.prog W 0 (fun _ => true) true Try.f3.params.toList args.toList ds p := hA0
  rw [Try.params3] at hA hval
  obtain ⟨v0, vs0, d0, ds0, p0, q0, hargs, rfl, rfl, h0, r0⟩ := trodAll_cons hA
  obtain ⟨v1, vs1, d1, ds1, p1, q1, rfl, rfl, rfl, h1, r1⟩ := trodAll_cons r0
  obtain ⟨rfl, rfl, rfl⟩ := trodAll_nil r1
  obtain rfl : args = #[v0, v1] := by cases args; simp_all
  obtain ⟨rfl, rfl⟩ := trodVars_none hV
  have k0' := h0
  have lt0 : ∀ x ∈ p0, x.block < W.heap.size := by obtain ⟨m, hm⟩ := k0'; exact DataW.trod_lt m _ _ _ hm
  have k1' := h1
  have lt1 : ∀ x ∈ p1, x.block < W.heap.size := by obtain ⟨m, hm⟩ := k1'; exact DataW.trod_lt m _ _ _ hm
  obtain ⟨a0, R0⟩ := lists_form (hval 0 22 v0 rfl rfl) h0
  obtain ⟨n1, rfl, rfl, rfl, w1⟩ := open_int Try.underlying5 (hval 1 5 v1 rfl rfl) h1
  clear hA0 hval0
  simp only [List.append_nil] at hW'
  refine (walk v0 a0 n1 W R0 (wf_u8 w1)).mono fun e W' ⟨he, bel⟩ => ?_
  subst he
  exact ⟨_, rfl, _, _, _, [], _, [], hW', trodAll_mk1 (shut_bool Try.underlying4 _), (trodAll_cons_mk (Below.trod laidOut (by kernel_rfl) (of_decide_eq_true (by kernel_rfl)) k0' bel lt0) (trodAll_cons_mk (Below.trod laidOut (by kernel_rfl) (of_decide_eq_true (by kernel_rfl)) k1' bel lt1) trodAll_mk0)), rfl, bel.frame _, fun h => by cases h⟩

theorem over : Rows.framesCarryRow.holds Try.pinned (OpenSpec.ofChange Rows.framesCarrySpec) :=
  OpenClaim.holds_of_wide 3 Try.f3 rfl rfl rfl rfl rfl rfl rfl ⟨rfl, rfl, rfl, rfl, rfl⟩ rfl rfl rfl rfl rfl (by kernel_rfl) Try.func3 (by kernel_rfl)
    (of_decide_eq_true (by kernel_rfl)) (by unfold Func.isWrapper; first | (rw [if_pos (by decide +kernel)]; kernel_rfl) | (rw [if_neg (by decide +kernel)]; exact ⟨rfl, rfl⟩))
    (fun os started H enc _ => lifted os started H enc)
end framesCarry

theorem framesCarry_holds : Rows.FramesCarrySaid := framesCarry.over
#print axioms framesCarry_holds
end Go.Proofs.Ytbaodpfiilmpjaa
