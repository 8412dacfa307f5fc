/-
  The law FrameFinds holds: for every input it returns true and leaves its arguments as they were.
-/
import Derived.Test.YteancehdiliepaaRows
import Derived.Test.YteancehdiliepaaFrR
import Derived.WalkKit
import Derived.BigQuiet
namespace Go.Proofs.Yteancehdiliepaa
namespace frameFinds
open Go.ChangeShapes Go.WideShapes Go.ChangeAt Go.RowKit
open IntWalk
set_option linter.unusedVariables false

theorem take_snoc (ls : List (List UInt8)) (k : Nat) (h : k < ls.length) : ls.take (k + 1) = ls.take k ++ [ls[k]] := List.take_succ_eq_append_getElem h
set_option maxHeartbeats 8000000 in
set_option maxRecDepth 100000 in
theorem walk (v0 : Value) (ps : List (List UInt8)) (v1 : Value) (bs : List (List UInt8)) (w : World) (Ra : RdP w v0 ps) (Rb : RdP w v1 bs) :
    Calls Try.prog 8 #[v0, v1] w fun e w' => e = .returned (.bool true) ∧ Below w.heap.size w w' := by
  have RPA := Lib.hid Ra
  obtain ⟨p, c, vs, rfl, hc1, hc2, hvl, hvr, hvc⟩ := Ra
  obtain ⟨pb, cb, us, rfl, hd1, hd2, hul, hur, huc⟩ := Rb
  unfold maxLen at hc2 hd2
  obtain ⟨n, hn⟩ : ∃ n, n = ps.length := ⟨_, rfl⟩
  obtain ⟨nb, hnb⟩ : ∃ n, n = bs.length := ⟨_, rfl⟩
  have HN := Lib.hid hn
  have HVL := Lib.hid hvl
  have HVR := Lib.hid hvr
  have HVC := Lib.hid hvc
  have HNB := Lib.hid hnb
  have HUL := Lib.hid hul
  have HUR := Lib.hid hur
  have HUC := Lib.hid huc
  rw [← hn] at hc1 RPA ⊢
  rw [← hnb] at hd1 ⊢
  clear hvl hvr hvc hn hnb hul hur huc
  by_cases ha : n ≤ 8
  · skip
    by_cases hb : nb ≤ 8
    · have QA := Lib.hid (OwnB.none_ w w.heap.size (Nat.le_refl _))
      go_enter Try.func8, Try.ntmps8
      go_wp2_with fail
      go_loopw [5, 6] (fun sv i wr => ∃ (k : Nat) (S : List UInt8), k ≤ n ∧ i = .int .i64 k ∧ Hid (OwnB wr w.heap.size sv S) ∧ Hid (Ends S (ps.take k)) ∧ Hid (Below w.heap.size w wr) ∧ S.length ≤ 200 * k) (fun _ i _ => n - (intOf i).toNat)
      case atStart => exact ⟨0, [], Nat.zero_le _, rfl, QA, Lib.hid (.inl ⟨rfl, rfl⟩), Lib.hid (Below.refl _ _), by simp⟩
      case round =>
        obtain ⟨k, S, hk, rfl, HA, HEn, HB, hfl⟩ := hrel
        by_cases hlt : k < n
        · have hne : ps ≠ [] := fun e => by have := HN.out; rw [e] at this; simp at this; omega
          obtain ⟨b, o, hp, hbw, hcell⟩ := HVC.out hne
          subst hp
          have hc := hcell k (by rw [HVL.out, ← HN.out]; exact hlt)
          have hu := (HVR.out k (by rw [HVL.out, ← HN.out]; exact hlt) (by rw [← HN.out]; exact hlt))
          have hsn := take_snoc ps k (by rw [← HN.out]; exact hlt)
          obtain ⟨x, hx⟩ : ∃ x, x = ps[k]'(by rw [← HN.out]; exact hlt) := ⟨_, rfl⟩
          rw [← hx] at hu hsn
          obtain ⟨U, hU⟩ : ∃ U, U = vs[k]'(by rw [HVL.out, ← HN.out]; exact hlt) := ⟨_, rfl⟩
          rw [← hU] at hu hc
          have HU0 := Lib.hid hu
          obtain ⟨q, d, eU, he1, he2, _⟩ := hu
          unfold maxLen at he2
          obtain ⟨m, hm⟩ : ∃ m, m = x.length := ⟨_, rfl⟩
          rw [← hm] at eU he1
          have HM := Lib.hid hm
          have HSN := Lib.hid hsn
          clear hU hx hm hcell hsn
          subst eU
          have HC0 := Lib.hid hc
          rw [← (HB.out.cell (p := ⟨b, o + k, none⟩) hbw)] at hc
          by_cases hm60 : m ≤ 60
          · have hxl : Hid (x.length ≤ 60) := Lib.hid (by rw [← HM.out]; exact hm60)
            have hFl : Hid (S.length ≤ 1600) := Lib.hid (by omega)
            by_cases hkb : k < nb
            · have hneb : bs ≠ [] := fun e => by have := HNB.out; rw [e] at this; simp at this; omega
              obtain ⟨bb, ob, hpb, hbwb, hcellb⟩ := HUC.out hneb
              subst hpb
              have hcb := hcellb k (by rw [HUL.out, ← HNB.out]; exact hkb)
              have hub := (HUR.out k (by rw [HUL.out, ← HNB.out]; exact hkb) (by rw [← HNB.out]; exact hkb))
              obtain ⟨y, hy⟩ : ∃ y, y = bs[k]'(by rw [← HNB.out]; exact hkb) := ⟨_, rfl⟩
              rw [← hy] at hub
              obtain ⟨V, hV⟩ : ∃ V, V = us[k]'(by rw [HUL.out, ← HNB.out]; exact hkb) := ⟨_, rfl⟩
              rw [← hV] at hub hcb
              have HV0 := Lib.hid hub
              obtain ⟨qb, db, eV, hf1, hf2, _⟩ := hub
              unfold maxLen at hf2
              obtain ⟨mb, hmb⟩ : ∃ m, m = y.length := ⟨_, rfl⟩
              rw [← hmb] at eV hf1
              have HMB := Lib.hid hmb
              clear hV hy hmb hcellb
              subst eV
              rw [← (HB.out.cell (p := ⟨bb, ob + k, none⟩) hbwb)] at hcb
              by_cases hmb60 : mb ≤ 60
              · have hyl : Hid (y.length ≤ 60) := Lib.hid (by rw [← HMB.out]; exact hmb60)
                have CW := Lib.hid (without_run (.slice qb mb db) y wr (by have := hyl.out; omega) (HV0.out.below HB.out))
                have wl : Hid ((wout y).length ≤ 60) := Lib.hid (Nat.le_trans (wout_len y) hyl.out)
                have WN := Lib.hid (wout_no y)
                obtain ⟨j, hj⟩ : ∃ j, j = wout y := ⟨_, rfl⟩
                rw [← hj] at CW wl WN
                clear hj
                go_wp2_with fail
                refine CW.out.mono ?_
                rintro e u1 ⟨⟨vj, rfl, oj⟩, bj⟩
                have BJ0 := Lib.hid bj
                have OJ := Lib.hid oj.rd
                have OS := Lib.hid (HA.out.kept bj (Nat.le_refl _))
                have BJ := Lib.hid (HB.out.trans (bj.mono HB.out.size))
                have ON := Lib.hid (OwnB.new u1 u1.heap.size 1 [192] u1.heap.size rfl rfl (Nat.le_refl _) (by simp))
                clear bj oj
                go_wp2_with (first
                  | (at_builtin; refine wp_app rfl _ _ rfl u1.heap.size _ _ [192] j rfl rfl ON.out (OJ.out.more _) (by simp) (by have := wl.out; omega) ?_; intro a1 z1 o1 g1 _; have c1 := ((Below.refl u1.heap.size u1).alloc (Nat.le_refl _) _).trans (grown_below ON.out g1))
                  | (at_builtin; refine wp_app rfl _ _ rfl u1.heap.size _ _ ([192] ++ j) [192] rfl rfl (o1.more _) (lit_one z1 _ _ rfl) (by have := wl.out; simp; omega) (by simp) ?_; intro a2 z2 o2 g2 _; have c2 := (c1.alloc o1.2 _).trans (grown_below (o1.more _) g2)))
                have C2 := Lib.hid c2
                have CU := Lib.hid (runpack_run a2 ([192] ++ j ++ [192]) z2 (by have := wl.out; simp; omega) o2.rd)
                clear c1 c2 o1 o2 g1 g2
                have EJ : ([192] ++ j ++ [192] : List UInt8) = 192 :: (j ++ [192]) := by simp
                rw [EJ] at CU
                clear EJ
                refine CU.out.mono ?_
                cases hr : unR (192 :: (j ++ [192])) with
                | ok pl =>
                  rintro e z3 ⟨⟨v3, rfl, _⟩, b3⟩
                  have B3 := Lib.hid (BJ.out.trans ((C2.out.trans (b3.mono C2.out.size)).mono BJ.out.size))
                  clear b3
                  go_wp2_with fail
                  refine (awake_run _).mono ?_
                  rintro e wx ⟨rfl, gx⟩
                  go_wp2_with fail
                  go_ret
                  exact ⟨rfl, bt B3.out gx⟩
                | error ke =>
                  rintro e z3 ⟨rfl, b3⟩
                  have hke := unR_ne _ ke hr
                  have hke2 : (ke == 0) = false := by rw [beq_eq_false_iff_ne]; simpa using hke
                  have C3 := Lib.hid (C2.out.trans (b3.mono C2.out.size))
                  have B3 := Lib.hid (BJ.out.trans (C3.out.mono BJ.out.size))
                  have OS3 := Lib.hid (OS.out.kept C3.out (Nat.le_refl _))
                  have OJ3 := Lib.hid (OJ.out.below C3.out)
                  have HR := Lib.hid hr
                  clear b3 hr hke
                  go_wp2_with (at_builtin; refine wp_app rfl _ _ rfl w.heap.size _ vj S j rfl rfl OS3.out OJ3.out (by have := hFl.out; omega) (by have := wl.out; omega) ?_; intro v4 z4 o4 g4 _; have hcz := ((B3.out.trans (grown_below OS3.out g4)).cell (p := ⟨b, o + k, none⟩) hbw).trans HC0.out; have O4 := Lib.hid o4; have B4 := Lib.hid (B3.out.trans (grown_below OS3.out g4)); clear o4 g4)
                  have HE := Lib.hid (ends_more S j x (ps.take k) HEn.out WN.out _ HR.out (by have := hxl.out; omega))
                  have HT : Hid ((S ++ j ++ frm x).length ≤ 200 * (k + 1)) := Lib.hid (by have := frm_len x; have := hxl.out; have := wl.out; rw [List.length_append, List.length_append]; omega)
                  have CP := Lib.hid (pack_run (.slice q m d) x z4 (by have := hxl.out; omega) (HU0.out.below B4.out))
                  refine CP.out.mono ?_
                  rintro e p1 ⟨⟨pf, rfl, po⟩, pb⟩
                  have PO := Lib.hid po
                  have PS := Lib.hid (O4.out.kept pb (Nat.le_refl _))
                  have PB := Lib.hid (B4.out.trans (pb.mono B4.out.size))
                  clear po pb
                  go_wp2_with (at_builtin; refine wp_app rfl _ _ rfl w.heap.size _ pf (S ++ j) (frm x) rfl rfl PS.out PO.out.rd (by have := HT.out; rw [List.length_append] at this; omega) (by have := frm_len x; have := hxl.out; omega) ?_; intro p2 p3 po2 pg2 _)
                  have PO2 := Lib.hid po2
                  have PB2 := Lib.hid (PB.out.trans (grown_below PS.out pg2))
                  clear po2 pg2
                  go_wp2_with fail
                  go_roundw
                  case rel => exact ⟨k + 1, S ++ j ++ frm x, by omega, by go_num, PO2, by rw [HSN.out]; exact HE, PB2, HT.out⟩
                  case measure => simp [intOf]; omega
              · have hmb60 : 60 < mb := by omega
                have O0 : Hid (OwnB wr w.heap.size _ (S ++ [])) := Lib.hid (by rw [List.append_nil]; exact HA.out)
                have HE := Lib.hid (ends_more S [] x (ps.take k) HEn.out List.not_mem_nil _ unR_none (by have := hxl.out; omega))
                have HT : Hid ((S ++ [] ++ frm x).length ≤ 200 * (k + 1)) := Lib.hid (by have := frm_len x; have := hxl.out; have := (show ([] : List UInt8).length ≤ 60 by simp); rw [List.length_append, List.length_append]; omega)
                have CP := Lib.hid (pack_run (.slice q m d) x wr (by have := hxl.out; omega) (HU0.out.below HB.out))
                go_wp2_with fail
                refine CP.out.mono ?_
                rintro e p1 ⟨⟨pf, rfl, po⟩, pb⟩
                have PO := Lib.hid po
                have PS := Lib.hid (O0.out.kept pb (Nat.le_refl _))
                have PB := Lib.hid (HB.out.trans (pb.mono HB.out.size))
                clear po pb
                go_wp2_with (at_builtin; refine wp_app rfl _ _ rfl w.heap.size _ pf (S ++ []) (frm x) rfl rfl PS.out PO.out.rd (by have := HT.out; rw [List.length_append] at this; omega) (by have := frm_len x; have := hxl.out; omega) ?_; intro p2 p3 po2 pg2 _)
                have PO2 := Lib.hid po2
                have PB2 := Lib.hid (PB.out.trans (grown_below PS.out pg2))
                clear po2 pg2
                go_wp2_with fail
                go_roundw
                case rel => exact ⟨k + 1, S ++ [] ++ frm x, by omega, by go_num, PO2, by rw [HSN.out]; exact HE, PB2, HT.out⟩
                case measure => simp [intOf]; omega
            · have O0 : Hid (OwnB wr w.heap.size _ (S ++ [])) := Lib.hid (by rw [List.append_nil]; exact HA.out)
              have HE := Lib.hid (ends_more S [] x (ps.take k) HEn.out List.not_mem_nil _ unR_none (by have := hxl.out; omega))
              have HT : Hid ((S ++ [] ++ frm x).length ≤ 200 * (k + 1)) := Lib.hid (by have := frm_len x; have := hxl.out; have := (show ([] : List UInt8).length ≤ 60 by simp); rw [List.length_append, List.length_append]; omega)
              have CP := Lib.hid (pack_run (.slice q m d) x wr (by have := hxl.out; omega) (HU0.out.below HB.out))
              go_wp2_with fail
              refine CP.out.mono ?_
              rintro e p1 ⟨⟨pf, rfl, po⟩, pb⟩
              have PO := Lib.hid po
              have PS := Lib.hid (O0.out.kept pb (Nat.le_refl _))
              have PB := Lib.hid (HB.out.trans (pb.mono HB.out.size))
              clear po pb
              go_wp2_with (at_builtin; refine wp_app rfl _ _ rfl w.heap.size _ pf (S ++ []) (frm x) rfl rfl PS.out PO.out.rd (by have := HT.out; rw [List.length_append] at this; omega) (by have := frm_len x; have := hxl.out; omega) ?_; intro p2 p3 po2 pg2 _)
              have PO2 := Lib.hid po2
              have PB2 := Lib.hid (PB.out.trans (grown_below PS.out pg2))
              clear po2 pg2
              go_wp2_with fail
              go_roundw
              case rel => exact ⟨k + 1, S ++ [] ++ frm x, by omega, by go_num, PO2, by rw [HSN.out]; exact HE, PB2, HT.out⟩
              case measure => simp [intOf]; omega
          · have hm60 : 60 < m := by omega
            go_wp2_with fail
            refine (awake_run _).mono ?_
            rintro e wx ⟨rfl, gx⟩
            go_wp2_with fail
            go_ret
            exact ⟨rfl, bt HB.out gx⟩
        · obtain rfl : k = n := by omega
          have e : ps.take k = ps := by rw [HN.out, List.take_length]
          rw [e] at HEn
          have hEf := ends_feed S ps HEn.out
          have hpl : Hid (ps.length ≤ 2000000) := Lib.hid (by rw [← HN.out]; omega)
          have C := feed_run (.slice none 0 0) _ [] S wr (by simp) (by omega) (rdB_nil wr) HA.out.rd
          rw [List.nil_append] at C
          have C := Lib.hid C
          have HEF := Lib.hid hEf
          clear e hfl hEf
          go_wp2_with fail
          refine C.out.mono ?_
          rintro e w1 ⟨⟨r1, m1, rfl, x1, y1⟩, b1⟩
          have B1 := Lib.hid (bt HB.out b1)
          rw [HEF.out] at y1
          have S2 := Lib.hid (sameAll_run m1 _ _ _ w1 hpl.out y1 (RPA.out.below B1.out))
          rw [decide_eq_true rfl] at S2
          clear x1 y1 b1
          go_wp2_with fail
          refine S2.out.mono ?_
          rintro e w3 ⟨rfl, kz, rfl⟩
          go_wp2_with fail
          refine (awake_run _).mono ?_
          rintro e wx ⟨rfl, gx⟩
          go_wp2_with fail
          go_ret
          exact ⟨rfl, bt (b_draws B1.out kz) gx⟩
    · have hb : 8 < nb := by omega
      go_enter Try.func8, Try.ntmps8
      go_wp2_with fail
      refine (awake_run _).mono ?_
      rintro e wx ⟨rfl, gx⟩
      go_wp2_with fail
      go_ret
      exact ⟨rfl, gx⟩
  · have ha : 8 < n := by omega
    go_enter Try.func8, Try.ntmps8
    go_wp2_with fail
    refine (awake_run _).mono ?_
    rintro e wx ⟨rfl, gx⟩
    go_wp2_with fail
    go_ret
    exact ⟨rfl, gx⟩


set_option maxRecDepth 100000 in
theorem lifted (os : Os) (started : os.Started) (H : Type) (enc : TypeId × Value → H) :
    ReturnsInHanded {} Try.checked os 8 .any (Rows.frameFindsSpec.pre6 enc Try.prog Try.f8 Rows.frameFindsRow.domain false) (Rows.frameFindsSpec.post enc Try.prog Try.f8 false true false false) := by
  refine returnsInHanded_of_change (C := Try.checked) own started (by kernel_rfl) Try.func8
    (ChangeSpec.witness6 (enc := enc) (C := Try.checked) false ⟨#[], #[.slice none 0 0, .slice none 0 0], []⟩ 8 (by kernel_rfl) (by kernel_rfl) (by kernel_rfl) (by kernel_rfl)) ?_
  intro W base args ds gs before hval0 hW hcnd _
  have hval : ∀ (j : Nat) t v, Try.f8.params[j]? = some t → args[j]? = some v → Value.okWide Try.prog W .any base t v := hval0
  have hW' := hW
  obtain ⟨p, q, hA0, hV, rfl, hfz, hnd⟩ := hW
  have hA : DataW.TrodAll enc Try.prog W 0 (fun _ => true) true Try.f8.params.toList args.toList ds p := hA0
  rw [Try.params8] at hA hval
  obtain ⟨v0, vs0, d0, ds0, p0, q0, hargs, rfl, rfl, h0, r0⟩ := trodAll_cons hA
  obtain ⟨v1, vs1, d1, ds1, p1, q1, rfl, rfl, rfl, h1, r1⟩ := trodAll_cons r0
  obtain ⟨rfl, rfl, rfl⟩ := trodAll_nil r1
  obtain rfl : args = #[v0, v1] := by cases args; simp_all
  obtain ⟨rfl, rfl⟩ := trodVars_none hV
  have k0' := h0
  have lt0 : ∀ x ∈ p0, x.block < W.heap.size := by obtain ⟨m, hm⟩ := k0'; exact DataW.trod_lt m _ _ _ hm
  have k1' := h1
  have lt1 : ∀ x ∈ p1, x.block < W.heap.size := by obtain ⟨m, hm⟩ := k1'; exact DataW.trod_lt m _ _ _ hm
  obtain ⟨a0, R0⟩ := lists_form (hval 0 32 v0 rfl rfl) h0
  obtain ⟨a1, R1⟩ := lists_form (hval 1 32 v1 rfl rfl) h1
  clear hA0 hval0
  simp only [List.append_nil] at hW'
  refine (walk v0 a0 v1 a1 W R0 R1).mono fun e W' ⟨he, bel⟩ => ?_
  subst he
  exact ⟨_, rfl, _, _, _, [], _, [], hW', trodAll_mk1 (shut_bool Try.underlying4 _), (trodAll_cons_mk (Below.trod laidOut (by kernel_rfl) (of_decide_eq_true (by kernel_rfl)) k0' bel lt0) (trodAll_cons_mk (Below.trod laidOut (by kernel_rfl) (of_decide_eq_true (by kernel_rfl)) k1' bel lt1) trodAll_mk0)), rfl, bel.frame _, fun h => by cases h⟩

theorem over : Rows.frameFindsRow.holds Try.pinned (OpenSpec.ofChange Rows.frameFindsSpec) :=
  OpenClaim.holds_of_wide 8 Try.f8 rfl rfl rfl rfl rfl rfl rfl ⟨rfl, rfl, rfl, rfl, rfl⟩ rfl rfl rfl rfl rfl (by kernel_rfl) Try.func8 (by kernel_rfl)
    (of_decide_eq_true (by kernel_rfl)) (by unfold Func.isWrapper; first | (rw [if_pos (by decide +kernel)]; kernel_rfl) | (rw [if_neg (by decide +kernel)]; exact ⟨rfl, rfl⟩))
    (fun os started H enc _ => lifted os started H enc)
end frameFinds

theorem frameFinds_holds : Rows.FrameFindsSaid := frameFinds.over
#print axioms frameFinds_holds
end Go.Proofs.Yteancehdiliepaa
