/-
  The law FrameLimits holds: for every input it returns true and leaves its arguments as they were.
-/
import Derived.Test.YteancehdiliepaaRows
import Derived.Test.YteancehdiliepaaFrQ
import Derived.WalkKit
import Derived.BigQuiet
import Derived.Deep.CutRange
import Derived.Deep.RegionHeld3
namespace Go.Proofs.Yteancehdiliepaa
namespace frameLimits
open Go.ChangeShapes Go.WideShapes Go.ChangeAt Go.RowKit
open IntWalk
set_option linter.unusedVariables false

theorem kf_draws {w X : World} (h : Below w.heap.size w X ∧ w.heap.size ≤ X.heap.size) (q : Nat) : Below w.heap.size w (X.drewN q).drew ∧ w.heap.size ≤ (X.drewN q).drew.heap.size := by
  have e : ∀ q, Below w.heap.size w (X.drewN q) := fun q => by
    induction q with
    | zero => exact h.1
    | succ n ih => exact ih.drew
  exact ⟨(e q).drew, (e q).drew.size⟩
theorem kf_drew {w X : World} (h : Below w.heap.size w X ∧ w.heap.size ≤ X.heap.size) : Below w.heap.size w X.drew ∧ w.heap.size ≤ X.drew.heap.size := ⟨h.1.drew, h.2⟩
theorem kf_left {w X : World} (h : Below w.heap.size w X ∧ w.heap.size ≤ X.heap.size) : Below w.heap.size w X := h.1
theorem kf_call {w X Z : World} (h : Below w.heap.size w X ∧ w.heap.size ≤ X.heap.size) (g : Below X.heap.size X Z) : Below w.heap.size w Z ∧ w.heap.size ≤ Z.heap.size := ⟨h.1.trans (g.mono h.2), Nat.le_trans h.2 g.size⟩
set_option maxHeartbeats 8000000 in
set_option maxRecDepth 100000 in
theorem walk (n1 n2 n3 : Int) (w : World) (w1 : 0 ≤ n1 ∧ n1 < 65536) (w2 : 0 ≤ n2 ∧ n2 < 256) (w3 : 0 ≤ n3 ∧ n3 < 65536) :
    Calls Try.prog 10 #[.int .u16 n1, .int .u8 n2, .int .u16 n3] w fun e w' => e = .returned (.bool true) ∧ Below w.heap.size w w' := by
  by_cases h1 : n1 ≤ 4200
  · skip
    by_cases h3 : n3 ≤ 8300
    · obtain ⟨m, rfl⟩ := Int.eq_ofNat_of_zero_le w1.1
      obtain ⟨q, rfl⟩ := Int.eq_ofNat_of_zero_le w3.1
      obtain ⟨C, hC⟩ : ∃ C : UInt8, n2 = (C.toNat : Int) := ⟨UInt8.ofNat n2.toNat, by rw [UInt8.toNat_ofNat']; omega⟩
      subst hC
      have mk1 := fun W => make_bytes m (by omega) W
      have mk2 : ∀ W : World, (Instr.makeSlice 22 (.int .i64 ((q : Int) + 1)) (.int .i64 ((q : Int) + 1))).run Try.prog W = .ok (.slice (some ⟨W.heap.size, 0, none⟩) (q + 1) (q + 1)) (W.alloc (.cells ((List.replicate (q + 1) (Value.int .u8 0)).toArray) 5)) := fun W => make_bytes (q + 1) (by omega) W
      have R0 := Lib.hid (RowB.fresh w m)
      have B0 := Lib.hid ((Below.refl _ w).alloc (Nat.le_refl _) (.cells ((List.replicate m (Value.int .u8 0)).toArray) 5))
      go_enter Try.func10, Try.ntmps10
      go_wp2_with fail
      go_loopw [8] (fun i wr => ∃ k : Nat, k ≤ m ∧ i = .int .i64 k ∧ RowB wr w.heap.size (mixB m k C) ∧ Below w.heap.size w wr) (fun i _ => m - (intOf i).toNat)
      case atStart => exact ⟨0, Nat.zero_le _, rfl, by rw [mixB_zero]; exact R0.out, B0.out⟩
      case round =>
        obtain ⟨k, hk, rfl, hrow, hbl⟩ := hrel
        have HR := Lib.hid hrow
        have HB := Lib.hid hbl
        clear hrow hbl
        by_cases hlt : k < m
        · have hml := mixB_len m k C hk
          have hc := HR.out.at_.2 k (by omega)
          rw [Nat.zero_add] at hc
          have hfz := HR.out.free k
          have R1 := HR.out.put k C
          rw [mixB_put m k C hlt] at R1
          have B1 := Lib.hid (HB.out.setCell (p := ⟨w.heap.size, k, none⟩) (Nat.le_refl _) (bv C))
          have R1 := Lib.hid R1
          unfold bv at R1 B1 hc
          go_wp2_with fail
          go_roundw
          case rel => exact ⟨k + 1, by omega, by go_num, R1.out, B1.out⟩
          case measure => simp [intOf]; omega
        · obtain rfl : k = m := by omega
          have hlB : (mixB k k C).length = k := mixB_len k k C (Nat.le_refl _)
          obtain ⟨B, hB⟩ : ∃ B, B = mixB k k C := ⟨_, rfl⟩
          rw [← hB] at HR hlB
          clear hB
          have HLB := Lib.hid hlB
          have RB := Lib.hid (HR.out.rd k (HLB.out.symm) (by omega))
          have GW : Hid (w.heap.size < wr.heap.size) := Lib.hid HR.out.low
          have D1 := Lib.hid (pack_any _ B wr RB.out)
          have D2 := Lib.hid (fun W (h : Below wr.heap.size wr W) => rpack_any _ B W (RB.out.below h))
          have D3 := Lib.hid (fun W (h : Below wr.heap.size wr W) => rsum_run _ B W (by omega) (RB.out.below h))
          have kk1 : (packK B != packK B) = false := by simp
          clear hlB
          obtain ⟨K1, hK1⟩ : ∃ K1, K1 = packK B := ⟨_, rfl⟩
          rw [← hK1] at D1 D2 kk1
          clear hK1
          go_wp2_with fail
          refine D1.out.mono ?_
          rintro e u1 ⟨⟨v1, rfl, x1⟩, g1⟩
          have G1 := Lib.hid g1
          have X1 := Lib.hid x1
          clear g1 x1
          go_wp2_with fail
          refine (D2.out _ G1.out).mono ?_
          rintro e u2 ⟨⟨v2, rfl, x2⟩, g2⟩
          have G2 := Lib.hid (bt G1.out g2)
          have S1 := Lib.hid (same_run v1 v2 _ _ u2 (X1.out.below g2) x2)
          rw [decide_eq_true rfl] at S1
          clear g2 x2
          go_wp2_with fail
          refine S1.out.mono ?_
          rintro e u3 ⟨rfl, hu⟩
          subst hu
          have hS := crc_lt B
          have kk2 : (kOf (unR (stuff (cont B (crc B)))) != kOf (unR (stuff (cont B (crc B))))) = false := by simp
          obtain ⟨S, hSe⟩ : ∃ S, S = crc B := ⟨_, rfl⟩
          rw [← hSe] at D3 hS kk2
          have SL : Hid ((stuff (cont B S)).length ≤ 9000) := Lib.hid (by
            rw [stuff_len]; have := (esc_len (cont B S)).2; rw [cont_len] at this; have := HLB.out; omega)
          have D4 := Lib.hid (fun W v (h : RdB W v B) => content_run v B S W (by have := HLB.out; omega) hS h)
          have D5 := Lib.hid (fun W v (h : RdB W v (cont B S)) => stuff_run v (cont B S) W (by rw [cont_len]; have := HLB.out; omega) (cont_ne _ _) h)
          have D6 := Lib.hid (fun W v (h : RdB W v (stuff (cont B S))) => (unpack_run v _ W (by have := SL.out; omega) h).mono fun e w' h => givesU_any h)
          have D7 := Lib.hid (fun W v (h : RdB W v (stuff (cont B S))) => (runpack_run v _ W (by have := SL.out; omega) h).mono fun e w' h => givesU_any h)
          clear hSe hS
          obtain ⟨K2, hK2⟩ : ∃ K2, K2 = kOf (unR (stuff (cont B S))) := ⟨_, rfl⟩
          obtain ⟨L2, hL2⟩ : ∃ L2, L2 = lOf (unR (stuff (cont B S))) := ⟨_, rfl⟩
          rw [← hK2] at D6 D7 kk2
          rw [← hL2] at D6 D7
          clear hK2 hL2
          go_wp2_with fail
          refine (D3.out _ G2.out).mono ?_
          rintro e u3 ⟨rfl, hu⟩
          subst hu
          go_wp2_with fail
          refine (D4.out _ _ (RB.out.below G2.out)).mono ?_
          rintro e u4 ⟨⟨v4, rfl, o4⟩, b4⟩
          have G4 := Lib.hid (bt G2.out b4)
          have X4 := Lib.hid o4.rd
          clear o4 b4
          go_wp2_with fail
          refine (D5.out _ _ X4.out).mono ?_
          rintro e u5 ⟨⟨v5, rfl, o5⟩, b5⟩
          have G5 := Lib.hid (bt G4.out b5)
          have X5 := Lib.hid o5.rd
          clear o5 b5
          go_wp2_with fail
          refine (D6.out _ _ X5.out).mono ?_
          rintro e u6 ⟨⟨v6, rfl, o6⟩, b6⟩
          have G6 := Lib.hid (bt G5.out b6)
          have X6 := Lib.hid o6
          clear o6 b6
          go_wp2_with fail
          refine (D3.out _ G6.out).mono ?_
          rintro e u7 ⟨rfl, hu⟩
          subst hu
          go_wp2_with fail
          refine (D4.out _ _ (RB.out.below G6.out)).mono ?_
          rintro e u8 ⟨⟨v8, rfl, o8⟩, b8⟩
          have G8 := Lib.hid (bt G6.out b8)
          have X8 := Lib.hid o8.rd
          have X6 := Lib.hid (X6.out.below b8)
          clear o8 b8
          go_wp2_with fail
          refine (D5.out _ _ X8.out).mono ?_
          rintro e u9 ⟨⟨v9, rfl, o9⟩, b9⟩
          have G9 := Lib.hid (bt G8.out b9)
          have X9 := Lib.hid o9.rd
          have X6 := Lib.hid (X6.out.below b9)
          clear o9 b9
          go_wp2_with fail
          refine (D7.out _ _ X9.out).mono ?_
          rintro e ua ⟨⟨va, rfl, oa⟩, ba⟩
          have GA := Lib.hid (bt G9.out ba)
          have S2 := Lib.hid (same_run v6 va _ _ ua (X6.out.below ba) oa)
          rw [decide_eq_true rfl] at S2
          clear oa ba
          go_wp2_with fail
          refine S2.out.mono ?_
          rintro e ub ⟨rfl, hu⟩
          subst hu
          go_upto_region 18 with fail
          obtain ⟨W, hW⟩ : ∃ W, W = ua.alloc (.cells ((Array.replicate (q + 1) (Value.int .u8 0)).setIfInBounds 0 (Value.int .u8 192)) 5) := ⟨_, rfl⟩
          rw [← hW]
          have hrow : RowB W ua.heap.size (192 :: List.replicate q 0) := by
            rw [hW]; unfold RowB
            rw [heap_alloc_new]
            congr 2
            apply Array.toList_inj.1
            simp [List.replicate_succ, bv]
          have GB : Hid (Below w.heap.size w W) := Lib.hid (by rw [hW]; exact (bt HB.out GA.out).alloc (by have := (bt HB.out GA.out).size; exact this) _)
          clear hW mk2
          have hll : (192 :: List.replicate q (0 : UInt8)).length = q + 1 := by simp
          have Y1 := Lib.hid (rd_off (o := 0) (n := 1) (c := q + 1) hrow.at_ (by omega) (by omega) (by unfold maxLen; omega))
          have Y2 : Hid (RdB W (.slice (if q = 0 then some ⟨ua.heap.size, 0, none⟩ else some ⟨ua.heap.size, 1, none⟩) q q) (((192 :: List.replicate q (0 : UInt8)).drop 1).take q)) := Lib.hid (by
            by_cases hq : q = 0
            · subst hq; rw [if_pos rfl]; exact ⟨_, 0, rfl, Nat.le_refl _, Nat.zero_le _, fun h => absurd rfl h⟩
            · rw [if_neg hq]; exact rd_off (o := 1) (n := q) (c := q) hrow.at_ (by omega) (by omega) (by unfold maxLen; omega))
          obtain ⟨l1, hl1⟩ : ∃ l, l = ((192 :: List.replicate q (0 : UInt8)).drop 0).take 1 := ⟨_, rfl⟩
          obtain ⟨l2, hl2⟩ : ∃ l, l = ((192 :: List.replicate q (0 : UInt8)).drop 1).take q := ⟨_, rfl⟩
          have e1 : l1.length ≤ 40000 := by rw [hl1, List.length_take]; omega
          have e2 : l2.length ≤ 40000 := by rw [hl2, List.length_take]; omega
          rw [← hl1] at Y1
          rw [← hl2] at Y2
          have F1 := Lib.hid (fun V (h : Below W.heap.size W V) => feed_run _ _ l1 l2 V e1 e2 (Y1.out.below h) (Y2.out.below h))
          have F2 := Lib.hid (fun V (h : Below W.heap.size W V) => rfeed_run _ _ l1 l2 V e1 e2 (Y1.out.below h) (Y2.out.below h))
          have hpl : Hid ((feedP (l1 ++ l2)).length ≤ 2000000) := Lib.hid (by have := feedP_len (l1 ++ l2); simp at this; omega)
          clear hl1 hl2 hll
          obtain ⟨g, hg⟩ : ∃ g, g = ua.heap.size := ⟨_, rfl⟩
          rw [← hg] at F1 F2 ⊢
          clear hrow hg Y1 Y2
          go_cut [18, 19] from 94 to 101 (fun r l wx => RdB wx r (feedR (l1 ++ l2)) ∧ RdP wx l (feedP (l1 ++ l2)) ∧ Below W.heap.size W wx)
          case first =>
            have S0 : Below W.heap.size W W ∧ W.heap.size ≤ W.heap.size := ⟨Below.refl _ W, Nat.le_refl _⟩
            have hq1 : (1 : Int) ≤ (q : Int) + 1 := by omega
            have hq2 : (0 : Int) ≤ (q : Int) + 1 := by omega
            go_region_held3? (fun X => Below W.heap.size W X ∧ W.heap.size ≤ X.heap.size) (first | assumption | exact kf_draws S0 _ | exact kf_drew (by assumption) | exact kf_call (by assumption) (by assumption))
              (first | (go_at_call 19; refine (F1.out _ (kf_left (by assumption))).mono ?_; rintro e z1 ⟨⟨r1, t1, rfl, x1, y1⟩, b1⟩; dsimp only))
            clear F1 F2
            generalize (if q = 0 then some ({ block := g, off := 0 } : Addr) else some { block := g, off := 1 }) = P0
            go_wp2_with fail
            go_meet
            case rel => first | exact ⟨x1, y1, b1.mono (Nat.le_refl _)⟩ | exact ⟨x1, y1, (kf_left (by assumption))⟩
          case rest =>
            obtain ⟨x1, y1, b1⟩ := hcut
            have X1 := Lib.hid x1
            have Y1 := Lib.hid y1
            have B1 := Lib.hid b1
            have G2 := Lib.hid (fun V (h : Below wc.heap.size wc V) => F2.out V (bt b1 h))
            clear x1 y1 b1 F1 F2
            go_upto_region 19 with fail
            go_cut [20, 21] from 102 to 109 (fun r l wx => RdB wx r (feedR (l1 ++ l2)) ∧ RdP wx l (feedP (l1 ++ l2)) ∧ Below wc.heap.size wc wx)
            case first =>
              have S0 : Below wc.heap.size wc wc ∧ wc.heap.size ≤ wc.heap.size := ⟨Below.refl _ wc, Nat.le_refl _⟩
              have hq1 : (1 : Int) ≤ (q : Int) + 1 := by omega
              have hq2 : (0 : Int) ≤ (q : Int) + 1 := by omega
              go_region_held3 (fun X => Below wc.heap.size wc X ∧ wc.heap.size ≤ X.heap.size) (first | assumption | exact kf_draws S0 _ | exact kf_drew (by assumption) | exact kf_call (by assumption) (by assumption))
                (first | (go_at_call 20; refine (G2.out _ (kf_left (by assumption))).mono ?_; rintro e z1 ⟨⟨r1, t1, rfl, x1, y1⟩, b1⟩; dsimp only))
              clear G2
              generalize (if q = 0 then some ({ block := g, off := 0 } : Addr) else some { block := g, off := 1 }) = P0
              go_wp2_with fail
              go_meet
              case rel => first | exact ⟨x1, y1, b1.mono (Nat.le_refl _)⟩ | exact ⟨x1, y1, (kf_left (by assumption))⟩
            case rest =>
              obtain ⟨x2, y2, b2⟩ := hcut
              have S3 := Lib.hid (same_run _ _ _ _ _ (X1.out.below b2) x2)
              have S4 := Lib.hid (sameAll_run _ _ _ _ _ hpl.out (Y1.out.below b2) y2)
              rw [decide_eq_true rfl] at S3 S4
              have B2 := Lib.hid (bt (bt GB.out B1.out) b2)
              clear G2 x2 y2 b2 X1 Y1
              generalize (if q = 0 then some ({ block := g, off := 0 } : Addr) else some { block := g, off := 1 }) = P0
              go_wp2_with fail
              refine S3.out.mono ?_
              rintro e z2 ⟨rfl, hu⟩
              subst hu
              go_wp2_with fail
              refine S4.out.mono ?_
              rintro e z3 ⟨rfl, kz, rfl⟩
              go_wp2_with fail
              refine (awake_run _).mono ?_
              rintro e wx ⟨rfl, gx⟩
              go_wp2_with fail
              go_ret
              exact ⟨rfl, bt (b_draws B2.out kz) gx⟩
    · have h3 : 8300 < n3 := by omega
      go_enter Try.func10, Try.ntmps10
      go_wp2_with fail
      refine (awake_run _).mono ?_
      rintro e wx ⟨rfl, gx⟩
      go_wp2_with fail
      go_ret
      exact ⟨rfl, gx⟩
  · have h1 : 4200 < n1 := by omega
    go_enter Try.func10, Try.ntmps10
    go_wp2_with fail
    refine (awake_run _).mono ?_
    rintro e wx ⟨rfl, gx⟩
    go_wp2_with fail
    go_ret
    exact ⟨rfl, gx⟩


set_option maxRecDepth 100000 in
theorem lifted (os : Os) (started : os.Started) (H : Type) (enc : TypeId × Value → H) :
    ReturnsInHanded {} Try.checked os 10 .any (Rows.frameLimitsSpec.pre6 enc Try.prog Try.f10 Rows.frameLimitsRow.domain false) (Rows.frameLimitsSpec.post enc Try.prog Try.f10 false true false false) := by
  refine returnsInHanded_of_change (C := Try.checked) own started (by kernel_rfl) Try.func10
    (ChangeSpec.witness6 (enc := enc) (C := Try.checked) false ⟨#[], #[.int .u16 0, .int .u8 0, .int .u16 0], []⟩ 8 (by kernel_rfl) (by kernel_rfl) (by kernel_rfl) (by kernel_rfl)) ?_
  intro W base args ds gs before hval0 hW hcnd _
  have hval : ∀ (j : Nat) t v, Try.f10.params[j]? = some t → args[j]? = some v → Value.okWide Try.prog W .any base t v := hval0
  have hW' := hW
  obtain ⟨p, q, hA0, hV, rfl, hfz, hnd⟩ := hW
  have hA : DataW.TrodAll enc Try.prog W 0 (fun _ => true) true Try.f10.params.toList args.toList ds p := hA0
  rw [Try.params10] at hA hval
  obtain ⟨v0, vs0, d0, ds0, p0, q0, hargs, rfl, rfl, h0, r0⟩ := trodAll_cons hA
  obtain ⟨v1, vs1, d1, ds1, p1, q1, rfl, rfl, rfl, h1, r1⟩ := trodAll_cons r0
  obtain ⟨v2, vs2, d2, ds2, p2, q2, rfl, rfl, rfl, h2, r2⟩ := trodAll_cons r1
  obtain ⟨rfl, rfl, rfl⟩ := trodAll_nil r2
  obtain rfl : args = #[v0, v1, v2] := by cases args; simp_all
  obtain ⟨rfl, rfl⟩ := trodVars_none hV
  have k0' := h0
  have lt0 : ∀ x ∈ p0, x.block < W.heap.size := by obtain ⟨m, hm⟩ := k0'; exact DataW.trod_lt m _ _ _ hm
  have k1' := h1
  have lt1 : ∀ x ∈ p1, x.block < W.heap.size := by obtain ⟨m, hm⟩ := k1'; exact DataW.trod_lt m _ _ _ hm
  have k2' := h2
  have lt2 : ∀ x ∈ p2, x.block < W.heap.size := by obtain ⟨m, hm⟩ := k2'; exact DataW.trod_lt m _ _ _ hm
  obtain ⟨n0, rfl, rfl, rfl, w0⟩ := open_int Try.underlying23 (hval 0 23 v0 rfl rfl) h0
  obtain ⟨n1, rfl, rfl, rfl, w1⟩ := open_int Try.underlying5 (hval 1 5 v1 rfl rfl) h1
  obtain ⟨n2, rfl, rfl, rfl, w2⟩ := open_int Try.underlying23 (hval 2 23 v2 rfl rfl) h2
  clear hA0 hval0
  simp only [List.append_nil] at hW'
  refine (walk n0 n1 n2 W (wf_u16 w0) (wf_u8 w1) (wf_u16 w2)).mono fun e W' ⟨he, bel⟩ => ?_
  subst he
  exact ⟨_, rfl, _, _, _, [], _, [], hW', trodAll_mk1 (shut_bool Try.underlying4 _), (trodAll_cons_mk (Below.trod laidOut (by kernel_rfl) (of_decide_eq_true (by kernel_rfl)) k0' bel lt0) (trodAll_cons_mk (Below.trod laidOut (by kernel_rfl) (of_decide_eq_true (by kernel_rfl)) k1' bel lt1) (trodAll_cons_mk (Below.trod laidOut (by kernel_rfl) (of_decide_eq_true (by kernel_rfl)) k2' bel lt2) trodAll_mk0))), rfl, bel.frame _, fun h => by cases h⟩

theorem over : Rows.frameLimitsRow.holds Try.pinned (OpenSpec.ofChange Rows.frameLimitsSpec) :=
  OpenClaim.holds_of_wide 10 Try.f10 rfl rfl rfl rfl rfl rfl rfl ⟨rfl, rfl, rfl, rfl, rfl⟩ rfl rfl rfl rfl rfl (by kernel_rfl) Try.func10 (by kernel_rfl)
    (of_decide_eq_true (by kernel_rfl)) (by unfold Func.isWrapper; first | (rw [if_pos (by decide +kernel)]; kernel_rfl) | (rw [if_neg (by decide +kernel)]; exact ⟨rfl, rfl⟩))
    (fun os started H enc _ => lifted os started H enc)
end frameLimits

theorem frameLimits_holds : Rows.FrameLimitsSaid := frameLimits.over
#print axioms frameLimits_holds
end Go.Proofs.Yteancehdiliepaa
