/-
  The law FrameChunks holds: for every input it returns true and leaves its arguments as they were.
-/
import Derived.Test.YteancehdiliepaaRows
import Derived.Test.YteancehdiliepaaFrR
import Derived.WalkKit
import Derived.BigQuiet
namespace Go.Proofs.Yteancehdiliepaa
namespace frameChunks
open Go.ChangeShapes Go.WideShapes Go.ChangeAt Go.RowKit
open IntWalk
set_option linter.unusedVariables false

theorem flat_snoc (ls : List (List UInt8)) (k : Nat) (h : k < ls.length) : (ls.take (k + 1)).flatten = (ls.take k).flatten ++ ls[k] := by
  rw [List.take_succ_eq_append_getElem h, List.flatten_append]; simp
set_option maxHeartbeats 8000000 in
set_option maxRecDepth 100000 in
theorem walk (v0 : Value) (ls : List (List UInt8)) (w : World) (Ra : RdP w v0 ls) :
    Calls Try.prog 7 #[v0] w fun e w' => e = .returned (.bool true) ∧ Below w.heap.size w w' := by
  obtain ⟨p, c, vs, rfl, hc1, hc2, hvl, hvr, hvc⟩ := Ra
  unfold maxLen at hc2
  obtain ⟨n, hn⟩ : ∃ n, n = ls.length := ⟨_, rfl⟩
  have HN := Lib.hid hn
  have HVL := Lib.hid hvl
  have HVR := Lib.hid hvr
  have HVC := Lib.hid hvc
  rw [← hn] at hc1 ⊢
  clear hvl hvr hvc hn
  by_cases ha : n ≤ 12
  · have QA := Lib.hid (OwnB.none_ w w.heap.size (Nat.le_refl _))
    have QF := Lib.hid (OwnQ.none_ w w.heap.size none (Nat.le_refl _))
    go_enter Try.func7, Try.ntmps7
    go_wp2_with fail
    go_loopw [3, 4, 5, 6] (fun va vr vf i wr => ∃ k : Nat, k ≤ n ∧ i = .int .i64 k ∧ Hid (OwnB wr w.heap.size va ((ls.take k).flatten)) ∧ Hid (Fr wr w.heap.size vr (feedR ((ls.take k).flatten))) ∧ Hid (Off va.ownBlock vr (feedR ((ls.take k).flatten))) ∧ Hid (OwnQ wr w.heap.size va.ownBlock vf (feedP ((ls.take k).flatten))) ∧ Hid (Below w.heap.size w wr) ∧ ((ls.take k).flatten).length ≤ 60 * k) (fun _ _ _ i _ => n - (intOf i).toNat)
    case atStart => exact ⟨0, Nat.zero_le _, rfl, QA, Lib.hid (fr_nil _ _), Lib.hid (fun h => absurd rfl h), QF, Lib.hid (Below.refl _ _), by simp⟩
    case round =>
      obtain ⟨k, hk, rfl, HA, HR, HO, HF, HB, hfl⟩ := hrel
      by_cases hlt : k < n
      · have hne : ls ≠ [] := fun e => by have := HN.out; rw [e] at this; simp at this; omega
        obtain ⟨b, o, hp, hbw, hcell⟩ := HVC.out hne
        subst hp
        have hc := hcell k (by rw [HVL.out, ← HN.out]; exact hlt)
        have hu := (HVR.out k (by rw [HVL.out, ← HN.out]; exact hlt) (by rw [← HN.out]; exact hlt))
        have hsn := flat_snoc ls k (by rw [← HN.out]; exact hlt)
        obtain ⟨x, hx⟩ : ∃ x, x = ls[k]'(by rw [← HN.out]; exact hlt) := ⟨_, rfl⟩
        rw [← hx] at hu hsn
        obtain ⟨U, hU⟩ : ∃ U, U = vs[k]'(by rw [HVL.out, ← HN.out]; exact hlt) := ⟨_, rfl⟩
        rw [← hU] at hu hc
        have HU0 := Lib.hid hu
        have HU := Lib.hid (hu.below HB.out)
        obtain ⟨q, d, eU, hd1, hd2, _⟩ := hu
        unfold maxLen at hd2
        obtain ⟨m, hm⟩ : ∃ m, m = x.length := ⟨_, rfl⟩
        rw [← hm] at eU hd1
        have HM := Lib.hid hm
        clear hU hx hm hcell
        subst eU
        have HC0 := Lib.hid hc
        rw [← (HB.out.cell (p := ⟨b, o + k, none⟩) hbw)] at hc
        obtain ⟨F, hF⟩ : ∃ F, F = (ls.take k).flatten := ⟨_, rfl⟩
        rw [← hF] at HA HR HO HF hfl hsn
        have HS := Lib.hid hsn
        clear hF hsn
        by_cases hm60 : m ≤ 60
        · have hxl : Hid (x.length ≤ 60) := Lib.hid (by rw [← HM.out]; exact hm60)
          have hFl : Hid (F.length ≤ 720) := Lib.hid (by omega)
          have FP := Lib.hid (feed_app F x (by have := hxl.out; have := hFl.out; omega)).1
          have FR := Lib.hid (feed_app F x (by have := hxl.out; have := hFl.out; omega)).2
          have hFP : Hid ((feedP F).length ≤ 720) := Lib.hid (Nat.le_trans (feedP_len F) hFl.out)
          go_wp2_with (at_builtin; refine wp_app rfl _ _ rfl w.heap.size _ _ F x rfl rfl HA.out HU.out (by have := hFl.out; omega) (by have := hxl.out; omega) ?_; intro v1 w1 o1 g1 a1; have hcw1 := ((HB.out.trans (grown_below HA.out g1)).cell (p := ⟨b, o + k, none⟩) hbw).trans HC0.out)
          have b1 := grown_below HA.out g1
          have B1 := Lib.hid (HB.out.trans b1)
          have A1 := Lib.hid o1
          have R1 := Lib.hid (HR.out.grownX HO.out g1)
          have O1 := Lib.hid (off_grown HR.out HO.out a1)
          have Q1 := Lib.hid (HF.out.grownB HA.out g1 a1)
          have U1 := Lib.hid (HU0.out.below B1.out)
          clear b1 o1 g1 a1
          refine (feed_own _ _ (feedR F) x w1 (by have := feedR_len F; have := hFl.out; omega) (by have := hxl.out; omega) R1.out.rd U1.out).mono ?_
          rintro e w2 ⟨⟨r2, m2, rfl, fr2, om2⟩, b2⟩
          rw [← FR.out] at fr2
          have B2 := Lib.hid (B1.out.trans (b2.mono B1.out.size))
          have A2 := Lib.hid (A1.out.kept b2 (Nat.le_refl _))
          have R2 := Lib.hid (fr2.down B1.out.size)
          have O2 := Lib.hid (fr_off_any fr2 (own_form_low A1.out))
          have Q2 := Lib.hid (Q1.out.kept b2 (Nat.le_refl _))
          have M2 := Lib.hid om2
          clear b2 fr2 om2
          go_wp2_with (at_builtin; refine wp_appP rfl _ _ rfl w.heap.size w1.heap.size v1.ownBlock _ m2 (feedP F) (feedP (feedR F ++ x)) rfl rfl Q2.out M2.out B1.out.size (own_form_low A1.out) (by have := hFP.out; omega) (by have := feedP_len (feedR F ++ x); have := feedR_len F; have := hFl.out; have := hxl.out; rw [List.length_append] at *; omega) ?_; intro v3 w3 q3 g3)
          rw [← FP.out] at q3
          have A3 := Lib.hid (A2.out.grownP Q2.out g3)
          have R3 := Lib.hid (R2.out.grownQ Q2.out g3)
          have B3 := Lib.hid (B2.out.trans (grownP_below Q2.out g3))
          have Q3 := Lib.hid q3
          have L3 : Hid ((F ++ x).length ≤ 60 * (k + 1)) := Lib.hid (by rw [List.length_append]; have := hxl.out; omega)
          clear g3 q3
          go_wp2_with fail
          go_roundw
          case rel => exact ⟨k + 1, by omega, by go_num, by rw [HS.out]; exact A3, by rw [HS.out]; exact R3, by rw [HS.out]; exact O2, by rw [HS.out]; exact Q3, B3, by rw [HS.out]; exact L3.out⟩
          case measure => simp [intOf]; omega
        · have hm60 : 60 < m := by omega
          go_wp2_with fail
          refine (awake_run _).mono ?_
          rintro e wx ⟨rfl, gx⟩
          go_wp2_with fail
          go_ret
          exact ⟨rfl, bt HB.out gx⟩
      · obtain rfl : k = n := by omega
        have e : ls.take k = ls := by rw [HN.out, List.take_length]
        rw [e] at HA HR HO HF hfl
        have hpl : Hid ((feedP ls.flatten).length ≤ 2000000) := Lib.hid (by have := feedP_len ls.flatten; omega)
        have C := feed_run (.slice none 0 0) _ [] ls.flatten wr (by simp) (by omega) (rdB_nil wr) HA.out.rd
        rw [List.nil_append] at C
        have C := Lib.hid C
        clear e hfl
        go_wp2_with fail
        refine C.out.mono ?_
        rintro e w1 ⟨⟨r1, m1, rfl, x1, y1⟩, b1⟩
        have S1 := Lib.hid (same_run r1 _ _ _ w1 x1 (HR.out.rd.below b1))
        have S2 := Lib.hid (sameAll_run m1 _ _ _ w1 hpl.out y1 (HF.out.p.rd.below b1))
        have B1 := Lib.hid (bt HB.out b1)
        rw [decide_eq_true rfl] at S1 S2
        clear x1 y1 b1
        go_wp2_with fail
        refine S1.out.mono ?_
        rintro e w2 ⟨rfl, hu⟩
        subst hu
        go_wp2_with fail
        refine S2.out.mono ?_
        rintro e w3 ⟨rfl, kz, rfl⟩
        go_wp2_with fail
        refine (awake_run _).mono ?_
        rintro e wx ⟨rfl, gx⟩
        go_wp2_with fail
        go_ret
        exact ⟨rfl, bt (b_draws B1.out kz) gx⟩
  · have ha : 12 < n := by omega
    go_enter Try.func7, Try.ntmps7
    go_wp2_with fail
    refine (awake_run _).mono ?_
    rintro e wx ⟨rfl, gx⟩
    go_wp2_with fail
    go_ret
    exact ⟨rfl, gx⟩


set_option maxRecDepth 100000 in
theorem lifted (os : Os) (started : os.Started) (H : Type) (enc : TypeId × Value → H) :
    ReturnsInHanded {} Try.checked os 7 .any (Rows.frameChunksSpec.pre6 enc Try.prog Try.f7 Rows.frameChunksRow.domain false) (Rows.frameChunksSpec.post enc Try.prog Try.f7 false true false false) := by
  refine returnsInHanded_of_change (C := Try.checked) own started (by kernel_rfl) Try.func7
    (ChangeSpec.witness6 (enc := enc) (C := Try.checked) false ⟨#[], #[.slice none 0 0], []⟩ 8 (by kernel_rfl) (by kernel_rfl) (by kernel_rfl) (by kernel_rfl)) ?_
  intro W base args ds gs before hval0 hW hcnd _
  have hval : ∀ (j : Nat) t v, Try.f7.params[j]? = some t → args[j]? = some v → Value.okWide Try.prog W .any base t v := hval0
  have hW' := hW
  obtain ⟨p, q, hA0, hV, rfl, hfz, hnd⟩ := hW
  have hA : DataW.TrodAll enc Try.prog W 0 (fun _ => true) true Try.f7.params.toList args.toList ds p := hA0
  rw [Try.params7] at hA hval
  obtain ⟨v0, vs0, d0, ds0, p0, q0, hargs, rfl, rfl, h0, r0⟩ := trodAll_cons hA
  obtain ⟨rfl, rfl, rfl⟩ := trodAll_nil r0
  obtain rfl : args = #[v0] := by cases args; simp_all
  obtain ⟨rfl, rfl⟩ := trodVars_none hV
  have k0' := h0
  have lt0 : ∀ x ∈ p0, x.block < W.heap.size := by obtain ⟨m, hm⟩ := k0'; exact DataW.trod_lt m _ _ _ hm
  obtain ⟨a0, R0⟩ := lists_form (hval 0 32 v0 rfl rfl) h0
  clear hA0 hval0
  simp only [List.append_nil] at hW'
  refine (walk v0 a0 W R0).mono fun e W' ⟨he, bel⟩ => ?_
  subst he
  exact ⟨_, rfl, _, _, _, [], _, [], hW', trodAll_mk1 (shut_bool Try.underlying4 _), (trodAll_cons_mk (Below.trod laidOut (by kernel_rfl) (of_decide_eq_true (by kernel_rfl)) k0' bel lt0) trodAll_mk0), rfl, bel.frame _, fun h => by cases h⟩

theorem over : Rows.frameChunksRow.holds Try.pinned (OpenSpec.ofChange Rows.frameChunksSpec) :=
  OpenClaim.holds_of_wide 7 Try.f7 rfl rfl rfl rfl rfl rfl rfl ⟨rfl, rfl, rfl, rfl, rfl⟩ rfl rfl rfl rfl rfl (by kernel_rfl) Try.func7 (by kernel_rfl)
    (of_decide_eq_true (by kernel_rfl)) (by unfold Func.isWrapper; first | (rw [if_pos (by decide +kernel)]; kernel_rfl) | (rw [if_neg (by decide +kernel)]; exact ⟨rfl, rfl⟩))
    (fun os started H enc _ => lifted os started H enc)
end frameChunks

theorem frameChunks_holds : Rows.FrameChunksSaid := frameChunks.over
#print axioms frameChunks_holds
end Go.Proofs.Yteancehdiliepaa
