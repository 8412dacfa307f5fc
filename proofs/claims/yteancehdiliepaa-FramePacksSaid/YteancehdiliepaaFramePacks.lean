/-
  The law FramePacks holds: for every input it returns true and leaves its arguments as they were.
-/
import Derived.Test.YteancehdiliepaaRows
import Derived.Test.YteancehdiliepaaFrP
import Derived.WalkKit
import Derived.BigQuiet
namespace Go.Proofs.Yteancehdiliepaa
namespace framePacks
open Go.ChangeShapes Go.WideShapes Go.ChangeAt Go.RowKit
open IntWalk
set_option linter.unusedVariables false

theorem frm_ne (l : List UInt8) : frm l ≠ [] := fun e => by have := frm_len4 l; rw [e] at this; simp at this
theorem rd_take {w : World} {g n cap k : Nat} {l : List UInt8} (h : AtB w g 0 l) (hk : k ≤ l.length) (hc : l.length ≤ cap) (hm : cap ≤ maxLen) : RdB w (.slice (some ⟨g, 0, none⟩) k cap) (l.take k) := by
  have hl : (l.take k).length = k := by rw [List.length_take]; omega
  refine ⟨some ⟨g, 0, none⟩, cap, by rw [hl], by rw [hl]; omega, hm, fun _ => ⟨g, 0, rfl, h.1, fun i hi => ?_⟩⟩
  rw [hl] at hi
  rw [h.2 i (by omega), List.getElem_take]
set_option maxHeartbeats 4000000 in
set_option maxRecDepth 100000 in
theorem walk (v0 : Value) (a : List UInt8) (w : World) (Ra : RdB w v0 a) :
    Calls Try.prog 4 #[v0] w fun e w' => e = .returned (.bool true) ∧ Below w.heap.size w w' := by
  have la := rd_len Ra
  unfold maxLen at la
  by_cases ha : a.length ≤ 200
  · skip
    have RA := Lib.hid Ra
    have C1 := Lib.hid (pack_run v0 a w (by omega) Ra)
    have C2 := Lib.hid (fun W (h : Below w.heap.size w W) => rpack_run v0 a W (by omega) (Ra.below h))
    have hf4 := frm_len4 a
    have hfl : (frm a).length ≤ 406 := by have := frm_len a; omega
    have CU := Lib.hid (fun (k : Nat) (hk : k < (frm a).length) => unR_cut (cont a (crc a)) k hk)
    have MK := Lib.hid (fun (k : Nat) (hk : k < (frm a).length) => stuff_marks (cont a (crc a)) k hk)
    have UO := Lib.hid (unR_frm a (by omega))
    have HFN := Lib.hid (frm_ne a)
    change Hid (∀ (k : Nat) (hk : k < (frm a).length), unR ((frm a).take k) = .error 6) at CU
    change Hid (∀ (k : Nat) (hk : k < (frm a).length), (frm a)[k] = 192 ↔ (k = 0 ∨ k = (frm a).length - 1)) at MK
    obtain ⟨F, hF⟩ : ∃ F, F = frm a := ⟨_, rfl⟩
    rw [← hF] at C1 C2 CU MK UO HFN hf4 hfl
    obtain ⟨L, hL⟩ : ∃ L, L = F.length := ⟨_, rfl⟩
    have HL := Lib.hid hL
    have MK2 : ∀ (k : Nat) (hk : k < F.length), F[k] = 192 ↔ (k = 0 ∨ k = L - 1) := fun k hk => by rw [hL]; exact MK.out k hk
    have MK := Lib.hid MK2
    rw [← hL] at hf4 hfl
    clear MK2
    obtain ⟨pa, ca, rfl, _, _, _⟩ := Ra
    clear hF hL
    go_enter Try.func4, Try.ntmps4
    go_wp2_with fail
    refine C1.out.mono ?_
    rintro e u1 ⟨⟨v1, rfl, x1⟩, g1⟩
    obtain ⟨g, cap, rfl, q1, q2, q3⟩ := own_form x1 HFN.out
    rw [← HL.out] at q1
    have X1 := Lib.hid x1
    have G1 := Lib.hid g1
    rw [← HL.out] at X1
    clear g1 x1
    rw [← HL.out]
    go_wp2_with fail
    refine (C2.out _ G1.out).mono ?_
    rintro e u2 ⟨⟨v2, rfl, x2⟩, g2⟩
    have G2 := Lib.hid (bt G1.out g2)
    have A2 := Lib.hid ((own_at X1.out HFN.out).below g2 q3)
    have HG : Hid (g < u2.heap.size) := Lib.hid A2.out.1
    have S1 := Lib.hid (same_run (.slice (some ⟨g, 0, none⟩) L cap) v2 _ _ u2 (X1.out.rd.below g2) x2.rd)
    rw [decide_eq_true rfl] at S1
    clear g2 x2 q3
    go_wp2_with fail
    refine S1.out.mono ?_
    rintro e u3 ⟨rfl, hu⟩
    subst hu
    go_wp2_with fail
    go_loopw [7] (fun i wr => ∃ k : Nat, k ≤ L ∧ i = .int .i64 k ∧ Below u2.heap.size u2 wr) (fun i _ => L - (intOf i).toNat)
    case atStart => exact ⟨0, Nat.zero_le _, rfl, Below.refl _ _⟩
    case round =>
      obtain ⟨k, hk, rfl, hbl⟩ := hrel
      have HB := Lib.hid hbl
      have A3 := Lib.hid (A2.out.below hbl HG.out)
      clear hbl
      by_cases hlt : k < L
      · have hc := A3.out.2 k (by rw [← HL.out]; exact hlt)
        rw [Nat.zero_add] at hc
        have hmk := MK.out k (by rw [← HL.out]; exact hlt)
        obtain ⟨x, hx⟩ : ∃ x, x = F[k]'(by rw [← HL.out]; exact hlt) := ⟨_, rfl⟩
        rw [← hx] at hc hmk
        unfold bv at hc
        have hkc : k ≤ cap := by omega
        have C3 := Lib.hid (unpack_run (.slice (some ⟨g, 0, none⟩) k cap) (F.take k) wr (by rw [List.length_take]; omega) (rd_take (n := L) A3.out (by rw [← HL.out]; exact hk) (by rw [← HL.out]; exact q1) q2))
        rw [CU.out k (by rw [← HL.out]; exact hlt)] at C3
        clear hx
        have three : k = 0 ∨ (k ≠ 0 ∧ k = L - 1) ∨ (k ≠ 0 ∧ k ≠ L - 1) := by omega
        rcases three with h | ⟨h, h2⟩ | ⟨h, h2⟩
        · have hx := hmk.2 (.inl h)
          rw [hx, show (((192 : UInt8).toNat : Nat) : Int) = 192 from rfl] at hc
          have e2 : ((k : Int) == 0) = true := by rw [beq_iff_eq]; omega
          clear hmk hx h
          go_wp2_with fail
          refine C3.out.mono ?_
          rintro e u4 ⟨rfl, b4⟩
          have B4 := Lib.hid (bt HB.out b4)
          clear b4
          go_wp2_with fail
          go_roundw
          case rel => exact ⟨k + 1, by omega, by go_num, B4.out⟩
          case measure => simp [intOf]; omega
        · have hx := hmk.2 (.inr h2)
          rw [hx, show (((192 : UInt8).toNat : Nat) : Int) = 192 from rfl] at hc
          have e2 : ((k : Int) == 0) = false := by rw [beq_eq_false_iff_ne]; omega
          have e3 : ((k : Int) == (L : Int) - 1) = true := by rw [beq_iff_eq]; omega
          clear h2 h hmk hx
          go_wp2_with fail
          refine C3.out.mono ?_
          rintro e u4 ⟨rfl, b4⟩
          have B4 := Lib.hid (bt HB.out b4)
          clear b4
          go_wp2_with fail
          go_roundw
          case rel => exact ⟨k + 1, by omega, by go_num, B4.out⟩
          case measure => simp [intOf]; omega
        · have hx : x ≠ 192 := fun e => by rcases hmk.1 e with h3 | h3 <;> omega
          have e1 := bne_ x 192 hx
          rw [show (((192 : UInt8).toNat : Nat) : Int) = 192 from rfl] at e1
          have e2 : ((k : Int) == 0) = false := by rw [beq_eq_false_iff_ne]; omega
          have e3 : ((k : Int) == (L : Int) - 1) = false := by rw [beq_eq_false_iff_ne]; omega
          clear h2 h hmk hx
          go_wp2_with fail
          refine C3.out.mono ?_
          rintro e u4 ⟨rfl, b4⟩
          have B4 := Lib.hid (bt HB.out b4)
          clear b4
          go_wp2_with fail
          go_roundw
          case rel => exact ⟨k + 1, by omega, by go_num, B4.out⟩
          case measure => simp [intOf]; omega
      · obtain rfl : k = L := by omega
        have R3 : RdB wr (.slice (some ⟨g, 0, none⟩) k cap) F := by rw [HL.out]; exact ⟨some ⟨g, 0, none⟩, cap, rfl, by rw [← HL.out]; exact q1, q2, fun _ => ⟨g, 0, rfl, A3.out⟩⟩
        have C3 := Lib.hid (unpack_run (.slice (some ⟨g, 0, none⟩) k cap) F wr (by rw [← HL.out]; omega) R3)
        rw [UO.out] at C3
        clear R3
        go_wp2_with fail
        refine C3.out.mono ?_
        rintro e u4 ⟨⟨v4, rfl, x4⟩, b4⟩
        have B4 := Lib.hid (bt G2.out (bt HB.out b4))
        have S4 := Lib.hid (same_run v4 _ _ _ u4 x4.rd (RA.out.below B4.out))
        rw [decide_eq_true rfl] at S4
        clear b4 x4
        go_wp2_with fail
        refine S4.out.mono ?_
        rintro e u5 ⟨rfl, rfl⟩
        go_wp2_with fail
        refine (awake_run _).mono ?_
        rintro e wx ⟨rfl, gx⟩
        go_wp2_with fail
        go_ret
        exact ⟨rfl, bt B4.out gx⟩
  · have ha : 200 < a.length := by omega
    obtain ⟨pa, ca, rfl, _, _, _⟩ := Ra
    go_enter Try.func4, Try.ntmps4
    go_wp2_with fail
    refine (awake_run _).mono ?_
    rintro e wx ⟨rfl, gx⟩
    go_wp2_with fail
    go_ret
    exact ⟨rfl, gx⟩


set_option maxRecDepth 100000 in
theorem lifted (os : Os) (started : os.Started) (H : Type) (enc : TypeId × Value → H) :
    ReturnsInHanded {} Try.checked os 4 .any (Rows.framePacksSpec.pre6 enc Try.prog Try.f4 Rows.framePacksRow.domain false) (Rows.framePacksSpec.post enc Try.prog Try.f4 false true false false) := by
  refine returnsInHanded_of_change (C := Try.checked) own started (by kernel_rfl) Try.func4
    (ChangeSpec.witness6 (enc := enc) (C := Try.checked) false ⟨#[], #[.slice none 0 0], []⟩ 8 (by kernel_rfl) (by kernel_rfl) (by kernel_rfl) (by kernel_rfl)) ?_
  intro W base args ds gs before hval0 hW hcnd _
  have hval : ∀ (j : Nat) t v, Try.f4.params[j]? = some t → args[j]? = some v → Value.okWide Try.prog W .any base t v := hval0
  have hW' := hW
  obtain ⟨p, q, hA0, hV, rfl, hfz, hnd⟩ := hW
  have hA : DataW.TrodAll enc Try.prog W 0 (fun _ => true) true Try.f4.params.toList args.toList ds p := hA0
  rw [Try.params4] at hA hval
  obtain ⟨v0, vs0, d0, ds0, p0, q0, hargs, rfl, rfl, h0, r0⟩ := trodAll_cons hA
  obtain ⟨rfl, rfl, rfl⟩ := trodAll_nil r0
  obtain rfl : args = #[v0] := by cases args; simp_all
  obtain ⟨rfl, rfl⟩ := trodVars_none hV
  have k0' := h0
  have lt0 : ∀ x ∈ p0, x.block < W.heap.size := by obtain ⟨m, hm⟩ := k0'; exact DataW.trod_lt m _ _ _ hm
  obtain ⟨a0, R0⟩ := bytes_form (hval 0 22 v0 rfl rfl) h0
  clear hA0 hval0
  simp only [List.append_nil] at hW'
  refine (walk v0 a0 W R0).mono fun e W' ⟨he, bel⟩ => ?_
  subst he
  exact ⟨_, rfl, _, _, _, [], _, [], hW', trodAll_mk1 (shut_bool Try.underlying4 _), (trodAll_cons_mk (Below.trod laidOut (by kernel_rfl) (of_decide_eq_true (by kernel_rfl)) k0' bel lt0) trodAll_mk0), rfl, bel.frame _, fun h => by cases h⟩

theorem over : Rows.framePacksRow.holds Try.pinned (OpenSpec.ofChange Rows.framePacksSpec) :=
  OpenClaim.holds_of_wide 4 Try.f4 rfl rfl rfl rfl rfl rfl rfl ⟨rfl, rfl, rfl, rfl, rfl⟩ rfl rfl rfl rfl rfl (by kernel_rfl) Try.func4 (by kernel_rfl)
    (of_decide_eq_true (by kernel_rfl)) (by unfold Func.isWrapper; first | (rw [if_pos (by decide +kernel)]; kernel_rfl) | (rw [if_neg (by decide +kernel)]; exact ⟨rfl, rfl⟩))
    (fun os started H enc _ => lifted os started H enc)
end framePacks

theorem framePacks_holds : Rows.FramePacksSaid := framePacks.over
#print axioms framePacks_holds
end Go.Proofs.Yteancehdiliepaa
