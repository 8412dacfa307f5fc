/-
  The law FrameSums holds: for every input it returns true and leaves its arguments as they were.
-/
import Derived.Test.YteancehdiliepaaRows
import Derived.Test.YteancehdiliepaaFrP
import Derived.WalkKit
import Derived.BigQuiet
namespace Go.Proofs.Yteancehdiliepaa
namespace frameSums
open Go.ChangeShapes Go.WideShapes Go.ChangeAt Go.RowKit
open IntWalk
set_option linter.unusedVariables false

set_option maxHeartbeats 4000000 in
set_option maxRecDepth 100000 in
theorem walk (v0 : Value) (a : List UInt8) (n1 n2 : Int) (w : World) (Ra : RdB w v0 a) (w1 : 0 ≤ n1 ∧ n1 < 65536) (w2 : 0 ≤ n2 ∧ n2 < 256) :
    Calls Try.prog 3 #[v0, .int .u16 n1, .int .u8 n2] w fun e w' => e = .returned (.bool true) ∧ Below w.heap.size w w' := by
  have la := rd_len Ra
  unfold maxLen at la
  by_cases ha : a.length ≤ 300
  · skip
    have RA := Lib.hid Ra
    have C1 := Lib.hid (sum_run v0 a w (by omega) Ra)
    have C2 := Lib.hid (rsum_run v0 a w (by omega) Ra)
    have hS := crc_lt a
    obtain ⟨S, hSe⟩ : ∃ S, S = crc a := ⟨_, rfl⟩
    rw [← hSe] at C1 C2 hS
    have HS := Lib.hid hSe
    have s1 : (((S : Nat) : Int) != (S : Nat)) = false := by simp
    obtain ⟨pa, ca, rfl, _, _, _⟩ := Ra
    clear hSe
    by_cases h0 : a.length = 0 ∨ n2 = 0
    · have h0b : a.length = 0 ∨ (a.length ≠ 0 ∧ n2 = 0) := by omega
      rcases h0b with h0 | ⟨h0, rfl⟩
      · rw [h0] at C1 C2 ⊢
        go_enter Try.func3, Try.ntmps3
        go_wp2_with fail
        refine C1.out.mono ?_
        rintro e u1 ⟨rfl, rfl⟩
        go_wp2_with fail
        refine C2.out.mono ?_
        rintro e u1 ⟨rfl, rfl⟩
        go_wp2_with fail
        refine (awake_run _).mono ?_
        rintro e wx ⟨rfl, gx⟩
        go_wp2_with fail
        go_ret
        exact ⟨rfl, gx⟩
      · have hz : (((a.length : Nat) : Int) == 0) = false := by rw [beq_eq_false_iff_ne]; omega
        go_enter Try.func3, Try.ntmps3
        go_wp2_with fail
        refine C1.out.mono ?_
        rintro e u1 ⟨rfl, rfl⟩
        go_wp2_with fail
        refine C2.out.mono ?_
        rintro e u1 ⟨rfl, rfl⟩
        go_wp2_with fail
        refine (awake_run _).mono ?_
        rintro e wx ⟨rfl, gx⟩
        go_wp2_with fail
        go_ret
        exact ⟨rfl, gx⟩
    · have hz : (((a.length : Nat) : Int) == 0) = false := by rw [beq_eq_false_iff_ne]; omega
      have hz2 : (n2 == 0) = false := by rw [beq_eq_false_iff_ne]; omega
      have hne : a ≠ [] := fun e => h0 (.inl (by rw [e]; rfl))
      obtain ⟨m, rfl⟩ := Int.eq_ofNat_of_zero_le w1.1
      obtain ⟨K, hK⟩ : ∃ K, K = m % a.length := ⟨_, rfl⟩
      have hKl : K < a.length := by rw [hK]; exact Nat.mod_lt _ (by omega)
      have hmod : ((m : Int) % (a.length : Nat)) = (K : Nat) := by rw [hK]; rfl
      have hmodt : Int.tmod (m : Int) (a.length : Nat) = (K : Nat) := by rw [hK]; rfl
      obtain ⟨x, hx⟩ : ∃ x, x = a[K] := ⟨_, rfl⟩
      obtain ⟨N, hN⟩ : ∃ N : UInt8, n2 = (N.toNat : Int) := ⟨UInt8.ofNat n2.toNat, by rw [UInt8.toNat_ofNat']; omega⟩
      subst hN
      have hbv : bv (x ^^^ N) = .int .u8 ((x.toNat ^^^ N.toNat : Nat) : Int) := by unfold bv; rw [UInt8.toNat_xor]
      have hxor : bits .xor .u8 (x.toNat : Int) (N.toNat : Int) = ((x.toNat ^^^ N.toNat : Nat) : Int) := u8_xor_nat _ _ x.toNat_lt N.toNat_lt
      have HBV := Lib.hid hbv
      clear hbv
      have hch : crc (a.set K (x ^^^ N)) ≠ crc a := crc_changed a K hKl _ (by
        rw [← hx]
        intro e
        apply h0
        right
        have : N = 0 := by
          have e2 := congrArg (fun z => x ^^^ z) e
          simpa [← UInt8.xor_assoc] using e2
        rw [this]; rfl)
      have hT := crc_lt (a.set K (x ^^^ N))
      obtain ⟨T, hTe⟩ : ∃ T, T = crc (a.set K (x ^^^ N)) := ⟨_, rfl⟩
      rw [← hTe, ← HS.out] at hch
      have s2 : (((T : Nat) : Int) != (S : Nat)) = true := by rw [bne_iff_ne]; omega
      have HT := Lib.hid hTe
      have HX := Lib.hid hx
      have HNE := Lib.hid hne
      have HAL := Lib.hid ha
      have O1 := Lib.hid (OwnB.new w w.heap.size 0 [] w.heap.size rfl rfl (Nat.le_refl _) (by decide))
      clear hTe hx hne hK hT hch w2 h0
      go_enter Try.func3, Try.ntmps3
      go_wp2_with fail
      refine C1.out.mono ?_
      rintro e u1 ⟨rfl, rfl⟩
      go_wp2_with fail
      refine C2.out.mono ?_
      rintro e u1 ⟨rfl, rfl⟩
      go_wp2_with (at_builtin; refine wp_app rfl _ _ rfl w.heap.size _ _ [] a rfl rfl O1.out (RA.out.more _) (by simp) (by have := HAL.out; omega) ?_; intro v2 u2 o2 g2 _; have b2 := (((Below.refl _ w).alloc (Nat.le_refl _) _)).trans (grown_below O1.out g2); clear g2; rw [List.nil_append] at o2; obtain ⟨g, cap, rfl, q1, q2, q3⟩ := own_form o2 HNE.out; have A2 := own_at o2 HNE.out; have hgw := (o2.1.lt g rfl).1; have hfz := o2.1.frozenAt K; have hc := A2.2 K hKl; rw [Nat.zero_add, ← HX.out] at hc; unfold bv at hc; have A3 := Lib.hid (A2.put K (x ^^^ N) ⟨g, K, none⟩ (by rw [Nat.zero_add])); have B3 := Lib.hid (b2.setCell (p := ⟨g, K, none⟩) hgw (bv (x ^^^ N))); rw [HBV.out] at A3 B3; clear A2 o2 b2 hgw q3)
      have R3 : RdB (u2.setCell ⟨g, K, none⟩ (.int .u8 ((x.toNat ^^^ N.toNat : Nat) : Int))) (.slice (some ⟨g, 0, none⟩) a.length cap) (a.set K (x ^^^ N)) := ⟨some ⟨g, 0, none⟩, cap, by rw [List.length_set], by rw [List.length_set]; exact q1, q2, fun _ => ⟨g, 0, rfl, A3.out⟩⟩
      have C3 := sum_run _ _ _ (by rw [List.length_set]; have := HAL.out; omega) R3
      rw [← HT.out] at C3
      refine C3.mono ?_
      rintro e u3 ⟨rfl, rfl⟩
      go_wp2_with fail
      refine (awake_run _).mono ?_
      rintro e wx ⟨rfl, gx⟩
      go_wp2_with fail
      go_ret
      exact ⟨rfl, bt B3.out gx⟩
  · have ha : 300 < a.length := by omega
    obtain ⟨pa, ca, rfl, _, _, _⟩ := Ra
    go_enter Try.func3, Try.ntmps3
    go_wp2_with fail
    refine (awake_run _).mono ?_
    rintro e wx ⟨rfl, gx⟩
    go_wp2_with fail
    go_ret
    exact ⟨rfl, gx⟩


set_option maxRecDepth 100000 in
theorem lifted (os : Os) (started : os.Started) (H : Type) (enc : TypeId × Value → H) :
    ReturnsInHanded {} Try.checked os 3 .any (Rows.frameSumsSpec.pre6 enc Try.prog Try.f3 Rows.frameSumsRow.domain false) (Rows.frameSumsSpec.post enc Try.prog Try.f3 false true false false) := by
  refine returnsInHanded_of_change (C := Try.checked) own started (by kernel_rfl) Try.func3
    (ChangeSpec.witness6 (enc := enc) (C := Try.checked) false ⟨#[], #[.slice none 0 0, .int .u16 0, .int .u8 0], []⟩ 8 (by kernel_rfl) (by kernel_rfl) (by kernel_rfl) (by kernel_rfl)) ?_
  intro W base args ds gs before hval0 hW hcnd _
  have hval : ∀ (j : Nat) t v, Try.f3.params[j]? = some t → args[j]? = some v → Value.okWide Try.prog W .any base t v := hval0
  have hW' := hW
  obtain ⟨p, q, hA0, hV, rfl, hfz, hnd⟩ := hW
  have hA : DataW.TrodAll enc Try.prog W 0 (fun _ => true) true Try.f3.params.toList args.toList ds p := hA0
  rw [Try.params3] at hA hval
  obtain ⟨v0, vs0, d0, ds0, p0, q0, hargs, rfl, rfl, h0, r0⟩ := trodAll_cons hA
  obtain ⟨v1, vs1, d1, ds1, p1, q1, rfl, rfl, rfl, h1, r1⟩ := trodAll_cons r0
  obtain ⟨v2, vs2, d2, ds2, p2, q2, rfl, rfl, rfl, h2, r2⟩ := trodAll_cons r1
  obtain ⟨rfl, rfl, rfl⟩ := trodAll_nil r2
  obtain rfl : args = #[v0, v1, v2] := by cases args; simp_all
  obtain ⟨rfl, rfl⟩ := trodVars_none hV
  have k0' := h0
  have lt0 : ∀ x ∈ p0, x.block < W.heap.size := by obtain ⟨m, hm⟩ := k0'; exact DataW.trod_lt m _ _ _ hm
  have k1' := h1
  have lt1 : ∀ x ∈ p1, x.block < W.heap.size := by obtain ⟨m, hm⟩ := k1'; exact DataW.trod_lt m _ _ _ hm
  have k2' := h2
  have lt2 : ∀ x ∈ p2, x.block < W.heap.size := by obtain ⟨m, hm⟩ := k2'; exact DataW.trod_lt m _ _ _ hm
  obtain ⟨a0, R0⟩ := bytes_form (hval 0 22 v0 rfl rfl) h0
  obtain ⟨n1, rfl, rfl, rfl, w1⟩ := open_int Try.underlying23 (hval 1 23 v1 rfl rfl) h1
  obtain ⟨n2, rfl, rfl, rfl, w2⟩ := open_int Try.underlying5 (hval 2 5 v2 rfl rfl) h2
  clear hA0 hval0
  simp only [List.append_nil] at hW'
  refine (walk v0 a0 n1 n2 W R0 (wf_u16 w1) (wf_u8 w2)).mono fun e W' ⟨he, bel⟩ => ?_
  subst he
  exact ⟨_, rfl, _, _, _, [], _, [], hW', trodAll_mk1 (shut_bool Try.underlying4 _), (trodAll_cons_mk (Below.trod laidOut (by kernel_rfl) (of_decide_eq_true (by kernel_rfl)) k0' bel lt0) (trodAll_cons_mk (Below.trod laidOut (by kernel_rfl) (of_decide_eq_true (by kernel_rfl)) k1' bel lt1) (trodAll_cons_mk (Below.trod laidOut (by kernel_rfl) (of_decide_eq_true (by kernel_rfl)) k2' bel lt2) trodAll_mk0))), rfl, bel.frame _, fun h => by cases h⟩

theorem over : Rows.frameSumsRow.holds Try.pinned (OpenSpec.ofChange Rows.frameSumsSpec) :=
  OpenClaim.holds_of_wide 3 Try.f3 rfl rfl rfl rfl rfl rfl rfl ⟨rfl, rfl, rfl, rfl, rfl⟩ rfl rfl rfl rfl rfl (by kernel_rfl) Try.func3 (by kernel_rfl)
    (of_decide_eq_true (by kernel_rfl)) (by unfold Func.isWrapper; first | (rw [if_pos (by decide +kernel)]; kernel_rfl) | (rw [if_neg (by decide +kernel)]; exact ⟨rfl, rfl⟩))
    (fun os started H enc _ => lifted os started H enc)
end frameSums

theorem frameSums_holds : Rows.FrameSumsSaid := frameSums.over
#print axioms frameSums_holds
end Go.Proofs.Yteancehdiliepaa
