/-
  The law SealKeeps holds: for every input it returns true and leaves its arguments as they were.
-/
import Derived.Test.YtoalhgbdekbklaaRows
import Derived.Test.YtoalhgbdekbklaaSeG
import Derived.WalkKit
import Derived.BigQuiet
namespace Go.Proofs.Ytoalhgbdekbklaa
namespace sealKeeps
open Go.ChangeShapes Go.WideShapes Go.ChangeAt Go.RowKit
open IntWalk
set_option linter.unusedVariables false

theorem rd_take {w : World} {p : Option Addr} {n c : Nat} {l : List UInt8} (h : RdB w (.slice p n c) l) (m : Nat) (hm : m ≤ l.length) : RdB w (.slice p m c) (l.take m) := by
  obtain ⟨p', c', e, h2, h3, h4⟩ := h
  injection e with e1 e2 e3
  subst e1 e3
  have e4 : (l.take m).length = m := by rw [List.length_take]; omega
  refine ⟨p, c, by rw [e4], by omega, h3, fun hne => ?_⟩
  obtain ⟨b, o, e5, ha⟩ := h4 (fun z => hne (by rw [z]; simp))
  exact ⟨b, o, e5, ha.1, fun i hi => by rw [List.getElem_take]; exact ha.2 i (by omega)⟩
set_option maxHeartbeats 4000000 in
set_option maxRecDepth 100000 in
theorem walk (k : Int) (v : Value) (a : List UInt8) (m : Int) (w : World) (_ : 0 ≤ k ∧ k < 18446744073709551616) (Ra : RdB w v a) (hmb : -9223372036854775808 ≤ m ∧ m < 9223372036854775808) :
    Calls Try.prog 7 #[.int .u64 k, v, .int .i64 m] w fun e w' => e = .returned (.bool true) ∧ Below w.heap.size w w' := by
  have la := rd_len Ra
  unfold maxLen at la
  by_cases ha : a.length ≤ 5000
  · by_cases h0 : m < 0
    · obtain ⟨pa, ca, rfl, _, _, _⟩ := Ra
      go_enter Try.func7, Try.ntmps7
      go_wp2_with fail
      refine (awake_run _).mono ?_
      rintro e wx ⟨rfl, gx⟩
      go_wp2_with fail
      go_ret
      exact ⟨rfl, gx⟩
    · by_cases h1 : (a.length : Int) < m
      · have h0 : 0 ≤ m := by omega
        obtain ⟨pa, ca, rfl, _, _, _⟩ := Ra
        go_enter Try.func7, Try.ntmps7
        go_wp2_with fail
        refine (awake_run _).mono ?_
        rintro e wx ⟨rfl, gx⟩
        go_wp2_with fail
        go_ret
        exact ⟨rfl, gx⟩
      · obtain ⟨K, rfl⟩ := Int.eq_ofNat_of_zero_le (show 0 ≤ m by omega)
        have hK : K ≤ a.length := by omega
        have RA := Lib.hid Ra
        obtain ⟨pa, ca, rfl, hca, hma, hata⟩ := Ra
        have RT := Lib.hid (rd_take RA.out K hK)
        have SUM := Lib.hid (fun (u : Value) W (R : RdB W u (a.take K)) => sum_run k u (a.take K) W (by rw [List.length_take]; omega) R)
        obtain ⟨s, hs⟩ : ∃ s, s = hashP k (keyI k) (a.take K) := ⟨_, rfl⟩
        rw [← hs] at SUM
        have HA := Lib.hid hata
        have HL := Lib.hid ha
        have HK := Lib.hid hK
        have hKc : K ≤ ca := by omega
        have O1 := Lib.hid (OwnB.new w w.heap.size 0 [] w.heap.size rfl rfl (Nat.le_refl _) (by decide))
        clear hs hata h0 h1
        go_enter Try.func7, Try.ntmps7
        go_wp2_with (first | (at_builtin; refine wp_app rfl _ _ rfl w.heap.size _ _ [] (a.take K) rfl rfl O1.out (RT.out.more _) (by simp) (by have := HL.out; rw [List.length_take]; omega) ?_; intro v1 w1 o1 g1 _; have b1 := (((Below.refl _ w).alloc (Nat.le_refl _) _)).trans (grown_below O1.out g1); rw [List.nil_append] at o1; have X1 := Lib.hid o1.rd; have B1 := Lib.hid b1; clear o1 g1 b1 O1; have O2 := Lib.hid (OwnB.new w1 w1.heap.size 0 [] w1.heap.size rfl rfl (Nat.le_refl _) (by decide)); have R2 := Lib.hid ((RA.out.below B1.out).more (.cells #[] 5))) | (at_builtin; refine wp_app rfl _ _ rfl w1.heap.size _ _ [] a rfl rfl O2.out R2.out (by simp) (by have := HL.out; omega) ?_; intro v2 w2 o2 g2 _; have b2 := (((Below.refl _ w1).alloc (Nat.le_refl _) _)).trans (grown_below O2.out g2); rw [List.nil_append] at o2; have B2 := Lib.hid (bt B1.out b2); have X2 := Lib.hid (X1.out.below b2); have Y2 := Lib.hid o2.rd; obtain ⟨p2, c2, rfl, hc2, hm2, hat2⟩ := o2.rd; have hKc2 : K ≤ c2 := Nat.le_trans HK.out hc2; clear o2 g2 b2 O2 R2 B1 X1 hat2; have T2 := Lib.hid (rd_take Y2.out K HK.out); have S2 := Lib.hid (SUM.out _ _ T2.out)))
        refine S2.out.mono ?_
        rintro e w3 ⟨rfl, b⟩
        have B3 := Lib.hid (bt B2.out b)
        have S3 := Lib.hid (SUM.out _ _ (X2.out.below b))
        have Y3 := Lib.hid (Y2.out.below b)
        clear b S2 B2 X2 Y2 T2
        go_wp2_with fail
        refine S3.out.mono ?_
        rintro e w4 ⟨rfl, b⟩
        have B4 := Lib.hid (bt B3.out b)
        have Y4 := Lib.hid (Y3.out.below b)
        have R4 := Lib.hid (RA.out.below B4.out)
        clear b S3 B3 Y3 SUM RT
        go_wp2_with fail
        go_loopw [52] (fun i wr => ∃ j : Nat, j ≤ a.length ∧ i = .int .i64 j ∧ Below w4.heap.size w4 wr) (fun i _ => a.length - (intOf i).toNat)
        case atStart => exact ⟨0, Nat.zero_le _, rfl, Below.refl _ _⟩
        case round =>
          obtain ⟨j, hj, rfl, bb⟩ := hrel
          by_cases hlt : j < a.length
          · have hne : a ≠ [] := fun z => by rw [z] at hlt; exact absurd hlt (Nat.not_lt_zero _)
            have y5 := Y4.out.below bb
            have r5 := R4.out.below bb
            have BB := Lib.hid bb
            clear bb B4 Y4 R4
            obtain ⟨_, _, e1, _, _, hat1⟩ := y5
            obtain ⟨_, _, e2, _, _, hat2⟩ := r5
            obtain ⟨b1, o1, rfl, at1⟩ := hat1 hne
            obtain ⟨b2, o2, rfl, at2⟩ := hat2 hne
            injection e1 with e1 _ e3
            injection e2 with e2 _ e4
            subst e1 e2
            have x1 := at1.2 j hlt
            have x2 := at2.2 j hlt
            clear at1 at2 hat1 hat2 hne e3 e4
            unfold bv at x1 x2
            obtain ⟨X, hX⟩ : ∃ X, X = ((a[j].toNat : Nat) : Int) := ⟨_, rfl⟩
            rw [← hX] at x1 x2
            clear hX
            have hXX : (X != X) = false := by simp
            go_upto_region 10 with fail
            go_quiet (fail)
            go_wp2
            refine ⟨⟨j + 1, hlt, by go_num, b_draws BB.out _⟩, by simp [intOf]; omega⟩
          · obtain rfl : j = a.length := by omega
            have BB := Lib.hid (bt B4.out bb)
            clear bb Y4 R4 B4
            go_wp2_with fail
            refine (awake_run _).mono ?_
            rintro e wx ⟨rfl, gx⟩
            go_wp2_with fail
            go_ret
            exact ⟨rfl, bt BB.out gx⟩
  · have ha : 5000 < a.length := by omega
    obtain ⟨pa, ca, rfl, _, _, _⟩ := Ra
    go_enter Try.func7, Try.ntmps7
    go_wp2_with fail
    refine (awake_run _).mono ?_
    rintro e wx ⟨rfl, gx⟩
    go_wp2_with fail
    go_ret
    exact ⟨rfl, gx⟩


set_option maxRecDepth 100000 in
theorem lifted (os : Os) (started : os.Started) (H : Type) (enc : TypeId × Value → H) :
    ReturnsInHanded {} Try.checked os 7 .any (Rows.sealKeepsSpec.pre6 enc Try.prog Try.f7 Rows.sealKeepsRow.domain false) (Rows.sealKeepsSpec.post enc Try.prog Try.f7 false true false false) := by
  refine returnsInHanded_of_change (C := Try.checked) own started (by kernel_rfl) Try.func7
    (ChangeSpec.witness6 (enc := enc) (C := Try.checked) false ⟨#[], #[.int .u64 0, .slice none 0 0, .int .i64 0], []⟩ 8 (by kernel_rfl) (by kernel_rfl) (by kernel_rfl) (by kernel_rfl)) ?_
  intro W base args ds gs before hval0 hW hcnd _
  have hval : ∀ (j : Nat) t v, Try.f7.params[j]? = some t → args[j]? = some v → Value.okWide Try.prog W .any base t v := hval0
  have hW' := hW
  obtain ⟨p, q, hA0, hV, rfl, hfz, hnd⟩ := hW
  have hA : DataW.TrodAll enc Try.prog W 0 (fun _ => true) true Try.f7.params.toList args.toList ds p := hA0
  rw [Try.params7] at hA hval
  obtain ⟨v0, vs0, d0, ds0, p0, q0, hargs, rfl, rfl, h0, r0⟩ := trodAll_cons hA
  obtain ⟨v1, vs1, d1, ds1, p1, q1, rfl, rfl, rfl, h1, r1⟩ := trodAll_cons r0
  obtain ⟨v2, vs2, d2, ds2, p2, q2, rfl, rfl, rfl, h2, r2⟩ := trodAll_cons r1
  obtain ⟨rfl, rfl, rfl⟩ := trodAll_nil r2
  obtain rfl : args = #[v0, v1, v2] := by cases args; simp_all
  obtain ⟨rfl, rfl⟩ := trodVars_none hV
  have k0' := h0
  have lt0 : ∀ x ∈ p0, x.block < W.heap.size := by obtain ⟨m, hm⟩ := k0'; exact DataW.trod_lt m _ _ _ hm
  have k1' := h1
  have lt1 : ∀ x ∈ p1, x.block < W.heap.size := by obtain ⟨m, hm⟩ := k1'; exact DataW.trod_lt m _ _ _ hm
  have k2' := h2
  have lt2 : ∀ x ∈ p2, x.block < W.heap.size := by obtain ⟨m, hm⟩ := k2'; exact DataW.trod_lt m _ _ _ hm
  obtain ⟨n0, rfl, rfl, rfl, w0⟩ := open_int Try.underlying22 (hval 0 22 v0 rfl rfl) h0
  obtain ⟨a1, R1⟩ := bytes_form (hval 1 23 v1 rfl rfl) h1
  obtain ⟨n2, rfl, rfl, rfl, w2⟩ := open_int Try.underlying3 (hval 2 3 v2 rfl rfl) h2
  clear hA0 hval0
  simp only [List.append_nil] at hW'
  refine (walk n0 v1 a1 n2 W (wf_u64 w0) R1 (wf_i64 w2)).mono fun e W' ⟨he, bel⟩ => ?_
  subst he
  exact ⟨_, rfl, _, _, _, [], _, [], hW', trodAll_mk1 (shut_bool Try.underlying4 _), (trodAll_cons_mk (Below.trod laidOut (by kernel_rfl) (of_decide_eq_true (by kernel_rfl)) k0' bel lt0) (trodAll_cons_mk (Below.trod laidOut (by kernel_rfl) (of_decide_eq_true (by kernel_rfl)) k1' bel lt1) (trodAll_cons_mk (Below.trod laidOut (by kernel_rfl) (of_decide_eq_true (by kernel_rfl)) k2' bel lt2) trodAll_mk0))), rfl, bel.frame _, fun h => by cases h⟩

theorem over : Rows.sealKeepsRow.holds Try.pinned (OpenSpec.ofChange Rows.sealKeepsSpec) :=
  OpenClaim.holds_of_wide 7 Try.f7 rfl rfl rfl rfl rfl rfl rfl ⟨rfl, rfl, rfl, rfl, rfl⟩ rfl rfl rfl rfl rfl (by kernel_rfl) Try.func7 (by kernel_rfl)
    (of_decide_eq_true (by kernel_rfl)) (by unfold Func.isWrapper; first | (rw [if_pos (by decide +kernel)]; kernel_rfl) | (rw [if_neg (by decide +kernel)]; exact ⟨rfl, rfl⟩))
    (fun os started H enc _ => lifted os started H enc)
end sealKeeps

theorem sealKeeps_holds : Rows.SealKeepsSaid := sealKeeps.over
#print axioms sealKeeps_holds
end Go.Proofs.Ytoalhgbdekbklaa
