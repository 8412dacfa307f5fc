/-
  The law IdentDetects holds: for every input it returns true and leaves its arguments as they were.
-/
import Derived.Test.YtkimniggdnlliaaRows
import Derived.Test.YtkimniggdnlliaaDetect
import Derived.RegionTactic
import Derived.BigRegion
import Derived.ChangeAlike
import Derived.WalkKit
import Derived.ProofKit
import Derived.OpenShut
import Derived.ShutString
import Derived.ChangeOld
import Derived.Below
namespace Go.Proofs.Ytkimniggdnlliaa
namespace identDetects
open Go.ChangeShapes Go.WideShapes Go.ChangeAt Go.RowKit
open Go.ChangeMaps (open_string shut_string)
open Plain
set_option linter.unusedVariables false

theorem add_run (x y : ByteArray) (w : World) (h : x.size + y.size ≤ 9223372036854775807) : (Op.stringOp .add x y).run Try.prog w = .ok (.string (x ++ y)) w :=
  run_string_add_sum w x y h

theorem cut_to (s : ByteArray) (k : Nat) (h : k ≤ s.size) : ∀ w, (Instr.slice 9 (.string s) none (some (.int .i64 k)) none).run Try.prog w = .ok (.string (s.extract 0 k)) w := fun w => by
  rw [run_slice_string_to_if w 9 s .i64 k Try.underlying9, if_pos (by omega)]; rfl
theorem cut_from (s : ByteArray) (k : Nat) (h : k + 1 ≤ s.size) : ∀ w, (Instr.slice 9 (.string s) (some (.int .i64 ((k : Int) + 1))) none none).run Try.prog w = .ok (.string (s.extract (k + 1) s.size)) w := fun w => by
  rw [run_slice_string_from_if w 9 s .i64 ((k : Int) + 1) Try.underlying9, if_pos (by omega)]; rfl
/-- The string with one byte put in another's place. -/
def putB (s : ByteArray) (k : Nat) (c : Nat) : ByteArray := s.extract 0 k ++ oneB c ++ s.extract (k + 1) s.size
theorem put_list (s : ByteArray) (k c : Nat) (h : k < s.size) : (putB s k c).data.toList = s.data.toList.set k (UInt8.ofNat c) := by
  unfold putB
  rw [append_list, append_list, extract_list, extract_list, List.set_eq_take_append_cons_drop, if_pos (by rw [size_list]; exact h)]
  have e : (oneB c).data.toList = [UInt8.ofNat c] := rfl
  have l1 : ((s.data.toList.drop (k + 1)).take (s.size - (k + 1))) = s.data.toList.drop (k + 1) := List.take_of_length_le (by rw [List.length_drop, size_list]; omega)
  rw [e, l1]
  simp
theorem put_size (s : ByteArray) (k c : Nat) (h : k < s.size) : (putB s k c).size = s.size := by
  rw [← size_list, put_list s k c h, List.length_set, size_list]
theorem failed_of (x : ByteArray) (h : pE x ≠ 0) : parsed x = failed (pE x) := by
  unfold parsed failed pA pP pI; rw [if_neg h, if_neg h, if_neg h]

/-- What the law does where the parts are right and the byte is no hyphen. -/
theorem core (a b i : ByteArray) (at' : Int) (n : Nat) (w : World) (ha : a.size ≤ maxLen) (hb : b.size ≤ maxLen) (hi : i.size ≤ maxLen) (A1 : a.size ≤ 4096) (A2 : b.size ≤ 4096) (A3 : i.size ≤ 4096) (h : okParts a b i = true) (k : Nat) (hk : k < 18)
    (t0 : 0 ≤ at') (t1 : at' ≤ 255) (hk2 : at' % 18 = (k : Int)) (hn : n < 256) (hd : byteAt (makeB a b i) k ≠ 45) :
    Calls Try.prog 8 #[.string a, .string b, .string i, .int .u8 at', .int .u8 n] w fun e w' => e = .returned (.bool true) ∧ Below w.heap.size w w' := by
  obtain ⟨S, hS⟩ : ∃ S, S = makeB a b i := ⟨_, rfl⟩
  have hz : S.size = 18 := by rw [hS]; exact whole_size a b i h
  have Hm : Hid (∀ W, Calls Try.prog 14 #[.string a, .string b, .string i] W fun e w' => e = .returned (.tuple #[.string S, .int .i64 0]) ∧ Below W.heap.size W w') := Lib.hid (fun W => by
    have := make_any a b i W ha hb hi
    rw [(make_yes a b i h).2, ← hS] at this; exact this)
  have kS : k < S.size := by omega
  have hne : (((S[k]'kS).toNat : Int) == 45) = false := by rw [byteAt_get S k kS, hS]; simp; omega
  have z18 : ((S.size : Int) != 18) = false := by rw [hz]; rfl
  have c1 := cut_to S k (by omega)
  have c2 := cut_from S k (by omega)
  have sx : (putB S k n).size ≤ maxLen := small_le _ (by rw [put_size S k n kS]; exact hz)
  have sS : S.size ≤ maxLen := small_le S hz
  have Hs : Hid (∀ W, Calls Try.prog 19 #[.string (putB S k n), .string S] W fun e w' => e = .returned (.bool (sameB (putB S k n) S)) ∧ Below W.heap.size W w') := Lib.hid (fun W => same_any _ _ W sx sS)
  have hrun : ∀ W : World, (convert 33 9 (.slice (some ⟨W.heap.size, 0, none⟩) 1 1)).run Try.prog (W.alloc (.cells #[.int .u8 n] 5)).drew = .ok (.string (oneB n)) (W.alloc (.cells #[.int .u8 n] 5)).drew := fun W => run_byte_string n W.drew
  have hwrap : IntKind.i64.wrap ((k : Int) + 1) = (k : Int) + 1 := by rw [IntKind.wrap_i64]; omega
  have hsum1 : ∀ W, (Op.stringOp .add (S.extract 0 k) (oneB n)).run Try.prog W = .ok (.string (S.extract 0 k ++ oneB n)) W := fun W => add_run _ _ W (by rw [ByteArray.size_extract]; have : (oneB n).size = 1 := rfl; omega)
  have hsum2 : ∀ W, (Op.stringOp .add (S.extract 0 k ++ oneB n) (S.extract (k + 1) S.size)).run Try.prog W = .ok (.string (putB S k n)) W := fun W => add_run _ _ W (by rw [ByteArray.size_append, ByteArray.size_extract, ByteArray.size_extract]; have : (oneB n).size = 1 := rfl; omega)
  cases hs : sameB (putB S k n) S with
  | true =>
    have h0 := detect_same a b i (putB S k n) h (by rw [← hS]; exact hs)
    have Hp : Hid (∀ W, Calls Try.prog 16 #[.string (putB S k n)] W fun e w' => e = .returned (.tuple #[.string (pA (putB S k n)), .string (pP (putB S k n)), .string (pI (putB S k n)), .int .i64 0]) ∧ Below W.heap.size W w') := Lib.hid (fun W => by
      have := parse_any _ W sx
      unfold parsed at this
      rw [h0] at this; exact this)
    rw [hs] at Hs
    clear hS hz sx sS hs h0 h hd ha hb hi
    go_enter Try.func8, Try.ntmps8
    go_wp2_with fail
    refine (Hm.out _).mono ?_
    rintro e w1 ⟨rfl, g1⟩
    go_wp2_with fail
    go_region
    have g12 := (g1.alloc g1.size (.cells #[.int .u8 (n : Int)] 5)).drew
    clear hsum1 hsum2 c1 c2 hwrap hrun g1
    go_wp2_with fail
    refine (Hs.out _).mono ?_
    rintro e w3 ⟨rfl, g3⟩
    go_wp2_with fail
    refine (Hp.out _).mono ?_
    rintro e w4 ⟨rfl, g4⟩
    go_wp2_with fail
    go_ret
    exact ⟨rfl, b2 (b2 g12 g3) g4⟩
  | false =>
    have h0 := detect_other a b i (putB S k n) h k hk (UInt8.ofNat n) (by rw [put_list S k n kS, hS]) hd (by rw [← hS]; exact hs)
    have t5 := neqI_t _ _ h0
    have Hp : Hid (∀ W, Calls Try.prog 16 #[.string (putB S k n)] W fun e w' => e = .returned (.tuple #[.string ⟨#[]⟩, .string ⟨#[]⟩, .string ⟨#[]⟩, .int .i64 (pE (putB S k n))]) ∧ Below W.heap.size W w') := Lib.hid (fun W => by
      have := parse_any _ W sx
      rw [failed_of _ h0] at this; exact this)
    rw [hs] at Hs
    clear hS hz sx sS hs h0 h hd ha hb hi
    go_enter Try.func8, Try.ntmps8
    go_wp2_with fail
    refine (Hm.out _).mono ?_
    rintro e w1 ⟨rfl, g1⟩
    go_wp2_with fail
    go_region
    have g12 := (g1.alloc g1.size (.cells #[.int .u8 (n : Int)] 5)).drew
    clear hsum1 hsum2 c1 c2 hwrap hrun g1
    go_wp2_with fail
    refine (Hs.out _).mono ?_
    rintro e w3 ⟨rfl, g3⟩
    go_wp2_with fail
    refine (Hp.out _).mono ?_
    rintro e w4 ⟨rfl, g4⟩
    go_wp2_with fail
    go_ret
    exact ⟨rfl, b2 (b2 g12 g3) g4⟩

theorem noparts (a b i : ByteArray) (at' : Int) (n : Nat) (w : World) (ha : a.size ≤ maxLen) (hb : b.size ≤ maxLen) (hi : i.size ≤ maxLen) (A1 : a.size ≤ 4096) (A2 : b.size ≤ 4096) (A3 : i.size ≤ 4096) (h : okParts a b i = false) (k : Nat) (hk : k < 18)
    (t0 : 0 ≤ at') (t1 : at' ≤ 255) (hk2 : at' % 18 = (k : Int)) :
    Calls Try.prog 8 #[.string a, .string b, .string i, .int .u8 at', .int .u8 n] w fun e w' => e = .returned (.bool true) ∧ Below w.heap.size w w' := by
  have Hm : Hid (∀ W, Calls Try.prog 14 #[.string a, .string b, .string i] W fun e w' => e = .returned (.tuple #[.string ⟨#[]⟩, .int .i64 4]) ∧ Below W.heap.size W w') := Lib.hid (fun W => by
    have := make_any a b i W ha hb hi
    rw [(make_no a b i h).1, (make_no a b i h).2] at this; exact this)
  clear ha hb hi h
  go_enter Try.func8, Try.ntmps8
  go_wp2_with fail
  refine (Hm.out _).mono ?_
  rintro e w1 ⟨rfl, g1⟩
  go_wp2_with fail
  refine (example_any _).mono ?_
  rintro e wx ⟨rfl, gx⟩
  go_wp2_with fail
  go_ret
  exact ⟨rfl, b2 g1 gx⟩

theorem ondash (a b i : ByteArray) (at' : Int) (n : Nat) (w : World) (ha : a.size ≤ maxLen) (hb : b.size ≤ maxLen) (hi : i.size ≤ maxLen) (A1 : a.size ≤ 4096) (A2 : b.size ≤ 4096) (A3 : i.size ≤ 4096) (h : okParts a b i = true) (k : Nat) (hk : k < 18)
    (t0 : 0 ≤ at') (t1 : at' ≤ 255) (hk2 : at' % 18 = (k : Int)) (hd : byteAt (makeB a b i) k = 45) :
    Calls Try.prog 8 #[.string a, .string b, .string i, .int .u8 at', .int .u8 n] w fun e w' => e = .returned (.bool true) ∧ Below w.heap.size w w' := by
  obtain ⟨S, hS⟩ : ∃ S, S = makeB a b i := ⟨_, rfl⟩
  have hz : S.size = 18 := by rw [hS]; exact whole_size a b i h
  have Hm : Hid (∀ W, Calls Try.prog 14 #[.string a, .string b, .string i] W fun e w' => e = .returned (.tuple #[.string S, .int .i64 0]) ∧ Below W.heap.size W w') := Lib.hid (fun W => by
    have := make_any a b i W ha hb hi
    rw [(make_yes a b i h).2, ← hS] at this; exact this)
  have kS : k < S.size := by omega
  have hne : (((S[k]'kS).toNat : Int) == 45) = true := by rw [byteAt_get S k kS, hS, hd]; rfl
  have z18 : ((S.size : Int) != 18) = false := by rw [hz]; rfl
  clear hS hz h hd ha hb hi
  go_enter Try.func8, Try.ntmps8
  go_wp2_with fail
  refine (Hm.out _).mono ?_
  rintro e w1 ⟨rfl, g1⟩
  go_wp2_with fail
  refine (example_any _).mono ?_
  rintro e wx ⟨rfl, gx⟩
  go_wp2_with fail
  go_ret
  exact ⟨rfl, b2 g1 gx⟩

theorem own : ownKnob Try.prog.godebug = none := by kernel_rfl

theorem walk (a0 : ByteArray) (a1 : ByteArray) (a2 : ByteArray) (a3 : Int) (a4 : Int) (w : World) (w0 : a0.size ≤ maxLen) (w1 : a1.size ≤ maxLen) (w2 : a2.size ≤ maxLen) (w3 : (Lit.int .u8 a3).wf = true) (w4 : (Lit.int .u8 a4).wf = true) :
    Calls Try.prog 8 #[.string a0, .string a1, .string a2, .int .u8 a3, .int .u8 a4] w fun e w' => e = .returned (.bool true) ∧ Below w.heap.size w w' := by
  have hS := w0; have hS1 := w1; have hS2 := w2
  unfold maxLen at hS hS1 hS2
  have h3 := bounds_u8 w3
  have h4 := bounds_u8 w4
  obtain ⟨t0, t1⟩ := h3
  obtain ⟨u0, u1⟩ := h4
  obtain ⟨n, rfl⟩ : ∃ n : Nat, a4 = (n : Int) := ⟨a4.toNat, by omega⟩
  obtain ⟨k, hk⟩ : ∃ k : Nat, a3 % 18 = (k : Int) := ⟨(a3 % 18).toNat, by omega⟩
  have hk18 : k < 18 := by omega
  clear w3 w4
  by_cases h : a0.size ≤ 4096
  · by_cases h1 : a1.size ≤ 4096
    · by_cases h2 : a2.size ≤ 4096
      · cases ho : okParts a0 a1 a2 with
        | false => exact noparts a0 a1 a2 a3 n w w0 w1 w2 h h1 h2 ho k hk18 t0 t1 hk
        | true =>
          by_cases hd : byteAt (makeB a0 a1 a2) k = 45
          · exact ondash a0 a1 a2 a3 n w w0 w1 w2 h h1 h2 ho k hk18 t0 t1 hk hd
          · exact core a0 a1 a2 a3 n w w0 w1 w2 h h1 h2 ho k hk18 t0 t1 hk (by omega) hd
      · have hb : 4096 < a2.size := by omega
        clear h2
        go_enter Try.func8, Try.ntmps8
        go_wp2_with fail
        refine (example_any _).mono ?_
        rintro e wx ⟨rfl, gx⟩
        go_wp2_with fail
        go_ret
        exact ⟨rfl, gx⟩
    · have hb : 4096 < a1.size := by omega
      clear h1
      go_enter Try.func8, Try.ntmps8
      go_wp2_with fail
      refine (example_any _).mono ?_
      rintro e wx ⟨rfl, gx⟩
      go_wp2_with fail
      go_ret
      exact ⟨rfl, gx⟩
  · have hb : 4096 < a0.size := by omega
    clear h
    go_enter Try.func8, Try.ntmps8
    go_wp2_with fail
    refine (example_any _).mono ?_
    rintro e wx ⟨rfl, gx⟩
    go_wp2_with fail
    go_ret
    exact ⟨rfl, gx⟩


set_option maxRecDepth 100000 in
theorem lifted (os : Os) (started : os.Started) (H : Type) (enc : TypeId × Value → H) :
    ReturnsInHanded {} Try.checked os 8 .any (Rows.identDetectsSpec.pre6 enc Try.prog Try.f8 Rows.identDetectsRow.domain false) (Rows.identDetectsSpec.post enc Try.prog Try.f8 false true false false) := by
  refine returnsInHanded_of_change (C := Try.checked) own started (by kernel_rfl) Try.func8
    (ChangeSpec.witness6 (enc := enc) (C := Try.checked) false ⟨#[], #[.string ByteArray.empty, .string ByteArray.empty, .string ByteArray.empty, .int .u8 0, .int .u8 0], []⟩ 8 (by kernel_rfl) (by kernel_rfl) (by kernel_rfl) (by kernel_rfl)) ?_
  intro W base args ds gs before hval0 hW hcnd _
  have hval : ∀ (j : Nat) t v, Try.f8.params[j]? = some t → args[j]? = some v → Value.okWide Try.prog W .any base t v := hval0
  have hW' := hW
  obtain ⟨p, q, hA0, hV, rfl, hfz, hnd⟩ := hW
  have hA : DataW.TrodAll enc Try.prog W 0 (fun _ => true) true Try.f8.params.toList args.toList ds p := hA0
  rw [Try.params8] at hA hval
  obtain ⟨v0, vs0, d0, ds0, p0, q0, hargs, rfl, rfl, h0, r0⟩ := trodAll_cons hA
  obtain ⟨v1, vs1, d1, ds1, p1, q1, rfl, rfl, rfl, h1, r1⟩ := trodAll_cons r0
  obtain ⟨v2, vs2, d2, ds2, p2, q2, rfl, rfl, rfl, h2, r2⟩ := trodAll_cons r1
  obtain ⟨v3, vs3, d3, ds3, p3, q3, rfl, rfl, rfl, h3, r3⟩ := trodAll_cons r2
  obtain ⟨v4, vs4, d4, ds4, p4, q4, rfl, rfl, rfl, h4, r4⟩ := trodAll_cons r3
  obtain ⟨rfl, rfl, rfl⟩ := trodAll_nil r4
  obtain rfl : args = #[v0, v1, v2, v3, v4] := by cases args; simp_all
  obtain ⟨rfl, rfl⟩ := trodVars_none hV
  obtain ⟨a0, rfl, rfl, rfl, w0⟩ := open_string Try.underlying9 (hval 0 9 v0 rfl rfl) h0
  obtain ⟨a1, rfl, rfl, rfl, w1⟩ := open_string Try.underlying9 (hval 1 9 v1 rfl rfl) h1
  obtain ⟨a2, rfl, rfl, rfl, w2⟩ := open_string Try.underlying9 (hval 2 9 v2 rfl rfl) h2
  obtain ⟨a3, rfl, rfl, rfl, w3⟩ := open_int Try.underlying5 (hval 3 5 v3 rfl rfl) h3
  obtain ⟨a4, rfl, rfl, rfl, w4⟩ := open_int Try.underlying5 (hval 4 5 v4 rfl rfl) h4
  clear hA0 hval0
  simp only [List.append_nil] at hW'
  refine (walk a0 a1 a2 a3 a4 W w0 w1 w2 w3 w4).mono fun e W' ⟨he, bel⟩ => ?_
  subst he
  exact ⟨_, rfl, _, _, _, [], [], [], hW', trodAll_mk1 (shut_bool Try.underlying4 _), (trodAll_cons_mk (shut_string Try.underlying9 w0) (trodAll_cons_mk (shut_string Try.underlying9 w1) (trodAll_cons_mk (shut_string Try.underlying9 w2) (trodAll_cons_mk (shut_int Try.underlying5 w3) (trodAll_cons_mk (shut_int Try.underlying5 w4) trodAll_mk0))))), rfl, bel.frame _, fun h => by cases h⟩

theorem over : Rows.identDetectsRow.holds Try.pinned (OpenSpec.ofChange Rows.identDetectsSpec) :=
  OpenClaim.holds_of_wide 8 Try.f8 rfl rfl rfl rfl rfl rfl rfl ⟨rfl, rfl, rfl, rfl, rfl⟩ rfl rfl rfl rfl rfl (by kernel_rfl) Try.func8 (by kernel_rfl)
    (of_decide_eq_true (by kernel_rfl)) (by unfold Func.isWrapper; first | (rw [if_pos (by decide +kernel)]; kernel_rfl) | (rw [if_neg (by decide +kernel)]; exact ⟨rfl, rfl⟩))
    (fun os started H enc _ => lifted os started H enc)
end identDetects

theorem identDetects_holds : Rows.IdentDetectsSaid := identDetects.over
#print axioms identDetects_holds
end Go.Proofs.Ytkimniggdnlliaa
