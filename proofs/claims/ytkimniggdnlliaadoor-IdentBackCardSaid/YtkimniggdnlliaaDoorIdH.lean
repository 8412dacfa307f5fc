/-
  What formed and Parse return, in the package ident and in its reference.
-/
import Derived.Test.YtkimniggdnlliaaDoorIdG
import Derived.Deep.RegionHeld3
namespace Go.Proofs.YtkimniggdnlliaaDoor
open Go.RowKit
open Plain

/-- Has the string 18 bytes, the hyphens, and a letter or digit at its end. -/
def shapeB (s : ByteArray) : Bool := decide (s.size = 18) && (byteAt s 2 == 45 && (byteAt s 6 == 45 && byteAt s 16 == 45))
def formB (s : ByteArray) : Bool := shapeB s && okPart 1 0 (s.extract 17 18)

theorem byteAt_get (s : ByteArray) (j : Nat) (h : j < s.size) : (s[j]'h).toNat = byteAt s j := by
  unfold byteAt; simp [List.getD, h]; rfl

theorem shape_yes (s : ByteArray) (h : shapeB s = true) : s.size = 18 ∧ byteAt s 2 = 45 ∧ byteAt s 6 = 45 ∧ byteAt s 16 = 45 := by
  unfold shapeB at h; simpa using h

set_option maxHeartbeats 1000000 in
theorem formed_any (s : ByteArray) (w : World) (hs : s.size ≤ maxLen) :
    Calls Tryd.prog 40 #[.string s] w fun e w' => e = .returned (.bool (formB s)) ∧ Below w.heap.size w w' := by
  have hS := hs
  unfold maxLen at hS
  by_cases h0 : s.size = 18
  · have k2 : 2 < s.size := by omega
    have k6 : 6 < s.size := by omega
    have k16 : 16 < s.size := by omega
    have t0 : ((s.size : Int) == 18) = true := by simp; omega
    have e2 := byteAt_get s 2 k2
    have e6 := byteAt_get s 6 k6
    have e16 := byteAt_get s 16 k16
    by_cases h2 : byteAt s 2 = 45
    · have t2 : (((s[2]'k2).toNat : Int) == 45) = true := by rw [e2]; simp [h2]
      by_cases h6 : byteAt s 6 = 45
      · have t6 : (((s[6]'k6).toNat : Int) == 45) = true := by rw [e6]; simp [h6]
        by_cases h16 : byteAt s 16 = 45
        · have t16 : (((s[16]'k16).toNat : Int) == 45) = true := by rw [e16]; simp [h16]
          have hz : (s.extract 17 18).size = 1 := by rw [ByteArray.size_extract]; omega
          have hf : formB s = allOk (atLeast 0) (s.extract 17 18).data.toList := by
            unfold formB shapeB okPart; rw [hz]; simp [h0, h2, h6, h16]
          have Hf := Lib.hid hf
          have Hc : Hid (∀ W, Calls Tryd.prog 30 #[.string (s.extract 17 s.size), .func (.func 32) #[] #[]] W fun e w' => e = .returned (.bool (formB s)) ∧ Below W.heap.size W w') := Lib.hid (fun W => by
            rw [h0, Hf.out]
            exact consists_letterOrDigit _ W (by rw [hz]; unfold maxLen; omega))
          clear e2 e6 e16 h0 h2 h6 h16 hz hf
          go_enter Tryd.func40, Tryd.ntmps40
          go_wp2_with fail
          refine (Hc.out _).mono ?_
          rintro e w1 ⟨rfl, g1⟩
          go_wp2_with fail
          go_ret
          exact ⟨rfl, g1⟩
        · have t16 : (((s[16]'k16).toNat : Int) == 45) = false := by rw [e16]; simp; omega
          have Hf : Hid (formB s = false) := Lib.hid (by unfold formB shapeB; simp [h16])
          clear e2 e6 e16 h0 h2 h6 h16
          go_enter Tryd.func40, Tryd.ntmps40
          go_wp2_with fail
          go_ret
          exact ⟨ret_bool Hf.out.symm, Below.refl _ _⟩
      · have t6 : (((s[6]'k6).toNat : Int) == 45) = false := by rw [e6]; simp; omega
        have Hf : Hid (formB s = false) := Lib.hid (by unfold formB shapeB; simp [h6])
        clear e2 e6 e16 h0 h2 h6
        go_enter Tryd.func40, Tryd.ntmps40
        go_wp2_with fail
        go_ret
        exact ⟨ret_bool Hf.out.symm, Below.refl _ _⟩
    · have t2 : (((s[2]'k2).toNat : Int) == 45) = false := by rw [e2]; simp; omega
      have Hf : Hid (formB s = false) := Lib.hid (by unfold formB shapeB; simp [h2])
      clear e2 e6 e16 h0 h2
      go_enter Tryd.func40, Tryd.ntmps40
      go_wp2_with fail
      go_ret
      exact ⟨ret_bool Hf.out.symm, Below.refl _ _⟩
  · have t0 : ((s.size : Int) == 18) = false := by simp; omega
    have Hf : Hid (formB s = false) := Lib.hid (by unfold formB shapeB; simp [h0])
    clear h0
    go_enter Tryd.func40, Tryd.ntmps40
    go_wp2_with fail
    go_ret
    exact ⟨ret_bool Hf.out.symm, Below.refl _ _⟩

def cA (s : ByteArray) : ByteArray := s.extract 0 2
def cP (s : ByteArray) : ByteArray := s.extract 3 6
def cI (s : ByteArray) : ByteArray := s.extract 7 16
def cW (s : ByteArray) : ByteArray := makeB (cA s) (cP s) (cI s)
def okS (s : ByteArray) : Bool := formB s && okParts (cA s) (cP s) (cI s)
def pE (s : ByteArray) : Int := if okS s then (if sameB (cW s) s then 0 else 7) else 5
def pA (s : ByteArray) : ByteArray := if pE s = 0 then cA (cW s) else ⟨#[]⟩
def pP (s : ByteArray) : ByteArray := if pE s = 0 then cP (cW s) else ⟨#[]⟩
def pI (s : ByteArray) : ByteArray := if pE s = 0 then cI (cW s) else ⟨#[]⟩
def parsed (s : ByteArray) : Ending := .returned (.tuple #[.string (pA s), .string (pP s), .string (pI s), .int .i64 (pE s)])
def failed (k : Int) : Ending := .returned (.tuple #[.string ⟨#[]⟩, .string ⟨#[]⟩, .string ⟨#[]⟩, .int .i64 k])

theorem parsed_form (s : ByteArray) (h : okS s = false) : parsed s = failed 5 := by
  have e : pE s = 5 := by unfold pE; rw [h]; rfl
  unfold parsed pA pP pI; rw [e]; rfl
theorem parsed_sum (s : ByteArray) (h : okS s = true) (h2 : sameB (cW s) s = false) : parsed s = failed 7 := by
  have e : pE s = 7 := by unfold pE; rw [h, h2]; rfl
  unfold parsed pA pP pI; rw [e]; rfl
theorem parsed_ok (s : ByteArray) (h : okS s = true) (h2 : sameB (cW s) s = true) : parsed s = .returned (.tuple #[.string (cA (cW s)), .string (cP (cW s)), .string (cI (cW s)), .int .i64 0]) := by
  have e : pE s = 0 := by unfold pE; rw [h, h2]; rfl
  unfold parsed pA pP pI; rw [e]; rfl

theorem whole_size (a b i : ByteArray) (h : okParts a b i = true) : (makeB a b i).size = 18 := by
  rw [(make_yes a b i h).1]
  have hz := body_size a b i h
  have hd : dash.size = 1 := rfl
  have ho : ∀ c, (oneB c).size = 1 := fun _ => rfl
  unfold wholeB; simp only [ByteArray.size_append, hz, hd, ho]
theorem form_size (s : ByteArray) (h : formB s = true) : s.size = 18 := by
  unfold formB at h; rw [Bool.and_eq_true] at h
  exact (shape_yes s h.1).1

theorem cut_a (s : ByteArray) (h : 18 ≤ s.size) : ∀ w, (Instr.slice 9 (.string s) none (some (.int .i64 2)) none).run Tryd.prog w = .ok (.string (cA s)) w := fun w => by
  rw [run_slice_string_to_if w 9 s .i64 2 Tryd.underlying9, if_pos (by omega)]; rfl
theorem cut_p (s : ByteArray) (h : 18 ≤ s.size) : ∀ w, (Instr.slice 9 (.string s) (some (.int .i64 3)) (some (.int .i64 6)) none).run Tryd.prog w = .ok (.string (cP s)) w := fun w =>
  run_slice_string w 9 s .i64 .i64 3 6 Tryd.underlying9 (by decide) (by decide) (by omega)
theorem cut_i (s : ByteArray) (h : 18 ≤ s.size) : ∀ w, (Instr.slice 9 (.string s) (some (.int .i64 7)) (some (.int .i64 16)) none).run Tryd.prog w = .ok (.string (cI s)) w := fun w =>
  run_slice_string w 9 s .i64 .i64 7 16 Tryd.underlying9 (by decide) (by decide) (by omega)

theorem results_four {fn : Func} {t u v x : Tmp} (h : fn.results = #[.tmp t, .tmp u, .tmp v, .tmp x]) (tmps : Array Value) (P : Program) (w : World) :
    (results fn tmps).run P w = .ok (.tuple #[tmps.getD t undef, tmps.getD u undef, tmps.getD v undef, tmps.getD x undef]) w := by simp [results, h]

set_option maxRecDepth 100000 in
set_option maxHeartbeats 1000000 in
theorem parse_noform (s : ByteArray) (w : World) (hs : s.size ≤ maxLen) (h : formB s = false) :
    Calls Tryd.prog 12 #[.string s] w fun e w' => e = parsed s ∧ Below w.heap.size w w' := by
  have Hp : Hid (parsed s = failed 5) := Lib.hid (parsed_form s (by unfold okS; rw [h]; rfl))
  go_enter Tryd.func12, Tryd.ntmps12
  go_wp2_with fail
  refine (formed_any s _ hs).mono ?_
  rintro e w1 ⟨rfl, g1⟩
  go_wp2_with fail
  refine bodyPost_ret (results_four rfl _ _ _) rfl ?_
  exact ⟨Hp.out.symm, g1⟩

theorem cut_le (s : ByteArray) (h : s.size ≤ maxLen) : (cA s).size ≤ maxLen ∧ (cP s).size ≤ maxLen ∧ (cI s).size ≤ maxLen := by
  unfold cA cP cI maxLen at *; simp only [ByteArray.size_extract]; omega
theorem small_le (s : ByteArray) (h : s.size = 18) : s.size ≤ maxLen := by unfold maxLen; omega

set_option maxRecDepth 100000 in
set_option maxHeartbeats 1000000 in
theorem parse_noparts (s : ByteArray) (w : World) (h : formB s = true) (h2 : okParts (cA s) (cP s) (cI s) = false) :
    Calls Tryd.prog 12 #[.string s] w fun e w' => e = parsed s ∧ Below w.heap.size w w' := by
  have Hp : Hid (parsed s = failed 5) := Lib.hid (parsed_form s (by unfold okS; rw [h, h2]; rfl))
  have hz := form_size s h
  have hs := small_le s hz
  obtain ⟨sa, sp, si⟩ := cut_le s hs
  have q1 := cut_a s (by omega)
  have q2 := cut_p s (by omega)
  have q3 := cut_i s (by omega)
  have Hm : Hid (∀ W, Calls Tryd.prog 10 #[.string (cA s), .string (cP s), .string (cI s)] W fun e w' => e = .returned (.tuple #[.string ⟨#[]⟩, .int .i64 4]) ∧ Below W.heap.size W w') := Lib.hid (fun W => by
    have := make_any (cA s) (cP s) (cI s) W sa sp si
    rw [(make_no _ _ _ h2).1, (make_no _ _ _ h2).2] at this
    exact this)
  clear hz h2 sa sp si
  go_enter Tryd.func12, Tryd.ntmps12
  go_wp2_with fail
  refine (formed_any s _ hs).mono ?_
  rintro e w1 ⟨rfl, g1⟩
  go_wp2_with fail
  go_region_held3 (fun W => Below w.heap.size w W) (first | assumption | exact Below.drew (by assumption) | exact b2 (by assumption) (by assumption))
    (first | (go_at_call 10; refine (Hm.out _).mono ?_; rintro e w3 ⟨rfl, g3⟩))
  have g13 : Below w.heap.size w w3 := by assumption
  clear q1 q2 q3 g3
  go_wp2_with fail
  refine bodyPost_ret (results_four rfl _ _ _) rfl ?_
  exact ⟨Hp.out.symm, g13⟩

set_option maxRecDepth 100000 in
set_option maxHeartbeats 1000000 in
theorem parse_nosum (s : ByteArray) (w : World) (h : formB s = true) (h2 : okParts (cA s) (cP s) (cI s) = true) (h3 : sameB (cW s) s = false) :
    Calls Tryd.prog 12 #[.string s] w fun e w' => e = parsed s ∧ Below w.heap.size w w' := by
  have Hp : Hid (parsed s = failed 7) := Lib.hid (parsed_sum s (by unfold okS; rw [h, h2]; rfl) h3)
  have hz := form_size s h
  have hs := small_le s hz
  have hw := small_le (cW s) (whole_size _ _ _ h2)
  obtain ⟨sa, sp, si⟩ := cut_le s hs
  have q1 := cut_a s (by omega)
  have q2 := cut_p s (by omega)
  have q3 := cut_i s (by omega)
  have Hm : Hid (∀ W, Calls Tryd.prog 10 #[.string (cA s), .string (cP s), .string (cI s)] W fun e w' => e = .returned (.tuple #[.string (cW s), .int .i64 0]) ∧ Below W.heap.size W w') := Lib.hid (fun W => by
    have := make_any (cA s) (cP s) (cI s) W sa sp si
    rw [(make_yes _ _ _ h2).2] at this
    exact this)
  clear hz h2 sa sp si
  go_enter Tryd.func12, Tryd.ntmps12
  go_wp2_with fail
  refine (formed_any s _ hs).mono ?_
  rintro e w1 ⟨rfl, g1⟩
  go_wp2_with fail
  go_region_held3 (fun W => Below w.heap.size w W) (first | assumption | exact Below.drew (by assumption) | exact b2 (by assumption) (by assumption))
    (first | (go_at_call 10; refine (Hm.out _).mono ?_; rintro e w3 ⟨rfl, g3⟩))
  have g13 : Below w.heap.size w w3 := by assumption
  clear q1 q2 q3 g3
  go_wp2_with fail
  refine (same_any (cW s) s _ hw hs).mono ?_
  rintro e w4 ⟨rfl, g4⟩
  go_wp2_with fail
  refine bodyPost_ret (results_four rfl _ _ _) rfl ?_
  exact ⟨Hp.out.symm, b2 (g13) g4⟩

set_option maxRecDepth 100000 in
set_option maxHeartbeats 1000000 in
theorem parse_yes (s : ByteArray) (w : World) (h : formB s = true) (h2 : okParts (cA s) (cP s) (cI s) = true) (h3 : sameB (cW s) s = true) :
    Calls Tryd.prog 12 #[.string s] w fun e w' => e = parsed s ∧ Below w.heap.size w w' := by
  have Hp := Lib.hid (parsed_ok s (by unfold okS; rw [h, h2]; rfl) h3)
  have hz := form_size s h
  have hs := small_le s hz
  have hw18 := whole_size _ _ _ h2
  have hw := small_le (cW s) hw18
  have r1 := cut_a (cW s) (by show 18 ≤ (makeB _ _ _).size; omega)
  have r2 := cut_p (cW s) (by show 18 ≤ (makeB _ _ _).size; omega)
  have r3 := cut_i (cW s) (by show 18 ≤ (makeB _ _ _).size; omega)
  obtain ⟨sa, sp, si⟩ := cut_le s hs
  have q1 := cut_a s (by omega)
  have q2 := cut_p s (by omega)
  have q3 := cut_i s (by omega)
  have Hm : Hid (∀ W, Calls Tryd.prog 10 #[.string (cA s), .string (cP s), .string (cI s)] W fun e w' => e = .returned (.tuple #[.string (cW s), .int .i64 0]) ∧ Below W.heap.size W w') := Lib.hid (fun W => by
    have := make_any (cA s) (cP s) (cI s) W sa sp si
    rw [(make_yes _ _ _ h2).2] at this
    exact this)
  clear hz h2 hw18 sa sp si
  go_enter Tryd.func12, Tryd.ntmps12
  go_wp2_with fail
  refine (formed_any s _ hs).mono ?_
  rintro e w1 ⟨rfl, g1⟩
  go_wp2_with fail
  go_region_held3 (fun W => Below w.heap.size w W) (first | assumption | exact Below.drew (by assumption) | exact b2 (by assumption) (by assumption))
    (first | (go_at_call 10; refine (Hm.out _).mono ?_; rintro e w3 ⟨rfl, g3⟩))
  have g13 : Below w.heap.size w w3 := by assumption
  clear q1 q2 q3 g3
  go_wp2_with fail
  refine (same_any (cW s) s _ hw hs).mono ?_
  rintro e w4 ⟨rfl, g4⟩
  go_wp2_with fail
  go_quiet (fail)
  go_wp2_with fail
  refine bodyPost_ret (results_four rfl _ _ _) rfl ?_
  exact ⟨Hp.out.symm, b2 (b2 (g13) g4) (below_draws _ _)⟩

theorem parse_any (s : ByteArray) (w : World) (hs : s.size ≤ maxLen) :
    Calls Tryd.prog 12 #[.string s] w fun e w' => e = parsed s ∧ Below w.heap.size w w' := by
  cases h : formB s with
  | false => exact parse_noform s w hs h
  | true =>
    cases h2 : okParts (cA s) (cP s) (cI s) with
    | false => exact parse_noparts s w h h2
    | true =>
      cases h3 : sameB (cW s) s with
      | false => exact parse_nosum s w h h2 h3
      | true => exact parse_yes s w h h2 h3
end Go.Proofs.YtkimniggdnlliaaDoor
