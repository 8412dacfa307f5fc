/-
  What Parse returns in the reference of the package ident: the same as Parse of the package.
-/
import Derived.Test.YtkimniggdnlliaaWalksH
namespace Go.Proofs.Ytkimniggdnlliaa
open Go.RowKit
open Plain

theorem bytes_ext {a b : ByteArray} (h : a.data.toList = b.data.toList) : a = b := by
  cases a; cases b; simp at h; simp [h]
theorem caps_extract (s : ByteArray) (i j : Nat) : (capsB s).extract i j = capsB (s.extract i j) := by
  apply bytes_ext
  unfold capsB capsL
  simp [ByteArray.data_extract, List.map_take, List.map_drop]
theorem allOk_caps_eq (low : Int) (x : List UInt8) : allOk (atLeast low) (capsL x) = allOk (atLeast low) x := by
  unfold allOk capsL
  rw [List.all_map]
  congr 1
  funext c
  simp only [Function.comp_def, cap_toNat, atLeast, val_capN]
theorem okPart_caps (n low : Int) (s : ByteArray) : okPart n low (capsB s) = okPart n low s := by
  unfold okPart; rw [capsB_size, capsB_list, allOk_caps_eq]
theorem cap_cap (c : UInt8) : cap (cap c) = cap c := by
  unfold cap; rw [UInt8.toNat_ofNat', Nat.mod_eq_of_lt (capN_lt _ c.toNat_lt), capN_capN]
theorem capsL_capsL (l : List UInt8) : capsL (capsL l) = capsL l := by
  unfold capsL; rw [List.map_map]; congr 1; funext c; exact cap_cap c
theorem capsL_append (a b : List UInt8) : capsL (a ++ b) = capsL a ++ capsL b := by unfold capsL; rw [List.map_append]
theorem body_caps (a b i : ByteArray) : bodyB (capsB a) (capsB b) (capsB i) = bodyB a b i := by
  apply bytes_ext
  rw [body_list, body_list]
  simp only [capsB_list, capsL_append, capsL_capsL]
theorem make_caps (a b i : ByteArray) : makeB (capsB a) (capsB b) (capsB i) = makeB a b i ∧ makeE (capsB a) (capsB b) (capsB i) = makeE a b i := by
  have e : okParts (capsB a) (capsB b) (capsB i) = okParts a b i := by unfold okParts; rw [okPart_caps, okPart_caps, okPart_caps]
  unfold makeB makeE wholeB
  rw [e, body_caps]; exact ⟨rfl, rfl⟩
theorem cW_caps (s : ByteArray) : cW (capsB s) = cW s := by
  unfold cW cA cP cI; rw [caps_extract, caps_extract, caps_extract, (make_caps _ _ _).1]
theorem makeE_caps (s : ByteArray) : makeE (cA (capsB s)) (cP (capsB s)) (cI (capsB s)) = makeE (cA s) (cP s) (cI s) := by
  unfold cA cP cI; rw [caps_extract, caps_extract, caps_extract, (make_caps _ _ _).2]
theorem oneB_caps (p : Int) : capsL (oneB (letterN (checkN p))).data.toList = (oneB (letterN (checkN p))).data.toList := by
  have h := checkN_lt p
  unfold oneB capsL
  simp only [List.map_cons, List.map_nil]
  congr 1
  unfold cap
  rw [UInt8.toNat_ofNat', Nat.mod_eq_of_lt (by have := letterN_lt _ h; omega), capN_letterN _ h]
theorem whole_caps (a b i : ByteArray) (h : okParts a b i = true) : capsB (makeB a b i) = makeB a b i := by
  rw [(make_yes a b i h).1]
  apply bytes_ext
  rw [capsB_list]
  unfold wholeB
  have hg := body_good a b i h
  have hc : checkL (bodyB a b i).data.toList = letterN (checkN (sumL (bodyB a b i).data.toList).1) := by unfold checkL; rw [hg]; rfl
  rw [hc]
  simp only [append_list, capsL_append, oneB_caps]
  rw [body_list, capsL_capsL]
  rfl
theorem okS_parts (s : ByteArray) : okParts (cA (capsB s)) (cP (capsB s)) (cI (capsB s)) = okParts (cA s) (cP s) (cI s) := by
  unfold okParts cA cP cI; rw [caps_extract, caps_extract, caps_extract, okPart_caps, okPart_caps, okPart_caps]
theorem okS_tail (s : ByteArray) : okPart 1 0 ((capsB s).extract 17 18) = okPart 1 0 (s.extract 17 18) := by rw [caps_extract, okPart_caps]
theorem toList_of (s : ByteArray) : s.toList = s.data.toList := ByteArray.toList_eq s
theorem same_whole (s : ByteArray) (h : okParts (cA s) (cP s) (cI s) = true) : sameB (cW s) s = ((cW s).toList == (capsB s).toList) := by
  unfold sameB cW; rw [whole_caps _ _ _ h]

def cT (s : ByteArray) : ByteArray := s.extract 17 18
theorem cut_t (s : ByteArray) (h : s.size = 18) : ∀ w, (Instr.slice 9 (.string s) (some (.int .i64 17)) none none).run Try.prog w = .ok (.string (cT s)) w := fun w => by
  rw [run_slice_string_from_if w 9 s .i64 17 Try.underlying9, if_pos (by omega)]; unfold cT; rw [h]; rfl

set_option maxRecDepth 100000 in
set_option maxHeartbeats 400000 in
theorem refParse_noshape (s : ByteArray) (w : World) (hs : s.size ≤ maxLen) (h : shapeB s = false) :
    Calls Try.prog 17 #[.string s] w fun e w' => e = parsed s ∧ Below w.heap.size w w' := by
  have Hp : Hid (parsed s = failed 5) := Lib.hid (parsed_form s (by unfold okS formB; rw [h]; rfl))
  have hS := hs
  unfold maxLen at hS
  by_cases h0 : s.size = 18
  · have k2 : 2 < s.size := by omega
    have k6 : 6 < s.size := by omega
    have k16 : 16 < s.size := by omega
    have t0 : ((s.size : Int) != 18) = false := by rw [h0]; rfl
    have e2 := byteAt_get s 2 k2
    have e6 := byteAt_get s 6 k6
    have e16 := byteAt_get s 16 k16
    by_cases h2 : byteAt s 2 = 45
    · have t2 : (((s[2]'k2).toNat : Int) != 45) = false := neqI_f _ _ (by rw [e2, h2]; rfl)
      by_cases h6 : byteAt s 6 = 45
      · have t6 : (((s[6]'k6).toNat : Int) != 45) = false := neqI_f _ _ (by rw [e6, h6]; rfl)
        have t16 : (((s[16]'k16).toNat : Int) != 45) = true := neqI_t _ _ (by
          rw [e16]
          intro h16
          have h16' : byteAt s 16 = 45 := by omega
          unfold shapeB at h; simp [h0, h2, h6, h16'] at h)
        clear e2 e6 e16 h0 h2 h6 h
        go_enter Try.func17, Try.ntmps17
        go_wp2_with fail
        refine bodyPost_ret (results_four rfl _ _ _) rfl ?_
        exact ⟨Hp.out.symm, Below.refl _ _⟩
      · have t6 : (((s[6]'k6).toNat : Int) != 45) = true := neqI_t _ _ (by rw [e6]; omega)
        clear e2 e6 e16 h0 h2 h6 h
        go_enter Try.func17, Try.ntmps17
        go_wp2_with fail
        refine bodyPost_ret (results_four rfl _ _ _) rfl ?_
        exact ⟨Hp.out.symm, Below.refl _ _⟩
    · have t2 : (((s[2]'k2).toNat : Int) != 45) = true := neqI_t _ _ (by rw [e2]; omega)
      clear e2 e6 e16 h0 h2 h
      go_enter Try.func17, Try.ntmps17
      go_wp2_with fail
      refine bodyPost_ret (results_four rfl _ _ _) rfl ?_
      exact ⟨Hp.out.symm, Below.refl _ _⟩
  · have t0 : ((s.size : Int) != 18) = true := neqI_t _ _ (by omega)
    clear h0 h
    go_enter Try.func17, Try.ntmps17
    go_wp2_with fail
    refine bodyPost_ret (results_four rfl _ _ _) rfl ?_
    exact ⟨Hp.out.symm, Below.refl _ _⟩

/-- What consists of the reference returns of a string, in whatever memory. -/
def PartC (s : ByteArray) (n low : Int) : Prop := ∀ W, Calls Try.prog 28 #[.string s, .int .i64 n, .int .i64 low] W fun e w' => e = .returned (.bool (okPart n low s)) ∧ Below W.heap.size W w'
theorem part_calls (s : ByteArray) (hz : s.size = 18) : PartC (cA s) 2 10 ∧ PartC (cP s) 3 0 ∧ PartC (cI s) 9 0 ∧ PartC (cT s) 1 0 := by
  obtain ⟨sa, sp, si⟩ := cut_le s (small_le s hz)
  have st : (cT s).size ≤ maxLen := by unfold cT maxLen; simp only [ByteArray.size_extract]; omega
  exact ⟨fun W => refPart_any _ _ _ W sa (by decide), fun W => refPart_any _ _ _ W sp (by decide), fun W => refPart_any _ _ _ W si (by decide), fun W => refPart_any _ _ _ W st (by decide)⟩

/-- What the walk is told where the string has the length and the hyphens. -/
theorem shape_facts (s : ByteArray) (h : shapeB s = true) : ∃ (k2 : 2 < s.size) (k6 : 6 < s.size) (k16 : 16 < s.size), ((s.size : Int) != 18) = false ∧ (((s[2]'k2).toNat : Int) != 45) = false ∧ (((s[6]'k6).toNat : Int) != 45) = false ∧ (((s[16]'k16).toNat : Int) != 45) = false := by
  obtain ⟨h0, h2, h6, h16⟩ := shape_yes s h
  have k2 : 2 < s.size := by omega
  have k6 : 6 < s.size := by omega
  have k16 : 16 < s.size := by omega
  exact ⟨k2, k6, k16, by rw [h0]; rfl, neqI_f _ _ (by rw [byteAt_get s 2 k2, h2]; rfl), neqI_f _ _ (by rw [byteAt_get s 6 k6, h6]; rfl), neqI_f _ _ (by rw [byteAt_get s 16 k16, h16]; rfl)⟩

set_option maxRecDepth 100000 in
set_option maxHeartbeats 400000 in
theorem refParse_no1 (s : ByteArray) (w : World) (h : shapeB s = true) (o1 : okPart 2 10 (cA (capsB s)) = false) :
    Calls Try.prog 17 #[.string s] w fun e w' => e = parsed s ∧ Below w.heap.size w w' := by
  have Hp : Hid (parsed s = failed 5) := Lib.hid (parsed_form s (by
    unfold okS formB
    rw [← okS_tail, ← okS_parts]
    show (shapeB s && okPart 1 0 (cT (capsB s)) && okParts (cA (capsB s)) (cP (capsB s)) (cI (capsB s))) = false
    unfold okParts
    rw [o1]; simp))
  have hz := (shape_yes s h).1
  have hs := small_le s hz
  have hcz : (capsB s).size = 18 := by rw [capsB_size]; exact hz
  obtain ⟨P1, P2, P3, P4⟩ := part_calls (capsB s) hcz
  obtain ⟨k2, k6, k16, t0, t2, t6, t16⟩ := shape_facts s h
  have q1 := cut_a (capsB s) (by omega)
  have q2 := cut_p (capsB s) (by omega)
  have q3 := cut_i (capsB s) (by omega)
  have q4 := cut_t (capsB s) hcz
  clear h hz hcz
  go_enter Try.func17, Try.ntmps17
  go_wp2_with fail
  refine (refCapitals_any s _ hs).mono ?_
  rintro e w1 ⟨rfl, g1⟩
  go_wp2_with fail
  refine (P1 _).mono ?_
  rintro e w2 ⟨rfl, g2⟩
  go_wp2_with fail
  refine bodyPost_ret (results_four rfl _ _ _) rfl ?_
  exact ⟨Hp.out.symm, b2 (g1) g2⟩

set_option maxRecDepth 100000 in
set_option maxHeartbeats 400000 in
theorem refParse_no2 (s : ByteArray) (w : World) (h : shapeB s = true) (o1 : okPart 2 10 (cA (capsB s)) = true) (o2 : okPart 3 0 (cP (capsB s)) = false) :
    Calls Try.prog 17 #[.string s] w fun e w' => e = parsed s ∧ Below w.heap.size w w' := by
  have Hp : Hid (parsed s = failed 5) := Lib.hid (parsed_form s (by
    unfold okS formB
    rw [← okS_tail, ← okS_parts]
    show (shapeB s && okPart 1 0 (cT (capsB s)) && okParts (cA (capsB s)) (cP (capsB s)) (cI (capsB s))) = false
    unfold okParts
    rw [o2]; simp))
  have hz := (shape_yes s h).1
  have hs := small_le s hz
  have hcz : (capsB s).size = 18 := by rw [capsB_size]; exact hz
  obtain ⟨P1, P2, P3, P4⟩ := part_calls (capsB s) hcz
  obtain ⟨k2, k6, k16, t0, t2, t6, t16⟩ := shape_facts s h
  have q1 := cut_a (capsB s) (by omega)
  have q2 := cut_p (capsB s) (by omega)
  have q3 := cut_i (capsB s) (by omega)
  have q4 := cut_t (capsB s) hcz
  clear h hz hcz
  go_enter Try.func17, Try.ntmps17
  go_wp2_with fail
  refine (refCapitals_any s _ hs).mono ?_
  rintro e w1 ⟨rfl, g1⟩
  go_wp2_with fail
  refine (P1 _).mono ?_
  rintro e w2 ⟨rfl, g2⟩
  go_wp2_with fail
  refine (P2 _).mono ?_
  rintro e w3 ⟨rfl, g3⟩
  go_wp2_with fail
  refine bodyPost_ret (results_four rfl _ _ _) rfl ?_
  exact ⟨Hp.out.symm, b2 (b2 (g1) g2) g3⟩

set_option maxRecDepth 100000 in
set_option maxHeartbeats 400000 in
theorem refParse_no3 (s : ByteArray) (w : World) (h : shapeB s = true) (o1 : okPart 2 10 (cA (capsB s)) = true) (o2 : okPart 3 0 (cP (capsB s)) = true) (o3 : okPart 9 0 (cI (capsB s)) = false) :
    Calls Try.prog 17 #[.string s] w fun e w' => e = parsed s ∧ Below w.heap.size w w' := by
  have Hp : Hid (parsed s = failed 5) := Lib.hid (parsed_form s (by
    unfold okS formB
    rw [← okS_tail, ← okS_parts]
    show (shapeB s && okPart 1 0 (cT (capsB s)) && okParts (cA (capsB s)) (cP (capsB s)) (cI (capsB s))) = false
    unfold okParts
    rw [o3]; simp))
  have hz := (shape_yes s h).1
  have hs := small_le s hz
  have hcz : (capsB s).size = 18 := by rw [capsB_size]; exact hz
  obtain ⟨P1, P2, P3, P4⟩ := part_calls (capsB s) hcz
  obtain ⟨k2, k6, k16, t0, t2, t6, t16⟩ := shape_facts s h
  have q1 := cut_a (capsB s) (by omega)
  have q2 := cut_p (capsB s) (by omega)
  have q3 := cut_i (capsB s) (by omega)
  have q4 := cut_t (capsB s) hcz
  clear h hz hcz
  go_enter Try.func17, Try.ntmps17
  go_wp2_with fail
  refine (refCapitals_any s _ hs).mono ?_
  rintro e w1 ⟨rfl, g1⟩
  go_wp2_with fail
  refine (P1 _).mono ?_
  rintro e w2 ⟨rfl, g2⟩
  go_wp2_with fail
  refine (P2 _).mono ?_
  rintro e w3 ⟨rfl, g3⟩
  go_wp2_with fail
  refine (P3 _).mono ?_
  rintro e w4 ⟨rfl, g4⟩
  go_wp2_with fail
  refine bodyPost_ret (results_four rfl _ _ _) rfl ?_
  exact ⟨Hp.out.symm, b2 (b2 (b2 (g1) g2) g3) g4⟩

set_option maxRecDepth 100000 in
set_option maxHeartbeats 400000 in
theorem refParse_no4 (s : ByteArray) (w : World) (h : shapeB s = true) (o1 : okPart 2 10 (cA (capsB s)) = true) (o2 : okPart 3 0 (cP (capsB s)) = true) (o3 : okPart 9 0 (cI (capsB s)) = true) (o4 : okPart 1 0 (cT (capsB s)) = false) :
    Calls Try.prog 17 #[.string s] w fun e w' => e = parsed s ∧ Below w.heap.size w w' := by
  have Hp : Hid (parsed s = failed 5) := Lib.hid (parsed_form s (by
    unfold okS formB
    rw [← okS_tail, ← okS_parts]
    show (shapeB s && okPart 1 0 (cT (capsB s)) && okParts (cA (capsB s)) (cP (capsB s)) (cI (capsB s))) = false
    unfold okParts
    rw [o4]; simp))
  have hz := (shape_yes s h).1
  have hs := small_le s hz
  have hcz : (capsB s).size = 18 := by rw [capsB_size]; exact hz
  obtain ⟨P1, P2, P3, P4⟩ := part_calls (capsB s) hcz
  obtain ⟨k2, k6, k16, t0, t2, t6, t16⟩ := shape_facts s h
  have q1 := cut_a (capsB s) (by omega)
  have q2 := cut_p (capsB s) (by omega)
  have q3 := cut_i (capsB s) (by omega)
  have q4 := cut_t (capsB s) hcz
  clear h hz hcz
  go_enter Try.func17, Try.ntmps17
  go_wp2_with fail
  refine (refCapitals_any s _ hs).mono ?_
  rintro e w1 ⟨rfl, g1⟩
  go_wp2_with fail
  refine (P1 _).mono ?_
  rintro e w2 ⟨rfl, g2⟩
  go_wp2_with fail
  refine (P2 _).mono ?_
  rintro e w3 ⟨rfl, g3⟩
  go_wp2_with fail
  refine (P3 _).mono ?_
  rintro e w4 ⟨rfl, g4⟩
  go_wp2_with fail
  refine (P4 _).mono ?_
  rintro e w5 ⟨rfl, g5⟩
  go_wp2_with fail
  refine bodyPost_ret (results_four rfl _ _ _) rfl ?_
  exact ⟨Hp.out.symm, b2 (b2 (b2 (b2 (g1) g2) g3) g4) g5⟩

set_option maxRecDepth 100000 in
set_option maxHeartbeats 400000 in
theorem refParse_nosum (s : ByteArray) (w : World) (h : shapeB s = true) (o1 : okPart 2 10 (cA (capsB s)) = true) (o2 : okPart 3 0 (cP (capsB s)) = true) (o3 : okPart 9 0 (cI (capsB s)) = true) (o4 : okPart 1 0 (cT (capsB s)) = true) (h3 : sameB (cW s) s = false) :
    Calls Try.prog 17 #[.string s] w fun e w' => e = parsed s ∧ Below w.heap.size w w' := by
  have hp : okParts (cA s) (cP s) (cI s) = true := by rw [← okS_parts]; unfold okParts; rw [o1, o2, o3]; rfl
  have hk : okS s = true := by
    unfold okS formB
    rw [← okS_tail, hp, h]
    show (true && okPart 1 0 (cT (capsB s)) && true) = true
    rw [o4]; rfl
  have Hp : Hid (parsed s = failed 7) := Lib.hid (parsed_sum s hk h3)
  have t3 : ((cW s).toList == (capsB s).toList) = false := by rw [← same_whole s hp]; exact h3
  have Hm : Hid (∀ W, Calls Try.prog 15 #[.string (cA (capsB s)), .string (cP (capsB s)), .string (cI (capsB s))] W fun e w' => e = .returned (.tuple #[.string (cW s), .int .i64 0]) ∧ Below W.heap.size W w') := Lib.hid (fun W => by
    have hcs : (capsB s).size ≤ maxLen := by rw [capsB_size]; exact small_le s (shape_yes s h).1
    obtain ⟨sa, sp, si⟩ := cut_le (capsB s) hcs
    have := refMake_any (cA (capsB s)) (cP (capsB s)) (cI (capsB s)) W sa sp si
    rw [makeE_caps, (make_yes _ _ _ hp).2] at this
    have e : makeB (cA (capsB s)) (cP (capsB s)) (cI (capsB s)) = cW s := cW_caps s
    rw [e] at this
    exact this)
  have hz := (shape_yes s h).1
  have hs := small_le s hz
  have hcz : (capsB s).size = 18 := by rw [capsB_size]; exact hz
  obtain ⟨P1, P2, P3, P4⟩ := part_calls (capsB s) hcz
  obtain ⟨k2, k6, k16, t0, t2, t6, t16⟩ := shape_facts s h
  have q1 := cut_a (capsB s) (by omega)
  have q2 := cut_p (capsB s) (by omega)
  have q3 := cut_i (capsB s) (by omega)
  have q4 := cut_t (capsB s) hcz
  clear hp hk h3
  clear h hz hcz
  go_enter Try.func17, Try.ntmps17
  go_wp2_with fail
  refine (refCapitals_any s _ hs).mono ?_
  rintro e w1 ⟨rfl, g1⟩
  go_wp2_with fail
  refine (P1 _).mono ?_
  rintro e w2 ⟨rfl, g2⟩
  go_wp2_with fail
  refine (P2 _).mono ?_
  rintro e w3 ⟨rfl, g3⟩
  go_wp2_with fail
  refine (P3 _).mono ?_
  rintro e w4 ⟨rfl, g4⟩
  go_wp2_with fail
  refine (P4 _).mono ?_
  rintro e w5 ⟨rfl, g5⟩
  go_wp2_with fail
  have g15 : Below w.heap.size w w5 := b2 (b2 (b2 (b2 (g1) g2) g3) g4) g5
  go_region_held3 (fun W => Below w.heap.size w W) (first | assumption | exact Below.drew (by assumption) | exact b2 (by assumption) (by assumption))
    (first | (go_at_call 15; refine (Hm.out _).mono ?_; rintro e w6 ⟨rfl, g6⟩))
  have g16 : Below w.heap.size w w6 := by assumption
  clear g1 g2 g3 g4 g5 g6 g15
  go_wp2_with fail
  refine bodyPost_ret (results_four rfl _ _ _) rfl ?_
  exact ⟨Hp.out.symm, g16⟩

set_option maxRecDepth 100000 in
set_option maxHeartbeats 400000 in
theorem refParse_yes (s : ByteArray) (w : World) (h : shapeB s = true) (o1 : okPart 2 10 (cA (capsB s)) = true) (o2 : okPart 3 0 (cP (capsB s)) = true) (o3 : okPart 9 0 (cI (capsB s)) = true) (o4 : okPart 1 0 (cT (capsB s)) = true) (h3 : sameB (cW s) s = true) :
    Calls Try.prog 17 #[.string s] w fun e w' => e = parsed s ∧ Below w.heap.size w w' := by
  have hp : okParts (cA s) (cP s) (cI s) = true := by rw [← okS_parts]; unfold okParts; rw [o1, o2, o3]; rfl
  have hk : okS s = true := by
    unfold okS formB
    rw [← okS_tail, hp, h]
    show (true && okPart 1 0 (cT (capsB s)) && true) = true
    rw [o4]; rfl
  have t3 : ((cW s).toList == (capsB s).toList) = true := by rw [← same_whole s hp]; exact h3
  have ew : cW s = capsB s := bytes_ext (by rw [← toList_of, ← toList_of]; exact eq_of_beq t3)
  have Hp : Hid (parsed s = .returned (.tuple #[.string (cA (capsB s)), .string (cP (capsB s)), .string (cI (capsB s)), .int .i64 0])) := Lib.hid (by rw [parsed_ok s hk h3, ew])
  clear ew
  have Hm : Hid (∀ W, Calls Try.prog 15 #[.string (cA (capsB s)), .string (cP (capsB s)), .string (cI (capsB s))] W fun e w' => e = .returned (.tuple #[.string (cW s), .int .i64 0]) ∧ Below W.heap.size W w') := Lib.hid (fun W => by
    have hcs : (capsB s).size ≤ maxLen := by rw [capsB_size]; exact small_le s (shape_yes s h).1
    obtain ⟨sa, sp, si⟩ := cut_le (capsB s) hcs
    have := refMake_any (cA (capsB s)) (cP (capsB s)) (cI (capsB s)) W sa sp si
    rw [makeE_caps, (make_yes _ _ _ hp).2] at this
    have e : makeB (cA (capsB s)) (cP (capsB s)) (cI (capsB s)) = cW s := cW_caps s
    rw [e] at this
    exact this)
  have hz := (shape_yes s h).1
  have hs := small_le s hz
  have hcz : (capsB s).size = 18 := by rw [capsB_size]; exact hz
  obtain ⟨P1, P2, P3, P4⟩ := part_calls (capsB s) hcz
  obtain ⟨k2, k6, k16, t0, t2, t6, t16⟩ := shape_facts s h
  have q1 := cut_a (capsB s) (by omega)
  have q2 := cut_p (capsB s) (by omega)
  have q3 := cut_i (capsB s) (by omega)
  have q4 := cut_t (capsB s) hcz
  clear hp hk h3
  clear h hz hcz
  go_enter Try.func17, Try.ntmps17
  go_wp2_with fail
  refine (refCapitals_any s _ hs).mono ?_
  rintro e w1 ⟨rfl, g1⟩
  go_wp2_with fail
  refine (P1 _).mono ?_
  rintro e w2 ⟨rfl, g2⟩
  go_wp2_with fail
  refine (P2 _).mono ?_
  rintro e w3 ⟨rfl, g3⟩
  go_wp2_with fail
  refine (P3 _).mono ?_
  rintro e w4 ⟨rfl, g4⟩
  go_wp2_with fail
  refine (P4 _).mono ?_
  rintro e w5 ⟨rfl, g5⟩
  go_wp2_with fail
  have g15 : Below w.heap.size w w5 := b2 (b2 (b2 (b2 (g1) g2) g3) g4) g5
  go_region_held3 (fun W => Below w.heap.size w W) (first | assumption | exact Below.drew (by assumption) | exact b2 (by assumption) (by assumption))
    (first | (go_at_call 15; refine (Hm.out _).mono ?_; rintro e w6 ⟨rfl, g6⟩))
  have g16 : Below w.heap.size w w6 := by assumption
  clear g1 g2 g3 g4 g5 g6 g15
  go_wp2_with fail
  go_quiet (fail)
  go_wp2_with fail
  refine bodyPost_ret (results_four rfl _ _ _) rfl ?_
  exact ⟨Hp.out.symm, b2 g16 (below_draws _ _)⟩

theorem refParse_any (s : ByteArray) (w : World) (hs : s.size ≤ maxLen) :
    Calls Try.prog 17 #[.string s] w fun e w' => e = parsed s ∧ Below w.heap.size w w' := by
  cases h : shapeB s with
  | false => exact refParse_noshape s w hs h
  | true =>
    cases o1 : okPart 2 10 (cA (capsB s)) with
    | false => exact refParse_no1 s w h o1
    | true =>
      cases o2 : okPart 3 0 (cP (capsB s)) with
      | false => exact refParse_no2 s w h o1 o2
      | true =>
        cases o3 : okPart 9 0 (cI (capsB s)) with
        | false => exact refParse_no3 s w h o1 o2 o3
        | true =>
          cases o4 : okPart 1 0 (cT (capsB s)) with
          | false => exact refParse_no4 s w h o1 o2 o3 o4
          | true =>
            cases h3 : sameB (cW s) s with
            | false => exact refParse_nosum s w h o1 o2 o3 o4 h3
            | true => exact refParse_yes s w h o1 o2 o3 o4 h3
end Go.Proofs.Ytkimniggdnlliaa
