/-
  What Make returns, in the package ident and in its reference.
-/
import Derived.Test.YtkimniggdnlliaaDoorIdF
namespace Go.Proofs.YtkimniggdnlliaaDoor
open Go.RowKit
open Plain

theorem ret_str {k : IntKind} {a b : ByteArray} {c d : Int} (h : a = b) (h2 : c = d) : Ending.returned (.tuple #[.string a, .int k c]) = .returned (.tuple #[.string b, .int k d]) := by rw [h, h2]

theorem parts_1 (a b i : ByteArray) (h : (a.size : Int) ≠ 2) : okParts a b i = false := by unfold okParts okPart; simp [h]
theorem parts_2 (a b i : ByteArray) (h : allOk (atLeast 10) a.data.toList = false) : okParts a b i = false := by unfold okParts okPart; simp [h]
theorem parts_3 (a b i : ByteArray) (h : (b.size : Int) ≠ 3) : okParts a b i = false := by unfold okParts okPart; simp [h]
theorem parts_4 (a b i : ByteArray) (h : allOk (atLeast 0) b.data.toList = false) : okParts a b i = false := by unfold okParts okPart; simp [h]
theorem parts_5 (a b i : ByteArray) (h : (i.size : Int) ≠ 9) : okParts a b i = false := by unfold okParts okPart; simp [h]
theorem parts_6 (a b i : ByteArray) (h : allOk (atLeast 0) i.data.toList = false) : okParts a b i = false := by unfold okParts okPart; simp [h]
theorem parts_all (a b i : ByteArray) (h1 : (a.size : Int) = 2) (h2 : allOk (atLeast 10) a.data.toList = true) (h3 : (b.size : Int) = 3) (h4 : allOk (atLeast 0) b.data.toList = true) (h5 : (i.size : Int) = 9) (h6 : allOk (atLeast 0) i.data.toList = true) : okParts a b i = true := by
  unfold okParts okPart; simp [h1, h2, h3, h4, h5, h6]
theorem neqI_t (a x : Int) (h : a ≠ x) : (a != x) = true := by rw [bne_iff_ne]; exact h
theorem neqI_f (a x : Int) (h : a = x) : (a != x) = false := by rw [h]; simp

theorem b2 {w w1 w2 : World} (h1 : Below w.heap.size w w1) (h2 : Below w1.heap.size w1 w2) : Below w.heap.size w w2 := h1.trans (h2.mono h1.size)

set_option maxHeartbeats 1000000 in
theorem make_out (a b i : ByteArray) (w : World) (ha : a.size ≤ maxLen) (hb : b.size ≤ maxLen) (hi : i.size ≤ maxLen) (ho : okParts a b i = false) :
    Calls Tryd.prog 10 #[.string a, .string b, .string i] w fun e w' => e = .returned (.tuple #[.string (makeB a b i), .int .i64 (makeE a b i)]) ∧ Below w.heap.size w w' := by
  have hm := make_no a b i ho
  have Hm := Lib.hid hm
  have ho' := Lib.hid ho
  clear hm ho
  have hA := ha; have hB := hb; have hI := hi
  unfold maxLen at hA hB hI
  by_cases h1 : (a.size : Int) = 2
  · have t1 := neqI_f _ _ h1
    by_cases h2 : allOk (atLeast 10) a.data.toList = true
    · by_cases h3 : (b.size : Int) = 3
      · have t3 := neqI_f _ _ h3
        by_cases h4 : allOk (atLeast 0) b.data.toList = true
        · by_cases h5 : (i.size : Int) = 9
          · have t5 := neqI_f _ _ h5
            have h6 : allOk (atLeast 0) i.data.toList = false := by
              cases hh : allOk (atLeast 0) i.data.toList with
              | false => rfl
              | true => exact absurd (parts_all a b i h1 h2 h3 h4 h5 hh) (by rw [ho'.out]; decide)
            clear h1 h3 h5
            go_enter Tryd.func10, Tryd.ntmps10
            go_wp2_with fail
            refine (consists_letter a _ ha).mono ?_
            rintro e w1 ⟨rfl, g1⟩
            go_wp2_with fail
            refine (consists_letterOrDigit b _ hb).mono ?_
            rintro e w2 ⟨rfl, g2⟩
            go_wp2_with fail
            refine (consists_letterOrDigit i _ hi).mono ?_
            rintro e w3 ⟨rfl, g3⟩
            go_wp2_with fail
            go_ret2
            exact ⟨ret_str Hm.out.1.symm Hm.out.2.symm, b2 (b2 g1 g2) g3⟩
          · have t5 := neqI_t _ _ h5
            clear h1 h3 h5
            go_enter Tryd.func10, Tryd.ntmps10
            go_wp2_with fail
            refine (consists_letter a _ ha).mono ?_
            rintro e w1 ⟨rfl, g1⟩
            go_wp2_with fail
            refine (consists_letterOrDigit b _ hb).mono ?_
            rintro e w2 ⟨rfl, g2⟩
            go_wp2_with fail
            go_ret2
            exact ⟨ret_str Hm.out.1.symm Hm.out.2.symm, b2 g1 g2⟩
        · have h4' := Bool.eq_false_iff.2 h4
          clear h1 h3 h4
          go_enter Tryd.func10, Tryd.ntmps10
          go_wp2_with fail
          refine (consists_letter a _ ha).mono ?_
          rintro e w1 ⟨rfl, g1⟩
          go_wp2_with fail
          refine (consists_letterOrDigit b _ hb).mono ?_
          rintro e w2 ⟨rfl, g2⟩
          go_wp2_with fail
          go_ret2
          exact ⟨ret_str Hm.out.1.symm Hm.out.2.symm, b2 g1 g2⟩
      · have t3 := neqI_t _ _ h3
        clear h1 h3
        go_enter Tryd.func10, Tryd.ntmps10
        go_wp2_with fail
        refine (consists_letter a _ ha).mono ?_
        rintro e w1 ⟨rfl, g1⟩
        go_wp2_with fail
        go_ret2
        exact ⟨ret_str Hm.out.1.symm Hm.out.2.symm, g1⟩
    · have h2' := Bool.eq_false_iff.2 h2
      clear h1 h2
      go_enter Tryd.func10, Tryd.ntmps10
      go_wp2_with fail
      refine (consists_letter a _ ha).mono ?_
      rintro e w1 ⟨rfl, g1⟩
      go_wp2_with fail
      go_ret2
      exact ⟨ret_str Hm.out.1.symm Hm.out.2.symm, g1⟩
  · have t1 := neqI_t _ _ h1
    clear h1
    go_enter Tryd.func10, Tryd.ntmps10
    go_wp2_with fail
    go_ret2
    exact ⟨ret_str Hm.out.1.symm Hm.out.2.symm, Below.refl _ _⟩

theorem parts_get (a b i : ByteArray) (h : okParts a b i = true) : ((a.size : Int) = 2 ∧ allOk (atLeast 10) a.data.toList = true) ∧ ((b.size : Int) = 3 ∧ allOk (atLeast 0) b.data.toList = true) ∧ ((i.size : Int) = 9 ∧ allOk (atLeast 0) i.data.toList = true) := by
  unfold okParts at h
  simp only [Bool.and_eq_true] at h
  exact ⟨okPart_yes h.1, okPart_yes h.2.1, okPart_yes h.2.2⟩

theorem join_size (a b i : ByteArray) (h : okParts a b i = true) : (a ++ dash ++ b ++ dash ++ i).size ≤ maxLen := by
  obtain ⟨h1, h2, h3⟩ := parts_get a b i h
  have hd : dash.size = 1 := rfl
  unfold maxLen; simp only [ByteArray.size_append, hd]; omega
theorem body_le (a b i : ByteArray) (h : okParts a b i = true) : (bodyB a b i).size ≤ maxLen := by rw [body_size a b i h]; unfold maxLen; omega

set_option maxHeartbeats 1000000 in
theorem make_in (a b i : ByteArray) (w : World) (ho : okParts a b i = true) :
    Calls Tryd.prog 10 #[.string a, .string b, .string i] w fun e w' => e = .returned (.tuple #[.string (makeB a b i), .int .i64 (makeE a b i)]) ∧ Below w.heap.size w w' := by
  have Hm := Lib.hid (make_yes a b i ho)
  obtain ⟨⟨p1, p2⟩, ⟨p3, p4⟩, ⟨p5, p6⟩⟩ := parts_get a b i ho
  obtain ⟨k1, k2⟩ := body_check a b i ho
  have hz := body_size a b i ho
  have ha : a.size ≤ maxLen := by unfold maxLen; omega
  have hb : b.size ≤ maxLen := by unfold maxLen; omega
  have hi : i.size ≤ maxLen := by unfold maxLen; omega
  have hA : a.size ≤ 2 := by omega
  have hB : b.size ≤ 3 := by omega
  have hI : i.size ≤ 9 := by omega
  have hZ : (bodyB a b i).size ≤ 16 := by omega
  have t1 := neqI_f _ _ p1
  have t3 := neqI_f _ _ p3
  have t5 := neqI_f _ _ p5
  have Hcap : Hid (∀ W, Calls Tryd.prog 33 #[.string (a ++ dash ++ b ++ dash ++ i)] W fun e w' => e = .returned (.string (bodyB a b i)) ∧ Below W.heap.size W w') := Lib.hid (fun W => capitals_any _ W (join_size a b i ho))
  have hchk : ∀ W, Calls Tryd.prog 28 #[.string (bodyB a b i)] W fun e w' => e = .returned (.tuple #[.int .u8 (checkL (bodyB a b i).data.toList : Nat), .int .i64 0]) ∧ Below W.heap.size W w' := fun W => by
    have := check_any (bodyB a b i) W (body_le a b i ho)
    rw [k1] at this; exact this
  have Hchk := Lib.hid hchk
  have hone : ∀ c, (oneB c).size ≤ 1 := fun c => Nat.le_refl _
  have hrun := run_rune_string _ k2
  obtain ⟨C, hC⟩ : ∃ C, C = checkL (bodyB a b i).data.toList := ⟨_, rfl⟩
  rw [← hC] at hrun k2
  have Hw : Hid (makeB a b i = bodyB a b i ++ dash ++ oneB C) := Lib.hid (by rw [Hm.out.1, hC]; rfl)
  have Hchk2 : Hid (∀ W, Calls Tryd.prog 28 #[.string (bodyB a b i)] W fun e w' => e = .returned (.tuple #[.int .u8 (C : Nat), .int .i64 0]) ∧ Below W.heap.size W w') := Lib.hid (by rw [hC]; exact Hchk.out)
  clear hchk Hchk p1 p3 p5 hz k1 ho hC
  have hone' := hone C
  clear hone
  go_enter Tryd.func10, Tryd.ntmps10
  go_wp2_with fail
  refine (consists_letter a _ ha).mono ?_
  rintro e w1 ⟨rfl, g1⟩
  go_wp2_with fail
  refine (consists_letterOrDigit b _ hb).mono ?_
  rintro e w2 ⟨rfl, g2⟩
  go_wp2_with fail
  refine (consists_letterOrDigit i _ hi).mono ?_
  rintro e w3 ⟨rfl, g3⟩
  go_wp2_with fail
  refine (Hcap.out _).mono ?_
  rintro e w4 ⟨rfl, g4⟩
  go_wp2_with fail
  refine (Hchk2.out _).mono ?_
  rintro e w5 ⟨rfl, g5⟩
  go_wp2_with fail
  go_ret2
  exact ⟨ret_str Hw.out.symm Hm.out.2.symm, b2 (b2 (b2 (b2 g1 g2) g3) g4) g5⟩

theorem make_any (a b i : ByteArray) (w : World) (ha : a.size ≤ maxLen) (hb : b.size ≤ maxLen) (hi : i.size ≤ maxLen) :
    Calls Tryd.prog 10 #[.string a, .string b, .string i] w fun e w' => e = .returned (.tuple #[.string (makeB a b i), .int .i64 (makeE a b i)]) ∧ Below w.heap.size w w' := by
  cases h : okParts a b i with
  | true => exact make_in a b i w h
  | false => exact make_out a b i w ha hb hi h

theorem below_draws (w : World) (q : Nat) : Below w.heap.size w (w.drewN q) := ⟨rfl, rfl, rfl, Nat.le_refl _, fun _ _ => rfl⟩
theorem info5 : (Tryd.prog.info? 5).map (fun i => (i.zero, i.size, i.bytes)) = some (some (.int .u8 0), 1, 1) := by kernel_rfl

end Go.Proofs.YtkimniggdnlliaaDoor
