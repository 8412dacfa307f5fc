/-
  The examples of the chapter.
-/
import Derived.Test.YtlnnkdnnhmeldaaFiQ
namespace Go.Proofs.Ytlnnkdnnhmeldaa
open Go.RowKit
open IntWalk
set_option linter.unusedVariables false

theorem e1 (w : World) : RdB (w.alloc (.cells #[.int .u8 128, .int .u8 1] 5)) (.slice (some ⟨w.heap.size, 0, none⟩) 2 2) [128, 1] :=
  lit_rd w [128, 1] w.heap.size 2 rfl rfl (by simp)

theorem e2 (w : World) : RdB (w.alloc (.cells #[.int .u8 128] 5)) (.slice (some ⟨w.heap.size, 0, none⟩) 1 1) [128] :=
  lit_rd w [128] w.heap.size 1 rfl rfl (by simp)

theorem e3 (w : World) : RdB (w.alloc (.cells #[.int .u8 128, .int .u8 0] 5)) (.slice (some ⟨w.heap.size, 0, none⟩) 2 2) [128, 0] :=
  lit_rd w [128, 0] w.heap.size 2 rfl rfl (by simp)

theorem e4 (w : World) : RdB (w.alloc (.cells #[.int .u8 2, .int .u8 4, .int .u8 97] 5)) (.slice (some ⟨w.heap.size, 0, none⟩) 3 3) [2, 4, 97] :=
  lit_rd w [2, 4, 97] w.heap.size 3 rfl rfl (by simp)

theorem e5 (w : World) : RdB (w.alloc (.cells #[.int .u8 6, .int .u8 0, .int .u8 2, .int .u8 0] 5)) (.slice (some ⟨w.heap.size, 0, none⟩) 4 4) [6, 0, 2, 0] :=
  lit_rd w [6, 0, 2, 0] w.heap.size 4 rfl rfl (by simp)

theorem e6 (w : World) : RdB (w.alloc (.cells #[.int .u8 0, .int .u8 0] 5)) (.slice (some ⟨w.heap.size, 0, none⟩) 2 2) [0, 0] :=
  lit_rd w [0, 0] w.heap.size 2 rfl rfl (by simp)

theorem e7 (w : World) : RdB (w.alloc (.cells #[.int .u8 1] 5)) (.slice (some ⟨w.heap.size, 0, none⟩) 1 1) [1] :=
  lit_rd w [1] w.heap.size 1 rfl rfl (by simp)

theorem e8 (w : World) : RdB (w.alloc (.cells #[.int .u8 2, .int .u8 4, .int .u8 97, .int .u8 98, .int .u8 6, .int .u8 0] 5)) (.slice (some ⟨w.heap.size, 0, none⟩) 6 6) [2, 4, 97, 98, 6, 0] :=
  lit_rd w [2, 4, 97, 98, 6, 0] w.heap.size 6 rfl rfl (by simp)

theorem e9 (w : World) : RdB (w.alloc (.cells #[.int .u8 4, .int .u8 2, .int .u8 97, .int .u8 0] 5)) (.slice (some ⟨w.heap.size, 0, none⟩) 4 4) [4, 2, 97, 0] :=
  lit_rd w [4, 2, 97, 0] w.heap.size 4 rfl rfl (by simp)

theorem alloc_below (w : World) (o : Obj) : Below w.heap.size w (w.alloc o) := (Below.refl _ w).alloc (Nat.le_refl _) o
/-- The record of the examples. -/
def exR : List Fd := [(1, [97, 98]), (3, [])]
theorem x1 : intR [128, 1] = (64, 0) := by decide +kernel
theorem x2 : intR [128] = (0, 6) := by decide +kernel
theorem x3 : intR [128, 0] = (0, 5) := by decide +kernel
theorem x4 : encI 64 = [128, 1] := by unfold encI; rw [show zig 64 = 128 from rfl, encN_hi 128 (by decide), encN_lo _ (by decide)]; rfl
theorem x5 : encI (-1) = [1] := by unfold encI; rw [show zig (-1) = 1 from rfl, encN_lo _ (by decide)]; rfl
theorem x6 : putE exR = 0 := by decide +kernel
theorem x7 : encF exR = [2, 4, 97, 98, 6, 0] := by
  show (encI 1 ++ (encI 2 ++ [97, 98])) ++ ((encI 3 ++ (encI 0 ++ [])) ++ []) = _
  rw [encI_small 1 (by decide) (by decide), encI_small 2 (by decide) (by decide), encI_small 3 (by decide) (by decide), encI_small 0 (by decide) (by decide)]
  rfl
theorem x8 : putB exR = [2, 4, 97, 98, 6, 0] := by unfold putB; rw [if_pos x6, x7]
theorem x9 : takR [] 0 [2, 4, 97, 98, 6, 0] = .ok exR := by
  have := takR_enc exR [] 0 (by decide +kernel) (by decide) (by decide) (fun f hf => by simp [exR] at hf; rcases hf with rfl | rfl <;> simp)
  rw [x7] at this
  exact this
theorem x10 : takR [] 0 [2, 4, 97] = .error 6 := takR_data [] 0 [2, 4, 97] 1 [4, 97] 6 (by simp) (by simp) (by rfl) (by decide) (by rfl)
theorem x11 : takR [] 0 [6, 0, 2, 0] = .error 5 := by
  rw [takR_step [] 0 [6, 0, 2, 0] 3 [0, 2, 0] [] [2, 0] (by simp) (by simp) (by rfl) (by decide) (by rfl)]
  exact takR_tag _ 3 [2, 0] 1 [0] (by simp) (by simp) (by rfl) (by decide)
theorem x12 : getR exR 3 = some [] := by decide +kernel
theorem x13 : putLK [[97], []] = 0 := by decide +kernel
theorem x14 : putLB [[97], []] = [4, 2, 97, 0] := by
  unfold putLB
  rw [if_neg (by decide)]
  show encI 2 ++ ((encI 1 ++ [97]) ++ ((encI 0 ++ []) ++ [])) = _
  rw [encI_small 1 (by decide) (by decide), encI_small 2 (by decide) (by decide), encI_small 0 (by decide) (by decide)]
  rfl
theorem x15 : lstR [0, 0] = .error 5 := by rfl
theorem ex_rec (W : World) : RdF ((W.alloc (.cells #[.int .u8 97, .int .u8 98] 5 (2, 3))).alloc (.cells #[.int .i64 1, .slice (some ⟨W.heap.size, 0, none⟩) 2 2, .int .i64 3, .slice none 0 0] 56)) (.slice (some ⟨W.heap.size + 1, 0, none⟩) 2 2) exR := by
  have a1 : RdB (W.alloc (.cells #[.int .u8 97, .int .u8 98] 5 (2, 3))) (.slice (some ⟨W.heap.size, 0, none⟩) 2 2) [97, 98] := lit_rd_m W [97, 98] W.heap.size 2 (2, 3) rfl rfl (by simp)
  refine ⟨_, 2, [(1, .slice (some ⟨W.heap.size, 0, none⟩) 2 2), (3, .slice none 0 0)], rfl, by decide, by decide, rfl, fun i h hz => ?_, fun _ => ⟨_, 0, rfl, by simp, fun i h => ?_⟩⟩
  · match i, h with
    | 0, _ => exact ⟨rfl, a1.more _⟩
    | 1, _ => exact ⟨rfl, rdB_nil _⟩
  · match i, h with
    | 0, _ => exact ⟨by simp [go_sem], by simp [go_sem]⟩
    | 1, _ => exact ⟨by simp [go_sem], by simp [go_sem]⟩
theorem ex_list (W : World) : RdP ((W.alloc (.cells #[.int .u8 97] 5)).alloc (.cells #[.slice (some ⟨W.heap.size, 0, none⟩) 1 1, .slice none 0 0] 22)) (.slice (some ⟨W.heap.size + 1, 0, none⟩) 2 2) [[97], []] := by
  have a1 : RdB (W.alloc (.cells #[.int .u8 97] 5)) (.slice (some ⟨W.heap.size, 0, none⟩) 1 1) [97] := lit_rd W [97] W.heap.size 1 rfl rfl (by simp)
  refine ⟨_, 2, [.slice (some ⟨W.heap.size, 0, none⟩) 1 1, .slice none 0 0], rfl, by decide, by decide, rfl, fun i h hz => ?_, fun _ => ⟨_, 0, rfl, by simp, fun i h => ?_⟩⟩
  · match i, h with
    | 0, _ => exact a1.more _
    | 1, _ => exact rdB_nil _
  · match i, h with
    | 0, _ => simp [go_sem]
    | 1, _ => simp [go_sem]
theorem two_below (W : World) (o o' : Obj) : Below W.heap.size W ((W.alloc o).alloc o') := ((Below.refl _ W).alloc (Nat.le_refl _) o).alloc (by simp) o'
set_option maxHeartbeats 8000000 in
set_option maxRecDepth 100000 in
theorem awake_run (w : World) : Calls Try.prog 16 #[] w fun e w' => e = .returned (.bool true) ∧ Below w.heap.size w w' := by
  have kc := fun (w : World) (C : Array Value) (n c : Nat) => Lib.run_convert_bytes_const (P := Try.prog) w 22 5 C n c Try.underlying22 Try.underlying5
  have C1 := Lib.hid (fun W => takeInt_run _ [128, 1] _ (e1 W) (by simp))
  have C2 := Lib.hid (fun W => takeInt_run _ [128] _ (e2 W) (by simp))
  have C3 := Lib.hid (fun W => takeInt_run _ [128, 0] _ (e3 W) (by simp))
  rw [x1] at C1
  rw [x2] at C2
  rw [x3] at C3
  dsimp only at C1 C2 C3
  go_enter Try.func16, Try.ntmps16
  go_upto_region 2 with fail
  refine (C1.out _).mono ?_
  rintro e w1 ⟨rfl, b⟩
  have B1 := Lib.hid (bt (alloc_below _ _) b)
  clear b C1
  go_upto_region 3 with fail
  refine (C2.out _).mono ?_
  rintro e w2 ⟨rfl, b⟩
  have B2 := Lib.hid (bt B1.out (bt (alloc_below _ _) b))
  clear b C2 B1
  go_upto_region 4 with fail
  refine (C3.out _).mono ?_
  rintro e w3 ⟨rfl, b⟩
  have B3 := Lib.hid (bt B2.out (bt (alloc_below _ _) b))
  clear b C3 B2
  have C4 := Lib.hid (put_run _ exR _ (ex_rec w3) (by decide) (by decide))
  have C8 := Lib.hid (fun W v (h : RdF W v exR) => get_run v exR 3 W h (by decide) (by decide))
  rw [x6, x8] at C4
  rw [x12] at C8
  go_upto_region 5 with fail
  go_wp2_with fail
  refine C4.out.mono ?_
  rintro e w4 ⟨u4, rfl, f4, b⟩
  have B4 := Lib.hid (bt B3.out (bt (two_below _ _ _) b))
  have L4 := Lib.hid ((ex_rec w3).below b)
  have R4 := Lib.hid f4.rd
  have C5 := Lib.hid (take_run u4 _ w4 f4.rd (by simp))
  rw [x9] at C5
  clear b C4 B3 f4
  go_upto_region 6 with fail
  go_wp2_with fail
  refine C5.out.mono ?_
  rintro e w5 ⟨u5, rfl, f5, b⟩
  have B5 := Lib.hid (bt B4.out b)
  have L5 := Lib.hid (L4.out.below b)
  have R5 := Lib.hid (R4.out.below b)
  have M5 := Lib.hid (show RdF w5 u5 exR from f5)
  clear b C5 B4 L4 R4 f5
  have C6 := Lib.hid (take_run _ [2, 4, 97] _ (e4 w5) (by simp))
  rw [x10] at C6
  go_upto_region 7 with fail
  go_wp2_with fail
  refine C6.out.mono ?_
  rintro e w6 ⟨u6, rfl, f6, b⟩
  have b2 := bt (alloc_below _ _) b
  have B6 := Lib.hid (bt B5.out b2)
  have L6 := Lib.hid (L5.out.below b2)
  have R6 := Lib.hid (R5.out.below b2)
  have M6 := Lib.hid (M5.out.below b2)
  clear b b2 C6 B5 L5 R5 M5 f6
  have C7 := Lib.hid (take_run _ [6, 0, 2, 0] _ (e5 w6) (by simp))
  rw [x11] at C7
  go_upto_region 8 with fail
  go_wp2_with fail
  refine C7.out.mono ?_
  rintro e w7 ⟨u7, rfl, f7, b⟩
  have b2 := bt (alloc_below _ _) b
  have B7 := Lib.hid (bt B6.out b2)
  have L7 := Lib.hid (L6.out.below b2)
  have R7 := Lib.hid (R6.out.below b2)
  have M7 := Lib.hid (M6.out.below b2)
  clear b b2 C7 B6 L6 R6 M6 f7
  go_upto_region 9 with fail
  go_wp2_with fail
  refine (C8.out _ _ L7.out).mono ?_
  rintro e w8 ⟨u8, rfl, f8, b⟩
  have B8 := Lib.hid (bt B7.out b)
  have L8 := Lib.hid (L7.out.below b)
  have R8 := Lib.hid (R7.out.below b)
  have M8 := Lib.hid (M7.out.below b)
  obtain ⟨p8, q8, rfl, _, _, _⟩ := f8
  clear b C8 B7 L7 R7 M7
  have C9 := Lib.hid (putList_run _ [[97], []] _ (ex_list w8) (by simp) (by decide))
  rw [x13, x14] at C9
  go_upto_region 10 with fail
  go_wp2_with fail
  refine C9.out.mono ?_
  rintro e w9 ⟨u9, rfl, f9, b⟩
  have b2 := bt (two_below _ _ _) b
  have B9 := Lib.hid (bt B8.out b2)
  have L9 := Lib.hid (L8.out.below b2)
  have R9 := Lib.hid (R8.out.below b2)
  have M9 := Lib.hid (M8.out.below b2)
  have P9 := Lib.hid f9.rd
  clear b b2 C9 B8 L8 R8 M8 f9
  have C10 := Lib.hid (takeList_run _ [0, 0] _ (e6 w9) (by simp))
  rw [x15] at C10
  have hk1 : kR (Except.ok exR : Except Int (List Fd)) = 0 := rfl
  have hk2 : kR (Except.error 6 : Except Int (List Fd)) = 6 := rfl
  have hk3 : kR (Except.error 5 : Except Int (List Fd)) = 5 := rfl
  have hk4 : kR (Except.error 5 : Except Int (List (List UInt8))) = 5 := rfl
  go_upto_region 11 with fail
  go_wp2_with fail
  refine C10.out.mono ?_
  rintro e w10 ⟨u10, rfl, f10, b⟩
  have b2 := bt (alloc_below _ _) b
  have B10 := Lib.hid (bt B9.out b2)
  have L10 := Lib.hid (L9.out.below b2)
  have R10 := Lib.hid (R9.out.below b2)
  have M10 := Lib.hid (M9.out.below b2)
  have P10 := Lib.hid (P9.out.below b2)
  clear b b2 C10 B9 L9 R9 M9 P9 f10
  have C11 := Lib.hid (putInt_run 64 w10 (by decide) (by decide))
  rw [x4] at C11
  go_upto_region 12 with fail
  simp only [List.append_eq, List.cons_append, List.nil_append]
  go_wp2_with fail
  refine C11.out.mono ?_
  rintro e w11 ⟨u11, rfl, o11, b⟩
  have B11 := Lib.hid (bt B10.out b)
  have L11 := Lib.hid (L10.out.below b)
  have R11 := Lib.hid (R10.out.below b)
  have M11 := Lib.hid (M10.out.below b)
  have P11 := Lib.hid (P10.out.below b)
  have C12 := Lib.hid (equal_run u11 _ [128, 1] [128, 1] _ (o11.rd.more (.cells #[.int .u8 128, .int .u8 1] 5)) (e1 w11))
  clear b C11 B10 L10 R10 M10 P10 o11
  rw [decide_eq_true rfl] at C12
  go_wp2_with fail
  refine C12.out.mono ?_
  rintro e w12 ⟨rfl, hw⟩
  have b := below_eq hw
  have b2 := bt (alloc_below _ _) b
  have B12 := Lib.hid (bt B11.out b2)
  have L12 := Lib.hid (L11.out.below b2)
  have R12 := Lib.hid (R11.out.below b2)
  have M12 := Lib.hid (M11.out.below b2)
  have P12 := Lib.hid (P11.out.below b2)
  clear b b2 C12 B11 L11 R11 M11 P11 hw
  have C13 := Lib.hid (putInt_run (-1) w12 (by decide) (by decide))
  rw [x5] at C13
  go_wp2_with fail
  refine C13.out.mono ?_
  rintro e w13 ⟨u13, rfl, o13, b⟩
  have B13 := Lib.hid (bt B12.out b)
  have L13 := Lib.hid (L12.out.below b)
  have R13 := Lib.hid (R12.out.below b)
  have M13 := Lib.hid (M12.out.below b)
  have P13 := Lib.hid (P12.out.below b)
  have C14 := Lib.hid (equal_run u13 _ [1] [1] _ (o13.rd.more (.cells #[.int .u8 1] 5)) (e7 w13))
  clear b C13 B12 L12 R12 M12 P12 o13
  rw [decide_eq_true rfl] at C14
  go_wp2_with fail
  refine C14.out.mono ?_
  rintro e w14 ⟨rfl, hw⟩
  have b := below_eq hw
  have b2 := bt (alloc_below _ _) b
  have B14 := Lib.hid (bt B13.out b2)
  have L14 := Lib.hid (L13.out.below b2)
  have R14 := Lib.hid (R13.out.below b2)
  have M14 := Lib.hid (M13.out.below b2)
  have P14 := Lib.hid (P13.out.below b2)
  clear b b2 C14 B13 L13 R13 M13 P13 hw
  have C15 := Lib.hid (equal_run u4 _ [2, 4, 97, 98, 6, 0] [2, 4, 97, 98, 6, 0] _ (R14.out.more (.cells #[.int .u8 2, .int .u8 4, .int .u8 97, .int .u8 98, .int .u8 6, .int .u8 0] 5)) (e8 w14))
  rw [decide_eq_true rfl] at C15
  go_wp2_with fail
  refine C15.out.mono ?_
  rintro e w15 ⟨rfl, hw⟩
  have b := below_eq hw
  have b2 := bt (alloc_below _ _) b
  have B15 := Lib.hid (bt B14.out b2)
  have L15 := Lib.hid (L14.out.below b2)
  have M15 := Lib.hid (M14.out.below b2)
  have P15 := Lib.hid (P14.out.below b2)
  clear b b2 C15 B14 L14 R14 M14 P14 hw
  have C16 := Lib.hid (sameFields_run _ _ exR exR w15 (by decide) L15.out M15.out)
  rw [decide_eq_true rfl] at C16
  go_wp2_with fail
  refine C16.out.mono ?_
  rintro e w16 ⟨rfl, q16, hw⟩
  have b2 : Below w15.heap.size w15 w16 := by rw [hw]; exact b_draws (Below.refl _ _) _
  have B16 := Lib.hid (bt B15.out b2)
  have P16 := Lib.hid (P15.out.below b2)
  clear b2 C16 B15 L15 M15 P15 hw
  have C17 := Lib.hid (equal_run u9 _ [4, 2, 97, 0] [4, 2, 97, 0] _ (P16.out.more (.cells #[.int .u8 4, .int .u8 2, .int .u8 97, .int .u8 0] 5)) (e9 w16))
  rw [decide_eq_true rfl] at C17
  go_wp2_with fail
  refine C17.out.mono ?_
  rintro e w17 ⟨rfl, hw⟩
  have B17 := Lib.hid (bt B16.out (bt (alloc_below _ _) (below_eq hw)))
  clear hw C17 B16 P16
  go_wp2_with fail
  go_ret
  exact ⟨rfl, B17.out⟩
end Go.Proofs.Ytlnnkdnnhmeldaa
