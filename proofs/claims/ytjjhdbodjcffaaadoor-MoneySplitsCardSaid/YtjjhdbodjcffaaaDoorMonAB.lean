/-
  The examples of the chapter.
-/
import Derived.Test.YtjjhdbodjcffaaaDoorMonAA
namespace Go.Proofs.YtjjhdbodjcffaaaDoor
open Go.RowKit
open IntWalk

theorem var_below {w w' : World} {name : String} {cs : Array Value} (h : w.var? Tryd.prog name = some cs) (hb : Below w.heap.size w w') : w'.var? Tryd.prog name = some cs := by
  unfold World.var? at *
  cases hg : Tryd.prog.globalNamed name with
  | none => simp [hg] at h
  | some g =>
    simp only [hg, Option.bind_some] at h ⊢
    have hlt : g < w.heap.size := by
      rcases Nat.lt_or_ge g w.heap.size with h' | h'
      · exact h'
      · rw [Array.getElem?_eq_none h'] at h; simp at h
    rw [hb.block g hlt]
    exact h
/-- The library's variables lie. -/
structure Tabs (w : World) : Prop where
  p : TabP w
  e : TabE w
theorem Tabs.below {w w' : World} (h : Tabs w) (hb : Below w.heap.size w w') : Tabs w' := by
  obtain ⟨hp, ⟨t, p, h1⟩, ⟨t2, p2, h2⟩⟩ := h
  exact ⟨hp.below hb, ⟨t, p, var_below h1 hb⟩, ⟨t2, p2, var_below h2 hb⟩⟩
theorem parse_all (s : ByteArray) (w : World) (hs : s.size ≤ 2000000) (h : Tabs w) :
    Calls Tryd.prog 23 #[.string s] w fun e w' => e = parR s ∧ Below w.heap.size w w' := parse_run s w hs h.p (fun _ hb => (h.below hb).e)
theorem ab_1234 : ab (-1234) = 1234 := by decide
theorem fmt_1234 : fmtS (-1234) ⟨#[69, 85, 82]⟩ = ⟨#[45, 49, 46, 50, 51, 52, 32, 69, 85, 82]⟩ := by
  apply ByteArray.ext
  rw [← Array.toList_inj, fmt_list _ _ (by decide) (by decide)]
  unfold sgn body frac
  rw [ab_1234, if_pos (by decide), show (1234 / 1000 : Int).toNat = 1 by decide, show (1234 % 1000 : Int).toNat = 234 by decide, Lib.decDigits_one (by decide)]
  rfl
theorem ab_7 : ab 7 = 7 := by decide
theorem fmt_7 : fmtS 7 ⟨#[85, 83, 68]⟩ = ⟨#[48, 46, 48, 48, 55, 32, 85, 83, 68]⟩ := by
  apply ByteArray.ext
  rw [← Array.toList_inj, fmt_list _ _ (by decide) (by decide)]
  unfold sgn body frac
  rw [ab_7, if_neg (by decide), show (7 / 1000 : Int).toNat = 0 by decide, show (7 % 1000 : Int).toNat = 7 by decide, Lib.decDigits_one (by decide)]
  rfl
theorem par_7 : parR ⟨#[48, 46, 48, 48, 55, 32, 85, 83, 68]⟩ = .returned (.tuple #[.int .i64 7, .string ⟨#[85, 83, 68]⟩, .int .i64 0]) := by
  obtain ⟨h1, h2⟩ := am_fmt (v := 7) (c := ⟨#[85, 83, 68]⟩) ⟨by decide, by decide⟩ (by decide)
  rw [fmt_7] at h1 h2
  rw [parR_ok h2, h1]
theorem wts_ex : Wts (ab 10) ([3, 0, 2, 2] : List Int).sum [3, 0, 2, 2] where
  a0 := by decide
  a1 := by decide
  n1 := by decide
  n2 := by decide
  w0 := by decide
  sum := rfl
  pos := by decide
theorem parts_ex : parts 10 [3, 0, 2, 2] = [4, 0, 3, 3] := by decide
theorem v_1 : scV (-5) 1 2 1 = -3 ∧ scE (-5) 1 2 1 = 0 := by decide
theorem v_2 : scV 4611686018427387904 6 8 3 = 3458764513820540928 ∧ scE 4611686018427387904 6 8 3 = 0 := by decide
theorem v_3 : sumV [9223372036854775807, 1, -1] = 9223372036854775807 ∧ sumE [9223372036854775807, 1, -1] = 0 := by decide
theorem lit_row (w : World) (l : List Int) (g : Nat) (hg : g = w.heap.size) : Row (w.alloc (.cells ((l.map (Value.int .i64)).toArray) 3)) g 3 .i64 l := by subst hg; exact heap_alloc_new w _
theorem lit_rdi (w : World) (l : List Int) (g n : Nat) (hg : g = w.heap.size) (hn : n = l.length) (hl : l.length ≤ 2000000) : RdI (w.alloc (.cells ((l.map (Value.int .i64)).toArray) 3)) (.slice (some ⟨g, 0, none⟩) n n) l := row_rdi (lit_row w l g hg) hn hl
theorem row_at {w : World} {g : Nat} {l : List Int} (h : Row w g 3 .i64 l) : At1 w g 0 l := ⟨h.low, fun i hi => by rw [Nat.zero_add]; exact h.get i hi⟩
theorem b_alloc {B : Nat} {w w1 : World} (h : Below B w w1) (hB : B ≤ w1.heap.size) (o : Obj) : Below B w (w1.alloc o) := h.alloc hB o
theorem bt {w w1 w2 : World} (h1 : Below w.heap.size w w1) (h2 : Below w1.heap.size w1 w2) : Below w.heap.size w w2 := h1.trans (h2.mono h1.size)
theorem bq {w w1 w2 : World} (h1 : Below w.heap.size w w1) (h2 : ∃ q, w2 = w1.drewN q) : Below w.heap.size w w2 := by obtain ⟨q, rfl⟩ := h2; exact b_draws h1 q

set_option maxHeartbeats 2000000 in
set_option maxRecDepth 10000 in
theorem awake_run (w : World) (h : Tabs w) :
    Calls Tryd.prog 13 #[] w fun e w' => e = .returned (.bool true) ∧ Below w.heap.size w w' := by
  have HT := Lib.hid h
  clear h
  have C1 := Lib.hid (fun W => round_all (-5) 2 1 W ⟨by decide, by decide, by decide, by decide, by decide, by decide, by decide, by decide⟩)
  rw [v_1.1, v_1.2] at C1
  have C2 := Lib.hid (fun W => scale_all 4611686018427387904 6 8 3 W ⟨by decide, by decide, by decide, by decide, by decide, by decide, by decide, by decide⟩)
  rw [v_2.1, v_2.2] at C2
  have C3 := Lib.hid (fun W g hg => sum_run _ _ _ (by decide) (by unfold I64; decide) (lit_rdi W [9223372036854775807, 1, -1] g 3 hg rfl (by decide)))
  rw [v_3.1, v_3.2] at C3
  have C4 := Lib.hid (fun W g hg => split_ok 10 [3, 0, 2, 2] g 0 4 4 _ (by decide) (by decide) wts_ex (by decide) rfl (row_at (lit_row W [3, 0, 2, 2] g hg)) (sorts_less 4 (by decide) (by decide) _))
  rw [parts_ex] at C4
  have C5 := Lib.hid (fun W hT => format_ok (-1234) ⟨#[69, 85, 82]⟩ W (by decide) (by decide) hT (by decide))
  rw [fmt_1234] at C5
  have C6 := Lib.hid (fun W hT => parse_all ⟨#[48, 46, 48, 48, 55, 32, 85, 83, 68]⟩ W (by decide) hT)
  rw [par_7] at C6
  have C7 := Lib.hid (fun W (g g2 : Nat) (hg2 : g2 = W.heap.size) (hr : Row W g 3 .i64 [4, 0, 3, 3]) => same_run _ _ [4, 0, 3, 3] [4, 0, 3, 3] (W.alloc (.cells ((([4, 0, 3, 3] : List Int).map (Value.int .i64)).toArray) 3)) (by decide) (row_rdi (n := 4) (hr.more _) rfl (by decide)) (lit_rdi W [4, 0, 3, 3] g2 4 hg2 rfl (by decide)))
  go_enter Tryd.func13, Tryd.ntmps13
  go_wp2_with fail
  refine (C1.out _).mono ?_
  rintro e w1 ⟨rfl, k1, rfl⟩
  go_wp2_with fail
  refine (C2.out _).mono ?_
  rintro e w1 ⟨rfl, k2, rfl⟩
  have B1 : Hid (Below w.heap.size w (w.drewN (k1 + k2))) := Lib.hid (below_draws w _)
  go_wp2_with fail
  refine (C3.out (w.drewN (k1 + k2)) _ rfl).mono ?_
  rintro e w1 ⟨rfl, hw1⟩
  have B2 := Lib.hid (b_alloc B1.out B1.out.size (.cells ((([9223372036854775807, 1, -1] : List Int).map (Value.int .i64)).toArray) 3))
  rw [hw1] at B2
  clear hw1 B1
  go_wp2_with fail
  refine (C4.out w1 _ rfl).mono ?_
  rintro e w2 ⟨g, rfl, hg, hr, hb⟩
  have B3 := Lib.hid (bt (b_alloc B2.out B2.out.size _) hb)
  have HR := Lib.hid hr
  clear hr hb hg B2
  go_wp2_with fail
  refine (C5.out _ (HT.out.below B3.out).p).mono ?_
  rintro e w3 ⟨rfl, b3⟩
  have B4 := Lib.hid (bt B3.out b3)
  have HR4 := Lib.hid (HR.out.kept b3 HR.out.low)
  clear b3 B3 HR
  go_wp2_with fail
  refine (C6.out _ (HT.out.below B4.out)).mono ?_
  rintro e w4 ⟨rfl, b4⟩
  have B5 := Lib.hid (bt B4.out b4)
  have HR5 := Lib.hid (HR4.out.kept b4 HR4.out.low)
  clear b4 B4 HR4
  go_wp2_with fail
  refine (C7.out _ _ _ rfl HR5.out).mono ?_
  rintro e w5 ⟨rfl, b5⟩
  have B6 := Lib.hid (bq (b_alloc B5.out B5.out.size _) b5)
  clear b5
  go_wp2
  go_ret
  exact ⟨rfl, B6.out⟩
end Go.Proofs.YtjjhdbodjcffaaaDoor
