/-
  What Spans returns, in the package window and in its reference, whatever comes in.
-/
import Derived.Test.YtmapkiefmbgdoabDoorWinS
import Derived.Test.YtmapkiefmbgdoabDoorWinQ
namespace Go.Proofs.YtmapkiefmbgdoabDoor
open Go.RowKit Go.Shelf
set_option linter.unusedVariables false

set_option maxRecDepth 100000 in
set_option maxHeartbeats 8000000 in
theorem spans_bad (d s e f u o : Int) (sm : Bool) (F T : Int) (w : World) (hT : Tab w) (hus : usB d s e f u o = false) :
    Calls Tryd.prog 9 #[.agg #[.int .i64 d, .int .i64 s, .int .i64 e, .int .i64 f, .int .i64 u], .agg #[.int .i64 o, .bool sm], .agg #[.int .i64 F, .int .i64 T]] w (GivesP w [] 1) := by
  have CU := Lib.hid (fun X hX => usable_any d s e f u o sm X hX)
  rw [hus] at CU
  clear hus
  refine (callsIn_wide (n := 5)).1 (callsIn_of_wp_marks Tryd.func9 rfl trivial ?_ rfl)
  simp only [Tryd.ntmps9, List.size_toArray, List.length_cons, List.length_nil, Nat.reduceAdd, Nat.reduceSub, Array.replicate_succ, Array.replicate_zero, List.push_toArray, List.append_toArray, List.nil_append, List.cons_append]
  have H0 := Lib.hid (b2 (b2 (b2 (b2 (b_new w (.cells #[.int .i64 d, .int .i64 s, .int .i64 e, .int .i64 f, .int .i64 u] 30)) (b_new _ (.cells #[.int .i64 o, .bool sm] 32))) (b_new _ (.cells #[.int .i64 F, .int .i64 T] 34))) (b_new _ (.cells #[.slice none 0 0] 39))) (b_new _ (.cells #[.int .i64 0] 24)))
  gi_wp2_with fail
  refine ⟨trivial, ?_⟩
  refine (callsIn_wide.2 (CU.out _ (hT.below H0.out))).mono ?_
  rintro e1 w1 ⟨rfl, h1⟩
  obtain ⟨hc1, hf1⟩ := bcell h1
  have z1 : w.heap.size + 1 + 1 + 1 + 1 < w1.heap.size := by have := h1.size; simp at this; omega
  have q2 : w.heap.size + 1 + 1 < w1.heap.size := by omega
  have q3 : w.heap.size + 1 + 1 + 1 < w1.heap.size := by omega
  have H1 := Lib.hid (b2 H0.out h1)
  clear h1
  gi_wp2_with fail
  have x6 : w1.cell? ⟨w.heap.size + 1 + 1 + 1, 0, none⟩ = some (.slice none 0 0) := by rw [hc1 _ _ (by simp)]; simp [go_sem]
  have x7 : w1.cell? ⟨w.heap.size + 1 + 1 + 1 + 1, 0, none⟩ = some (.int .i64 0) := by rw [hc1 _ _ (by simp)]; simp [go_sem]
  have k7 : (w1.setCell ⟨w.heap.size + 1 + 1 + 1, 0, none⟩ (.slice none 0 0)).cell? ⟨w.heap.size + 1 + 1 + 1 + 1, 0, none⟩ = some (.int .i64 0) := (World.cell?_of_block (set_block w1 (w.heap.size + 1 + 1 + 1) 0 _ (w.heap.size + 1 + 1 + 1 + 1) (by omega))).trans x7
  have y7 := World.cell?_setCell_same' (w1.setCell ⟨w.heap.size + 1 + 1 + 1, 0, none⟩ (.slice none 0 0)) ⟨w.heap.size + 1 + 1 + 1 + 1, 0, none⟩ (.int .i64 1) (by rw [k7]; rfl)
  have y6 : ((w1.setCell ⟨w.heap.size + 1 + 1 + 1, 0, none⟩ (.slice none 0 0)).setCell ⟨w.heap.size + 1 + 1 + 1 + 1, 0, none⟩ (.int .i64 1)).cell? ⟨w.heap.size + 1 + 1 + 1, 0, none⟩ = some (.slice none 0 0) := by
    rw [World.cell?_of_block (set_block _ (w.heap.size + 1 + 1 + 1 + 1) 0 _ (w.heap.size + 1 + 1 + 1) (by omega))]
    exact World.cell?_setCell_same' _ _ _ (by rw [x6]; rfl)
  have hb := (H1.out.setCell (p := ⟨w.heap.size + 1 + 1 + 1, 0, none⟩) (by simp; omega) (.slice none 0 0)).setCell (p := ⟨w.heap.size + 1 + 1 + 1 + 1, 0, none⟩) (by simp; omega) (.int .i64 1)
  refine ⟨.tuple #[.slice none 0 0, .int .i64 1], ?_, _, rfl, OwnP.none_ _ _ hb.size, hb⟩
  simp [results, Tryd.f9, go_sem, y6, y7]
set_option maxRecDepth 100000 in
set_option maxHeartbeats 8000000 in
theorem spans_neg (d s e f u o : Int) (sm : Bool) (F T : Int) (w : World) (hT : Tab w) (hus : usB d s e f u o = true) (hF : F < 0) :
    Calls Tryd.prog 9 #[.agg #[.int .i64 d, .int .i64 s, .int .i64 e, .int .i64 f, .int .i64 u], .agg #[.int .i64 o, .bool sm], .agg #[.int .i64 F, .int .i64 T]] w (GivesP w [] 2) := by
  have CU := Lib.hid (fun X hX => usable_any d s e f u o sm X hX)
  rw [hus] at CU
  clear hus
  refine (callsIn_wide (n := 5)).1 (callsIn_of_wp_marks Tryd.func9 rfl trivial ?_ rfl)
  simp only [Tryd.ntmps9, List.size_toArray, List.length_cons, List.length_nil, Nat.reduceAdd, Nat.reduceSub, Array.replicate_succ, Array.replicate_zero, List.push_toArray, List.append_toArray, List.nil_append, List.cons_append]
  have H0 := Lib.hid (b2 (b2 (b2 (b2 (b_new w (.cells #[.int .i64 d, .int .i64 s, .int .i64 e, .int .i64 f, .int .i64 u] 30)) (b_new _ (.cells #[.int .i64 o, .bool sm] 32))) (b_new _ (.cells #[.int .i64 F, .int .i64 T] 34))) (b_new _ (.cells #[.slice none 0 0] 39))) (b_new _ (.cells #[.int .i64 0] 24)))
  gi_wp2_with fail
  refine ⟨trivial, ?_⟩
  refine (callsIn_wide.2 (CU.out _ (hT.below H0.out))).mono ?_
  rintro e1 w1 ⟨rfl, h1⟩
  obtain ⟨hc1, hf1⟩ := bcell h1
  have z1 : w.heap.size + 1 + 1 + 1 + 1 < w1.heap.size := by have := h1.size; simp at this; omega
  have q2 : w.heap.size + 1 + 1 < w1.heap.size := by omega
  have q3 : w.heap.size + 1 + 1 + 1 < w1.heap.size := by omega
  have H1 := Lib.hid (b2 H0.out h1)
  clear h1
  gi_wp2_with fail
  have x6 : w1.cell? ⟨w.heap.size + 1 + 1 + 1, 0, none⟩ = some (.slice none 0 0) := by rw [hc1 _ _ (by simp)]; simp [go_sem]
  have x7 : w1.cell? ⟨w.heap.size + 1 + 1 + 1 + 1, 0, none⟩ = some (.int .i64 0) := by rw [hc1 _ _ (by simp)]; simp [go_sem]
  have k7 : (w1.setCell ⟨w.heap.size + 1 + 1 + 1, 0, none⟩ (.slice none 0 0)).cell? ⟨w.heap.size + 1 + 1 + 1 + 1, 0, none⟩ = some (.int .i64 0) := (World.cell?_of_block (set_block w1 (w.heap.size + 1 + 1 + 1) 0 _ (w.heap.size + 1 + 1 + 1 + 1) (by omega))).trans x7
  have y7 := World.cell?_setCell_same' (w1.setCell ⟨w.heap.size + 1 + 1 + 1, 0, none⟩ (.slice none 0 0)) ⟨w.heap.size + 1 + 1 + 1 + 1, 0, none⟩ (.int .i64 2) (by rw [k7]; rfl)
  have y6 : ((w1.setCell ⟨w.heap.size + 1 + 1 + 1, 0, none⟩ (.slice none 0 0)).setCell ⟨w.heap.size + 1 + 1 + 1 + 1, 0, none⟩ (.int .i64 2)).cell? ⟨w.heap.size + 1 + 1 + 1, 0, none⟩ = some (.slice none 0 0) := by
    rw [World.cell?_of_block (set_block _ (w.heap.size + 1 + 1 + 1 + 1) 0 _ (w.heap.size + 1 + 1 + 1) (by omega))]
    exact World.cell?_setCell_same' _ _ _ (by rw [x6]; rfl)
  have hb := (H1.out.setCell (p := ⟨w.heap.size + 1 + 1 + 1, 0, none⟩) (by simp; omega) (.slice none 0 0)).setCell (p := ⟨w.heap.size + 1 + 1 + 1 + 1, 0, none⟩) (by simp; omega) (.int .i64 2)
  refine ⟨.tuple #[.slice none 0 0, .int .i64 2], ?_, _, rfl, OwnP.none_ _ _ hb.size, hb⟩
  simp [results, Tryd.f9, go_sem, y6, y7]
set_option maxRecDepth 100000 in
set_option maxHeartbeats 8000000 in
theorem spans_turn (d s e f u o : Int) (sm : Bool) (F T : Int) (w : World) (hT : Tab w) (hus : usB d s e f u o = true) (hF : 0 ≤ F) (hT2 : T < F) :
    Calls Tryd.prog 9 #[.agg #[.int .i64 d, .int .i64 s, .int .i64 e, .int .i64 f, .int .i64 u], .agg #[.int .i64 o, .bool sm], .agg #[.int .i64 F, .int .i64 T]] w (GivesP w [] 2) := by
  have CU := Lib.hid (fun X hX => usable_any d s e f u o sm X hX)
  rw [hus] at CU
  have dF : decide (F < 0) = false := decide_eq_false (by omega)
  clear hus
  refine (callsIn_wide (n := 5)).1 (callsIn_of_wp_marks Tryd.func9 rfl trivial ?_ rfl)
  simp only [Tryd.ntmps9, List.size_toArray, List.length_cons, List.length_nil, Nat.reduceAdd, Nat.reduceSub, Array.replicate_succ, Array.replicate_zero, List.push_toArray, List.append_toArray, List.nil_append, List.cons_append]
  have H0 := Lib.hid (b2 (b2 (b2 (b2 (b_new w (.cells #[.int .i64 d, .int .i64 s, .int .i64 e, .int .i64 f, .int .i64 u] 30)) (b_new _ (.cells #[.int .i64 o, .bool sm] 32))) (b_new _ (.cells #[.int .i64 F, .int .i64 T] 34))) (b_new _ (.cells #[.slice none 0 0] 39))) (b_new _ (.cells #[.int .i64 0] 24)))
  gi_wp2_with fail
  refine ⟨trivial, ?_⟩
  refine (callsIn_wide.2 (CU.out _ (hT.below H0.out))).mono ?_
  rintro e1 w1 ⟨rfl, h1⟩
  obtain ⟨hc1, hf1⟩ := bcell h1
  have z1 : w.heap.size + 1 + 1 + 1 + 1 < w1.heap.size := by have := h1.size; simp at this; omega
  have q2 : w.heap.size + 1 + 1 < w1.heap.size := by omega
  have q3 : w.heap.size + 1 + 1 + 1 < w1.heap.size := by omega
  have H1 := Lib.hid (b2 H0.out h1)
  clear h1
  gi_wp2_with fail
  have x6 : w1.cell? ⟨w.heap.size + 1 + 1 + 1, 0, none⟩ = some (.slice none 0 0) := by rw [hc1 _ _ (by simp)]; simp [go_sem]
  have x7 : w1.cell? ⟨w.heap.size + 1 + 1 + 1 + 1, 0, none⟩ = some (.int .i64 0) := by rw [hc1 _ _ (by simp)]; simp [go_sem]
  have k7 : (w1.setCell ⟨w.heap.size + 1 + 1 + 1, 0, none⟩ (.slice none 0 0)).cell? ⟨w.heap.size + 1 + 1 + 1 + 1, 0, none⟩ = some (.int .i64 0) := (World.cell?_of_block (set_block w1 (w.heap.size + 1 + 1 + 1) 0 _ (w.heap.size + 1 + 1 + 1 + 1) (by omega))).trans x7
  have y7 := World.cell?_setCell_same' (w1.setCell ⟨w.heap.size + 1 + 1 + 1, 0, none⟩ (.slice none 0 0)) ⟨w.heap.size + 1 + 1 + 1 + 1, 0, none⟩ (.int .i64 2) (by rw [k7]; rfl)
  have y6 : ((w1.setCell ⟨w.heap.size + 1 + 1 + 1, 0, none⟩ (.slice none 0 0)).setCell ⟨w.heap.size + 1 + 1 + 1 + 1, 0, none⟩ (.int .i64 2)).cell? ⟨w.heap.size + 1 + 1 + 1, 0, none⟩ = some (.slice none 0 0) := by
    rw [World.cell?_of_block (set_block _ (w.heap.size + 1 + 1 + 1 + 1) 0 _ (w.heap.size + 1 + 1 + 1) (by omega))]
    exact World.cell?_setCell_same' _ _ _ (by rw [x6]; rfl)
  have hb := (H1.out.setCell (p := ⟨w.heap.size + 1 + 1 + 1, 0, none⟩) (by simp; omega) (.slice none 0 0)).setCell (p := ⟨w.heap.size + 1 + 1 + 1 + 1, 0, none⟩) (by simp; omega) (.int .i64 2)
  refine ⟨.tuple #[.slice none 0 0, .int .i64 2], ?_, _, rfl, OwnP.none_ _ _ hb.size, hb⟩
  simp [results, Tryd.f9, go_sem, y6, y7]
set_option maxRecDepth 100000 in
set_option maxHeartbeats 8000000 in
theorem spans_late (d s e f u o : Int) (sm : Bool) (F T : Int) (w : World) (hT : Tab w) (hus : usB d s e f u o = true) (hF : 0 ≤ F) (hT2 : F ≤ T) (hT3 : 268435456 < T) :
    Calls Tryd.prog 9 #[.agg #[.int .i64 d, .int .i64 s, .int .i64 e, .int .i64 f, .int .i64 u], .agg #[.int .i64 o, .bool sm], .agg #[.int .i64 F, .int .i64 T]] w (GivesP w [] 2) := by
  have CU := Lib.hid (fun X hX => usable_any d s e f u o sm X hX)
  rw [hus] at CU
  have dF : decide (F < 0) = false := decide_eq_false (by omega)
  have dFT : decide (T < F) = false := decide_eq_false (by omega)
  clear hus
  refine (callsIn_wide (n := 5)).1 (callsIn_of_wp_marks Tryd.func9 rfl trivial ?_ rfl)
  simp only [Tryd.ntmps9, List.size_toArray, List.length_cons, List.length_nil, Nat.reduceAdd, Nat.reduceSub, Array.replicate_succ, Array.replicate_zero, List.push_toArray, List.append_toArray, List.nil_append, List.cons_append]
  have H0 := Lib.hid (b2 (b2 (b2 (b2 (b_new w (.cells #[.int .i64 d, .int .i64 s, .int .i64 e, .int .i64 f, .int .i64 u] 30)) (b_new _ (.cells #[.int .i64 o, .bool sm] 32))) (b_new _ (.cells #[.int .i64 F, .int .i64 T] 34))) (b_new _ (.cells #[.slice none 0 0] 39))) (b_new _ (.cells #[.int .i64 0] 24)))
  gi_wp2_with fail
  refine ⟨trivial, ?_⟩
  refine (callsIn_wide.2 (CU.out _ (hT.below H0.out))).mono ?_
  rintro e1 w1 ⟨rfl, h1⟩
  obtain ⟨hc1, hf1⟩ := bcell h1
  have z1 : w.heap.size + 1 + 1 + 1 + 1 < w1.heap.size := by have := h1.size; simp at this; omega
  have q2 : w.heap.size + 1 + 1 < w1.heap.size := by omega
  have q3 : w.heap.size + 1 + 1 + 1 < w1.heap.size := by omega
  have H1 := Lib.hid (b2 H0.out h1)
  clear h1
  gi_wp2_with fail
  have x6 : w1.cell? ⟨w.heap.size + 1 + 1 + 1, 0, none⟩ = some (.slice none 0 0) := by rw [hc1 _ _ (by simp)]; simp [go_sem]
  have x7 : w1.cell? ⟨w.heap.size + 1 + 1 + 1 + 1, 0, none⟩ = some (.int .i64 0) := by rw [hc1 _ _ (by simp)]; simp [go_sem]
  have k7 : (w1.setCell ⟨w.heap.size + 1 + 1 + 1, 0, none⟩ (.slice none 0 0)).cell? ⟨w.heap.size + 1 + 1 + 1 + 1, 0, none⟩ = some (.int .i64 0) := (World.cell?_of_block (set_block w1 (w.heap.size + 1 + 1 + 1) 0 _ (w.heap.size + 1 + 1 + 1 + 1) (by omega))).trans x7
  have y7 := World.cell?_setCell_same' (w1.setCell ⟨w.heap.size + 1 + 1 + 1, 0, none⟩ (.slice none 0 0)) ⟨w.heap.size + 1 + 1 + 1 + 1, 0, none⟩ (.int .i64 2) (by rw [k7]; rfl)
  have y6 : ((w1.setCell ⟨w.heap.size + 1 + 1 + 1, 0, none⟩ (.slice none 0 0)).setCell ⟨w.heap.size + 1 + 1 + 1 + 1, 0, none⟩ (.int .i64 2)).cell? ⟨w.heap.size + 1 + 1 + 1, 0, none⟩ = some (.slice none 0 0) := by
    rw [World.cell?_of_block (set_block _ (w.heap.size + 1 + 1 + 1 + 1) 0 _ (w.heap.size + 1 + 1 + 1) (by omega))]
    exact World.cell?_setCell_same' _ _ _ (by rw [x6]; rfl)
  have hb := (H1.out.setCell (p := ⟨w.heap.size + 1 + 1 + 1, 0, none⟩) (by simp; omega) (.slice none 0 0)).setCell (p := ⟨w.heap.size + 1 + 1 + 1 + 1, 0, none⟩) (by simp; omega) (.int .i64 2)
  refine ⟨.tuple #[.slice none 0 0, .int .i64 2], ?_, _, rfl, OwnP.none_ _ _ hb.size, hb⟩
  simp [results, Tryd.f9, go_sem, y6, y7]
/-- What Spans returns, whatever comes in. -/
noncomputable def spR (d s e f u o : Int) (sm : Bool) (F T : Int) : List (Int × Int) :=
  if OkW d s e f u ∧ -840 ≤ o ∧ o ≤ 840 then (if 0 ≤ F ∧ F ≤ T ∧ T ≤ 268435456 then limP (runsL (hB d s e f u o sm) F T) else []) else []
noncomputable def spE (d s e f u o : Int) (sm : Bool) (F T : Int) : Int :=
  if OkW d s e f u ∧ -840 ≤ o ∧ o ≤ 840 then (if 0 ≤ F ∧ F ≤ T ∧ T ≤ 268435456 then limC (runsL (hB d s e f u o sm) F T) else 2) else 1
theorem spans_any (d s e f u o : Int) (sm : Bool) (F T : Int) (w : World) (hT : Tab w) : Calls Tryd.prog 9 #[.agg #[.int .i64 d, .int .i64 s, .int .i64 e, .int .i64 f, .int .i64 u], .agg #[.int .i64 o, .bool sm], .agg #[.int .i64 F, .int .i64 T]] w (GivesP w (spR d s e f u o sm F T) (spE d s e f u o sm F T)) := by
  unfold spR spE
  by_cases h : OkW d s e f u ∧ -840 ≤ o ∧ o ≤ 840
  · rw [if_pos h, if_pos h]
    by_cases ht : 0 ≤ F ∧ F ≤ T ∧ T ≤ 268435456
    · rw [if_pos ht, if_pos ht]; exact spans_yes d s e f u o sm F T w hT h.1 h.2.1 h.2.2 ht.1 ht.2.1 ht.2.2
    · rw [if_neg ht, if_neg ht]
      by_cases h1 : F < 0
      · exact spans_neg d s e f u o sm F T w hT (decide_eq_true h) h1
      · by_cases h2 : T < F
        · exact spans_turn d s e f u o sm F T w hT (decide_eq_true h) (by omega) h2
        · exact spans_late d s e f u o sm F T w hT (decide_eq_true h) (by omega) (by omega) (by omega)
  · rw [if_neg h, if_neg h]; exact spans_bad d s e f u o sm F T w hT (decide_eq_false h)
end Go.Proofs.YtmapkiefmbgdoabDoor
