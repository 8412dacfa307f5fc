/-
  The law WindowsDivide holds: for every input it returns true and leaves its arguments as they were, where the table of the months' lengths is as the program's text lays it.
-/
import Derived.Test.YtmapkiefmbgdoabDoorTopC
import Derived.Deep.RegionHeld3
import Derived.WalkKit
import Derived.SevenTiedAt
namespace Go.Proofs.YtmapkiefmbgdoabDoor
namespace windowsDivide
open Go.ChangeShapes Go.WideShapes Go.ChangeAt Go.RowKit
open Cal
open Top
set_option linter.unusedVariables false

set_option maxRecDepth 100000 in
set_option maxHeartbeats 8000000 in
theorem walk (v0 : Value) (l : List S.Ser.St) (d s e f u : Int) (o : Int) (sm : Bool) (F T : Int) (w : World) (Rv : S.Rd w v0 l) (wT : (Lit.int .i64 T).wf = true) (hT : Tab w) :
    Calls Tryd.prog 4 #[.agg #[v0, .int .i64 d, .int .i64 s, .int .i64 e, .int .i64 f, .int .i64 u, .int .i64 o, .bool sm, .int .i64 F, .int .i64 T]] w fun e' w' => e' = .returned (.bool true) ∧ Below w.heap.size w w' := by
  have HT := Lib.hid hT
  have RA := Lib.hid Rv
  clear hT
  obtain ⟨pv, cv, rfl, hcl, hcm, -⟩ := Rv
  have hT0 : T < 9223372036854775808 := by simp [Lit.wf] at wT; omega
  clear wT
  have K0 := Lib.hid (KV.new w (.slice pv l.length cv) (.int .i64 d) (.int .i64 s) (.int .i64 e) (.int .i64 f) (.int .i64 u) (.int .i64 o) (.bool sm) (.int .i64 F) (.int .i64 T) 36)
  by_cases q1 : 40 < l.length
  · obtain ⟨-, -, c0, c1, c2, c3, c4, c5, c6, c7, c8, c9⟩ := K0.out
    go_enter Tryd.func4, Tryd.ntmps4
    go_wp2_with fail
    go_ret
    exact ⟨rfl, K0.out.b⟩
  by_cases q2 : F < 0
  · obtain ⟨-, -, c0, c1, c2, c3, c4, c5, c6, c7, c8, c9⟩ := K0.out
    go_enter Tryd.func4, Tryd.ntmps4
    go_wp2_with fail
    go_ret
    exact ⟨rfl, K0.out.b⟩
  by_cases q3 : T < F
  · obtain ⟨-, -, c0, c1, c2, c3, c4, c5, c6, c7, c8, c9⟩ := K0.out
    go_enter Tryd.func4, Tryd.ntmps4
    go_wp2_with fail
    go_ret
    exact ⟨rfl, K0.out.b⟩
  have wTF : IntKind.i64.wrap (T - F) = T - F := by rw [IntKind.wrap_i64]; omega
  by_cases q4 : 5000 < T - F
  · obtain ⟨-, -, c0, c1, c2, c3, c4, c5, c6, c7, c8, c9⟩ := K0.out
    go_enter Tryd.func4, Tryd.ntmps4
    go_wp2_with fail
    go_ret
    exact ⟨rfl, K0.out.b⟩
  by_cases q5 : 268435456 < T
  · obtain ⟨-, -, c0, c1, c2, c3, c4, c5, c6, c7, c8, c9⟩ := K0.out
    go_enter Tryd.func4, Tryd.ntmps4
    go_wp2_with fail
    go_ret
    exact ⟨rfl, K0.out.b⟩
  have hs : 0 ≤ F ∧ F ≤ T ∧ T ≤ 268435456 := by omega
  have CV := Lib.hid (fun X hX => S.valid_any (.slice pv l.length cv) l X (by omega) hX)
  have CW := Lib.hid (fun X => valid_any d s e f u X)
  by_cases q6 : S.Ser.validE l = 0
  rotate_left
  · obtain ⟨E, hE⟩ : ∃ E, S.Ser.validE l = E := ⟨_, rfl⟩
    rw [hE] at CV q6
    have e1 : (E != 0) = true := by simpa using q6
    have e2 : (E == 0) = false := by simpa using q6
    obtain ⟨-, -, c0, c1, c2, c3, c4, c5, c6, c7, c8, c9⟩ := K0.out
    clear hE q6
    go_enter Tryd.func4, Tryd.ntmps4
    go_wp2_with fail
    clear c0 c1 c2 c3 c4 c5 c6 c7 c8 c9
    refine (CV.out _ (RA.out.below K0.out.b)).mono ?_
    rintro ea w1 ⟨rfl, g1⟩
    have K1 := Lib.hid (K0.out.below g1)
    go_wp2_with fail
    go_ret
    exact ⟨rfl, K1.out.b⟩
  rw [q6] at CV
  have ol := (S.Ser.ok_iff l).1 q6
  clear q6
  by_cases q7 : OkW d s e f u
  rotate_left
  · have hv : vW d s e f u = 1 := if_neg q7
    rw [hv] at CW
    obtain ⟨-, -, c0, c1, c2, c3, c4, c5, c6, c7, c8, c9⟩ := K0.out
    clear q7 hv
    go_enter Tryd.func4, Tryd.ntmps4
    go_wp2_with fail
    clear c0 c1 c2 c3 c4 c5 c6 c7 c8 c9
    refine (CV.out _ (RA.out.below K0.out.b)).mono ?_
    rintro ea w1 ⟨rfl, g1⟩
    have K1 := Lib.hid (K0.out.below g1)
    clear g1
    obtain ⟨-, -, c0, c1, c2, c3, c4, c5, c6, c7, c8, c9⟩ := K1.out
    go_wp2_with fail
    clear c0 c1 c2 c3 c4 c5 c6 c7 c8 c9
    refine (CW.out _).mono ?_
    rintro ea w2 ⟨rfl, g2⟩
    have K2 := Lib.hid (K1.out.below g2)
    go_wp2_with fail
    go_ret
    exact ⟨rfl, K2.out.b⟩
  have hv : vW d s e f u = 0 := if_pos q7
  rw [hv] at CW
  have OL := Lib.hid ol
  have EF := Lib.hid (fun a b h0 h1 h2 h3 => en_fit (a := a) (b := b) OL.out h0 h1 h2 h3)
  have EJ := Lib.hid (fun f m t h1 h2 => en_join (f := f) (m := m) (t := t) OL.out h1 h2)
  have CE := Lib.hid (fun a b h0 h1 h2 h3 X hX => (EF.out a b h0 h1 h2 h3).1 ▸ (EF.out a b h0 h1 h2 h3).2.1 ▸ S.energy_any (.slice pv l.length cv) l a b X (by omega) hX)
  have HN := spR_len d s e f u o sm F T
  have HR0 := Lib.hid (fun h => sp_runs (d := d) (s := s) (e := e) (f := f) (u := u) (o := o) (sm := sm) hs h)
  have CS := Lib.hid (fun X hX => spans_any d s e f u o sm F T X hX)
  have CH := Lib.hid (fun v X hX => holds_any d s e f u o sm v X hX)
  generalize spR d s e f u o sm F T = m at *
  generalize spE d s e f u o sm F T = E at *
  generalize hol d s e f u o sm = H at *
  generalize S.Ser.enR = eR at *
  clear q7 hv ol
  obtain ⟨-, -, c0, c1, c2, c3, c4, c5, c6, c7, c8, c9⟩ := K0.out
  go_enter Tryd.func4, Tryd.ntmps4
  go_wp2_with fail
  clear c0 c1 c2 c3 c4 c5 c6 c7 c8 c9
  refine (CV.out _ (RA.out.below K0.out.b)).mono ?_
  rintro ea w1 ⟨rfl, g1⟩
  have K1 := Lib.hid (K0.out.below g1)
  clear g1
  obtain ⟨-, -, c0, c1, c2, c3, c4, c5, c6, c7, c8, c9⟩ := K1.out
  go_wp2_with fail
  clear c0 c1 c2 c3 c4 c5 c6 c7 c8 c9
  refine (CW.out _).mono ?_
  rintro ea w2 ⟨rfl, g2⟩
  have K2 := Lib.hid (K1.out.below g2)
  clear g2 CV CW K0 K1 q1 q2 q3 wTF
  obtain ⟨-, -, c0, c1, c2, c3, c4, c5, c6, c7, c8, c9⟩ := K2.out
  go_wp2_with fail
  clear c0 c1 c2 c3 c4 c5 c6 c7 c8 c9
  refine (CS.out _ (HT.out.below K2.out.b)).mono ?_
  rintro ea w3 ⟨sv, rfl, r3, g3⟩
  have K3 := Lib.hid (K2.out.below g3)
  have O3 := Lib.hid (r3.mono K2.out.b.size)
  clear g3 r3 CS K2
  by_cases hE : E = 0
  rotate_left
  · have e1 : (E != 0) = true := by simpa using hE
    have e2 : (E == 0) = false := by simpa using hE
    go_wp2_with fail
    go_ret
    exact ⟨rfl, K3.out.b⟩
  have HR := Lib.hid (HR0.out hE)
  clear HR0
  subst hE
  obtain ⟨-, -, c0, c1, c2, c3, c4, c5, c6, c7, c8, c9⟩ := K3.out
  go_wp2_with fail
  clear c0 c1 c2 c3 c4 c5 c6 c7 c8 c9
  refine (CE.out F T hs.1 hs.2.1 (by omega) hs.2.2 _ (RA.out.below K3.out.b)).mono ?_
  rintro ea w4 ⟨rfl, g4⟩
  have K4 := Lib.hid (K3.out.below g4)
  have O4 := Lib.hid (O3.out.below g4)
  clear g4 K3 O3
  obtain ⟨-, -, -, -, -, -, -, -, -, -, c8, c9⟩ := K4.out
  go_wp2_with fail
  go_quiet (fail)
  clear c8 c9
  obtain ⟨W, hW⟩ : ∃ W, w4.drewN nq = W := ⟨_, rfl⟩
  have K5 := Lib.hid (K4.out.below (b_q nq (Below.refl _ _)))
  have O5 := Lib.hid (O4.out.below (b_q nq (Below.refl _ _)))
  rw [hW] at K5 O5 ⊢
  clear hW K4 O4
  have S0 := TS.of K5.out O5.out
  have C9 := K5.out.c9
  obtain ⟨i0, hi, hz0, hz1, hz2⟩ := info_parts Tryd.infoSpan
  have HE := Lib.hid (EF.out F T hs.1 hs.2.1 (by omega) hs.2.2)
  clear K5 O5
  go_wp2_with fail
  go_region_held3 (fun X => TS w (.slice pv l.length cv) (.int .i64 d) (.int .i64 s) (.int .i64 e) (.int .i64 f) (.int .i64 u) (.int .i64 o) (.bool sm) (.int .i64 F) (.int .i64 T) W.heap.size sv m X ∧ X.cell? ⟨w.heap.size, 9, none⟩ = some (.int .i64 T))
    (first
      | (exact TS.pair (by assumption))
      | (exact TS.pair (TS.drew S0))
      | (exact TS.pair (TS.drew (TS.alloc S0 _)))
      | (exact TS.pair (TS.drew (TS.alloc (TS.alloc S0 _) _)))
      | (exact TS.pair (TS.alloc hS1 _))
      | (exact TS.pair (TS.drew (TS.alloc hS1 _)))
      | (exact TS.pair (TS.drew hS1)))
    (first
      | (refine step_app _ rfl _ _ _ rfl W.heap.size 34 i0 (.agg #[.int .i64 0, .int .i64 0]) 2 16 Tryd.underlying39 hi hz0 hz1 hz2 rfl (by decide) (.slice (some ⟨W.heap.size, 0, none⟩) 0 0) (by rfl) 0 [] ((made_at W W.heap.size W.heap.size 34 rfl (Nat.le_refl _)).drew) (by intro h; cases h) sv (by rfl) m.length (spV m) (TS.src (TS.drew (TS.alloc S0 (.cells #[] 34)))) (spV_len m) (spV_one m) (by unfold maxLen; omega) (by omega) (by simp) _ rfl m.length (by omega) ?_; intro g1 cap1 w1 hown1 hgrow1 hat1 hlt1; have hS1 := TS.grow hgrow1 (TS.drew (TS.alloc S0 (.cells #[] 34))) (Nat.le_refl _); have hg1 := (hown1.lt _ rfl).1)
      | (refine step_app _ rfl _ _ _ rfl W.heap.size 34 i0 (.agg #[.int .i64 0, .int .i64 0]) 2 16 Tryd.underlying39 hi hz0 hz1 hz2 rfl (by decide) (.slice (some ⟨W.heap.size, 0, none⟩) 0 0) (by rfl) 0 [] (((made_at W W.heap.size W.heap.size 34 rfl (Nat.le_refl _)).alloc (.cells #[.int .i64 T, .int .i64 T] 34)).drew) (by intro h; cases h) sv (by rfl) m.length (spV m) (TS.src (TS.drew (TS.alloc (TS.alloc S0 (.cells #[] 34)) (.cells #[.int .i64 T, .int .i64 T] 34)))) (spV_len m) (spV_one m) (by unfold maxLen; omega) (by omega) (by simp; omega) _ rfl m.length (by omega) ?_; intro g1 cap1 w1 hown1 hgrow1 hat1 hlt1; have hS1 := TS.grow hgrow1 (TS.drew (TS.alloc (TS.alloc S0 (.cells #[] 34)) (.cells #[.int .i64 T, .int .i64 T] 34))) (Nat.le_refl _); have hg1 := (hown1.lt _ rfl).1; have hC : w1.heap[W.heap.size + 1]? = some (.cells #[.int .i64 T, .int .i64 T] 34) := (hgrow1.block (W.heap.size + 1) (by simp) (by simp [Value.ownBlock])).trans (c_new (W.alloc (.cells #[] 34)) (.cells #[.int .i64 T, .int .i64 T] 34) _ (by simp)))
      | (refine step_app _ rfl _ _ _ rfl W.heap.size 34 i0 (.agg #[.int .i64 0, .int .i64 0]) 2 16 Tryd.underlying39 hi hz0 hz1 hz2 rfl (by decide) (.slice (some ⟨W.heap.size + 1, 0, none⟩) 0 0) (by rfl) 0 [] ((made_at (W.alloc (.cells #[.int .i64 T, .int .i64 T] 34)) (W.heap.size + 1) W.heap.size 34 (by simp) (by simp)).drew) (by intro h; cases h) sv (by rfl) m.length (spV m) (TS.src (TS.drew (TS.alloc (TS.alloc S0 (.cells #[.int .i64 T, .int .i64 T] 34)) (.cells #[] 34)))) (spV_len m) (spV_one m) (by unfold maxLen; omega) (by omega) (by simp; omega) _ rfl m.length (by omega) ?_; intro g1 cap1 w1 hown1 hgrow1 hat1 hlt1; have hS1 := TS.grow hgrow1 (TS.drew (TS.alloc (TS.alloc S0 (.cells #[.int .i64 T, .int .i64 T] 34)) (.cells #[] 34))) (Nat.le_succ _); have hg1 := (hown1.lt _ rfl).1; have hC : w1.heap[W.heap.size]? = some (.cells #[.int .i64 T, .int .i64 T] 34) := (hgrow1.block W.heap.size (by simp; omega) (by simp [Value.ownBlock])).trans (c_old (W.alloc (.cells #[.int .i64 T, .int .i64 T] 34)) (.cells #[] 34) (.cells #[.int .i64 T, .int .i64 T] 34) _ (c_new W (.cells #[.int .i64 T, .int .i64 T] 34) _ rfl)))
      | (refine step_app _ rfl _ _ _ rfl W.heap.size 34 i0 (.agg #[.int .i64 0, .int .i64 0]) 2 16 Tryd.underlying39 hi hz0 hz1 hz2 rfl (by decide) (.slice (some ⟨g1, 0, none⟩) m.length cap1) (by rfl) m.length ([] ++ spV m) (hown1) (by intro h; cases h) (.slice (some ⟨W.heap.size + 1, 0, none⟩) 1 1) (by rfl) 1 [.int .i64 T, .int .i64 T] (.inr ⟨_, _, rfl, World.news_of_block (cs := #[.int .i64 T, .int .i64 T]) (t := 34) (fr := (0, 0)) hC⟩) rfl (by intro q hq; simp at hq; rcases hq with rfl | rfl <;> rfl) (by unfold maxLen; omega) (by omega) (hS1.lo) _ rfl (m.length + 1) rfl ?_; intro g2 cap2 w2 hown2 hgrow2 hat2 hlt2; have hS2 := TS.grow hgrow2 (hS1) hg1)
      | (refine step_app _ rfl _ _ _ rfl W.heap.size 34 i0 (.agg #[.int .i64 0, .int .i64 0]) 2 16 Tryd.underlying39 hi hz0 hz1 hz2 rfl (by decide) (.slice (some ⟨g1, 0, none⟩) m.length cap1) (by rfl) m.length ([] ++ spV m) (hown1) (by intro h; cases h) (.slice (some ⟨W.heap.size, 0, none⟩) 1 1) (by rfl) 1 [.int .i64 T, .int .i64 T] (.inr ⟨_, _, rfl, World.news_of_block (cs := #[.int .i64 T, .int .i64 T]) (t := 34) (fr := (0, 0)) hC⟩) rfl (by intro q hq; simp at hq; rcases hq with rfl | rfl <;> rfl) (by unfold maxLen; omega) (by omega) (hS1.lo) _ rfl (m.length + 1) rfl ?_; intro g2 cap2 w2 hown2 hgrow2 hat2 hlt2; have hS2 := TS.grow hgrow2 (hS1) hg1)
      | (refine step_app _ rfl _ _ _ rfl W.heap.size 34 i0 (.agg #[.int .i64 0, .int .i64 0]) 2 16 Tryd.underlying39 hi hz0 hz1 hz2 rfl (by decide) (.slice (some ⟨g1, 0, none⟩) m.length cap1) (by rfl) m.length ([] ++ spV m) (hown1.drew) (by intro h; cases h) (.slice (some ⟨W.heap.size + 1, 0, none⟩) 1 1) (by rfl) 1 [.int .i64 T, .int .i64 T] (.inr ⟨_, _, rfl, World.news_of_block (cs := #[.int .i64 T, .int .i64 T]) (t := 34) (fr := (0, 0)) hC⟩) rfl (by intro q hq; simp at hq; rcases hq with rfl | rfl <;> rfl) (by unfold maxLen; omega) (by omega) (hS1.lo) _ rfl (m.length + 1) rfl ?_; intro g2 cap2 w2 hown2 hgrow2 hat2 hlt2; have hS2 := TS.grow hgrow2 (hS1.drew) hg1)
      | (refine step_app _ rfl _ _ _ rfl W.heap.size 34 i0 (.agg #[.int .i64 0, .int .i64 0]) 2 16 Tryd.underlying39 hi hz0 hz1 hz2 rfl (by decide) (.slice (some ⟨g1, 0, none⟩) m.length cap1) (by rfl) m.length ([] ++ spV m) (hown1.drew) (by intro h; cases h) (.slice (some ⟨W.heap.size, 0, none⟩) 1 1) (by rfl) 1 [.int .i64 T, .int .i64 T] (.inr ⟨_, _, rfl, World.news_of_block (cs := #[.int .i64 T, .int .i64 T]) (t := 34) (fr := (0, 0)) hC⟩) rfl (by intro q hq; simp at hq; rcases hq with rfl | rfl <;> rfl) (by unfold maxLen; omega) (by omega) (hS1.lo) _ rfl (m.length + 1) rfl ?_; intro g2 cap2 w2 hown2 hgrow2 hat2 hlt2; have hS2 := TS.grow hgrow2 (hS1.drew) hg1)
      | (refine step_app _ rfl _ _ _ rfl W.heap.size 34 i0 (.agg #[.int .i64 0, .int .i64 0]) 2 16 Tryd.underlying39 hi hz0 hz1 hz2 rfl (by decide) (.slice (some ⟨g1, 0, none⟩) m.length cap1) (by rfl) m.length ([] ++ spV m) ((hown1.alloc (.cells #[.int .i64 T, .int .i64 T] 34))) (by intro h; cases h) (.slice (some ⟨w1.heap.size, 0, none⟩) 1 1) (by rfl) 1 [.int .i64 T, .int .i64 T] (.inr ⟨_, _, rfl, World.news_of_block (cs := #[.int .i64 T, .int .i64 T]) (t := 34) (fr := (0, 0)) (c_new w1 (.cells #[.int .i64 T, .int .i64 T] 34) _ rfl)⟩) rfl (by intro q hq; simp at hq; rcases hq with rfl | rfl <;> rfl) (by unfold maxLen; omega) (by omega) ((hS1.alloc (.cells #[.int .i64 T, .int .i64 T] 34)).lo) _ rfl (m.length + 1) rfl ?_; intro g2 cap2 w2 hown2 hgrow2 hat2 hlt2; have hS2 := TS.grow hgrow2 (hS1.alloc (.cells #[.int .i64 T, .int .i64 T] 34)) hg1)
      | (refine step_app _ rfl _ _ _ rfl W.heap.size 34 i0 (.agg #[.int .i64 0, .int .i64 0]) 2 16 Tryd.underlying39 hi hz0 hz1 hz2 rfl (by decide) (.slice (some ⟨g1, 0, none⟩) m.length cap1) (by rfl) m.length ([] ++ spV m) ((hown1.alloc (.cells #[.int .i64 T, .int .i64 T] 34)).drew) (by intro h; cases h) (.slice (some ⟨w1.heap.size, 0, none⟩) 1 1) (by rfl) 1 [.int .i64 T, .int .i64 T] (.inr ⟨_, _, rfl, World.news_of_block (cs := #[.int .i64 T, .int .i64 T]) (t := 34) (fr := (0, 0)) (c_new w1 (.cells #[.int .i64 T, .int .i64 T] 34) _ rfl)⟩) rfl (by intro q hq; simp at hq; rcases hq with rfl | rfl <;> rfl) (by unfold maxLen; omega) (by omega) ((hS1.alloc (.cells #[.int .i64 T, .int .i64 T] 34)).lo) _ rfl (m.length + 1) rfl ?_; intro g2 cap2 w2 hown2 hgrow2 hat2 hlt2; have hS2 := TS.grow hgrow2 ((hS1.alloc (.cells #[.int .i64 T, .int .i64 T] 34)).drew) hg1)
      | fail)
  -- BEHIND
  all_goals
    have R0 := Lib.hid (at_tl hown2 hS2.lo)
    have I0 := Lib.hid (TI.mk hS2.kv R0.out)
    try clear hC
    clear hown2 hgrow2 hat2 hlt2 hS2 hown1 hgrow1 hat1 hlt1 hS1 hg1 S0 C9 R0 hi hz0 hz1 hz2
    have HTB := Lib.hid (tl_bd HR.out hs.2.1)
    have HTA := Lib.hid (fun k hk => tl_all HR.out k hk)
    have HTE := tl_end F T m
    have HTL := tl_len T m
    have EZ : eR F F l = 0 := by have := EJ.out F F F (Int.le_refl _) (Int.le_refl _); omega
    generalize tl T m = R at *
    clear HR
    go_wp2_with fail
    go_loopw [6, 7, 100] (fun y z i wr => ∃ k : Nat, k ≤ m.length + 1 ∧ i = .int .i64 k ∧ z = .int .i64 (atP F R k) ∧ y = .int .i64 (eR F (atP F R k) l) ∧ Hid (TI w (.slice pv l.length cv) (.int .i64 d) (.int .i64 s) (.int .i64 e) (.int .i64 f) (.int .i64 u) (.int .i64 o) (.bool sm) (.int .i64 F) (.int .i64 T) g2 R wr)) (fun _ _ i _ => m.length + 1 - (intOf i).toNat)
    case atStart => exact ⟨0, Nat.zero_le _, rfl, rfl, congrArg (Value.int .i64) EZ.symm, I0⟩
    case round =>
      clear I0
      obtain ⟨k, hk, rfl, rfl, rfl, IR⟩ := hrel
      by_cases hlt : k < m.length + 1
      · have hkR : k < R.length := by omega
        obtain ⟨b0, b1, b2', b3⟩ := HTB.out k hkR
        have HA := Lib.hid (HTA.out k hkR)
        have HS := Lib.hid (atP_succ F R k hkR)
        obtain ⟨g1', g2'⟩ := IR.out.row.2 k hkR
        obtain ⟨A, hA⟩ : ∃ A, atP F R k = A := ⟨_, rfl⟩
        obtain ⟨x1, e1⟩ : ∃ x, R[k].1 = x := ⟨_, rfl⟩
        obtain ⟨x2, e2⟩ : ∃ x, R[k].2 = x := ⟨_, rfl⟩
        rw [e1] at g1' b1 b2' HA
        rw [e2] at g2' b2' b3 HA HS
        rw [hA] at b0 b1
        rw [hA]
        have x0 : (wr.cell? ⟨g2, k * 2, none⟩ = some (.int .i64 x1)) := g1'
        have y0 : (wr.cell? ⟨g2, k * 2 + 1, none⟩ = some (.int .i64 x2)) := g2'
        clear g1' g2' e1 e2 hA
        have J0 := Lib.hid (show TJ w (.slice pv l.length cv) (.int .i64 d) (.int .i64 s) (.int .i64 e) (.int .i64 f) (.int .i64 u) (.int .i64 o) (.bool sm) (.int .i64 F) (.int .i64 T) g2 R wr.heap.size x1 x2 (wr.alloc (.cells #[.int .i64 x1, .int .i64 x2] 34)) from ⟨IR.out.below (b_new _ _), by simp, by simp, by simp⟩)
        have CE1 := Lib.hid (CE.out A x1 (by omega) b1 (by omega) (by omega))
        have CE2 := Lib.hid (CE.out x1 x2 (by omega) b2' (by omega) (by omega))
        have B1 := (EF.out A x1 (by omega) b1 (by omega) (by omega)).2.2
        have B2 := (EF.out x1 x2 (by omega) b2' (by omega) (by omega)).2.2
        have B3 := (EF.out F A hs.1 b0 (by omega) (by omega)).2.2
        have E1 := EJ.out F A x1 b0 b1
        have E2 := EJ.out F x1 x2 (by omega) b2'
        obtain ⟨r1, hr1⟩ : ∃ r, eR A x1 l = r := ⟨_, rfl⟩
        obtain ⟨r2, hr2⟩ : ∃ r, eR x1 x2 l = r := ⟨_, rfl⟩
        obtain ⟨r3, hr3⟩ : ∃ r, eR F A l = r := ⟨_, rfl⟩
        rw [hr1] at CE1 B1 E1
        rw [hr2] at CE2 B2 E2
        rw [hr3] at B3 E1 ⊢
        have EE := Lib.hid (show r3 + r1 + r2 = eR F x2 l by omega)
        clear E1 E2 hr1 hr2 hr3
        have w1' : IntKind.i64.wrap (r3 + r1) = r3 + r1 := by rw [IntKind.wrap_i64]; omega
        have w2' : IntKind.i64.wrap (r3 + r1 + r2) = r3 + r1 + r2 := by rw [IntKind.wrap_i64]; omega
        clear B1 B2 B3 CE EF EJ
        obtain ⟨⟨⟨-, -, c0, -, -, -, -, -, -, -, -, -⟩, -⟩, -, s0, s1⟩ := J0.out
        go_wp2_with fail
        clear c0 s0 s1 x0 y0
        refine (CE1.out _ (RA.out.below J0.out.ti.kv.b)).mono ?_
        rintro ea v1 ⟨rfl, h1⟩
        have J1 := Lib.hid (J0.out.below h1)
        clear h1 CE1 J0
        obtain ⟨⟨⟨-, -, c0, -, -, -, -, -, -, -, -, -⟩, -⟩, -, s0, s1⟩ := J1.out
        go_wp2_with fail
        clear c0 s0 s1
        refine (CE2.out _ (RA.out.below J1.out.ti.kv.b)).mono ?_
        rintro ea v2 ⟨rfl, h2⟩
        have J2 := Lib.hid (J1.out.below h2)
        clear h2 CE2 J1
        obtain ⟨⟨-, -⟩, -, s0, s1⟩ := J2.out
        go_wp2_with fail
        clear s0 s1
        obtain ⟨hb, hhb⟩ : ∃ hb, wr.heap.size = hb := ⟨_, rfl⟩
        rw [hhb] at J2 ⊢
        clear hhb IR
        go_loopw [14] (fun i wq => ∃ V : Int, i = .int .i64 V ∧ x1 ≤ V ∧ V ≤ x2 ∧ Hid (TJ w (.slice pv l.length cv) (.int .i64 d) (.int .i64 s) (.int .i64 e) (.int .i64 f) (.int .i64 u) (.int .i64 o) (.bool sm) (.int .i64 F) (.int .i64 T) g2 R hb x1 x2 wq)) (fun i _ => (x2 - intOf i).toNat)
        case atStart => exact ⟨x1, rfl, Int.le_refl _, b2', J2⟩
        case round =>
          clear J2
          obtain ⟨V, rfl, z1, z2, JR⟩ := hrel
          obtain ⟨⟨⟨-, -, -, c1, c2, c3, c4, c5, c6, c7, -, -⟩, -⟩, -, s0, s1⟩ := JR.out
          by_cases hv : V < x2
          · go_wp2_with fail
            clear c1 c2 c3 c4 c5 c6 c7 s0 s1
            refine (CH.out V _ (HT.out.below JR.out.ti.kv.b)).mono ?_
            rintro ea v3 ⟨rfl, h3⟩
            have JR2 := Lib.hid (JR.out.below h3)
            clear h3
            rw [HA.out V z1 hv]
            go_wp2_with fail
            go_roundw
            case rel => exact ⟨V + 1, rfl, by omega, by omega, JR2⟩
            case measure => simp [intOf]; omega
          · obtain rfl : V = x2 := by omega
            go_wp2_with fail
            go_quiet (fail)
            clear c1 c2 c3 c4 c5 c6 c7 s0 s1 HA
            go_wp2_with fail
            go_roundw
            case rel => exact ⟨k + 1, by omega, by go_num, congrArg (Value.int .i64) HS.out.symm, by rw [HS.out, EE.out], Lib.hid (JR.out.ti.below (b_q nq (Below.refl _ _)))⟩
            case measure => simp [intOf]; omega
      · obtain rfl : k = R.length := by omega
        rw [HTE]
        clear CE EF EJ HTB HTA EZ
        go_wp2_with fail
        refine (awake_any _ (HT.out.below IR.out.kv.b)).mono ?_
        rintro ea wx ⟨rfl, gx⟩
        go_wp2_with fail
        go_ret
        exact ⟨rfl, b2 IR.out.kv.b gx⟩

set_option maxRecDepth 100000 in
theorem contract (H : Type) (enc : TypeId × Value → H) (W : World) (base : Nat) (args : Array Value) (ds gs : List (DataW H)) (before : List MemPlace)
    (hval : ∀ (j : Nat) t v, Tryd.f4.params[j]? = some t → args[j]? = some v → Value.okWide Tryd.prog W .any base t v)
    (hW : DataW.Whole enc Tryd.prog Tryd.f4.params.toList Rows.windowsDivideSpec.vars false W args.toList ds gs before) (hL : laidMetH Tryd.prog Rows.windowsDivideRow.laid W) :
    Calls Tryd.prog 4 args W fun e W' => ∃ v, e = .returned v ∧ Rows.windowsDivideSpec.post enc Tryd.prog Tryd.f4 false true false false W args v W' := by
  have hW' := hW
  obtain ⟨p, q, hA0, hV, rfl, hfz, hnd⟩ := hW
  have hA : DataW.TrodAll enc Tryd.prog W 0 (fun _ => true) true Tryd.f4.params.toList args.toList ds p := hA0
  rw [Tryd.params4] at hA hval
  obtain ⟨v0, vs0, d0, ds0, p0, q0, hargs, rfl, rfl, h0, r0⟩ := trodAll_cons hA
  obtain ⟨rfl, rfl, rfl⟩ := trodAll_nil r0
  obtain rfl : args = #[v0] := by cases args; simp_all
  obtain ⟨rfl, rfl⟩ := trodVars_none hV
  have k0' := h0
  have lt0 : ∀ x ∈ p0, x.block < W.heap.size := by obtain ⟨m, hm⟩ := k0'; exact DataW.trod_lt m _ _ _ hm
  obtain ⟨v0', l0, y0, m0, d0', k0, n0, o0, sm0, F0, T0, rfl, hR0, wT0⟩ := valued_form (hval 0 36 v0 rfl rfl) h0
  clear hA0
  simp only [List.append_nil] at hW'
  refine (walk v0' l0 y0 m0 d0' k0 n0 o0 sm0 F0 T0 W hR0 wT0 (tab_of_laid hL)).mono fun e W' ⟨he, bel⟩ => ?_
  subst he
  exact ⟨_, rfl, _, _, _, [], _, [], hW', trodAll_mk1 (shut_bool Tryd.underlying4 _), (trodAll_cons_mk (Below.trod laidOut (by kernel_rfl) (of_decide_eq_true (by kernel_rfl)) k0' bel lt0) trodAll_mk0), rfl, bel.frame _, fun h => by cases h⟩

set_option maxRecDepth 100000 in
theorem laid_met (os : Os) : laidMet Tryd.prog Rows.windowsDivideRow.laid ((laidWorld os).forCall (fun _ _ => 0) ⟨#[], #[.agg #[.slice none 0 0, .int .i64 0, .int .i64 0, .int .i64 0, .int .i64 0, .int .i64 0, .int .i64 0, .bool false, .int .i64 0, .int .i64 0]], []⟩).memory :=
  laidMet_of_run' 8 (by kernel_rfl) (by kernel_rfl)
set_option maxRecDepth 100000 in
theorem reads (os : Os) {H : Type} (enc : TypeId × Value → H) : ∃ places, DataW.whole enc Tryd.prog ((laidWorld os).forCall (fun _ _ => 0) ⟨#[], #[.agg #[.slice none 0 0, .int .i64 0, .int .i64 0, .int .i64 0, .int .i64 0, .int .i64 0, .int .i64 0, .bool false, .int .i64 0, .int .i64 0]], []⟩).memory Tryd.f4.params.toList Rows.windowsDivideSpec.vars false (#[.agg #[.slice none 0 0, .int .i64 0, .int .i64 0, .int .i64 0, .int .i64 0, .int .i64 0, .int .i64 0, .bool false, .int .i64 0, .int .i64 0]] : Array Value).toList 8 = some ([.agg [.nil, .agg [.lit (.int .i64 0), .lit (.int .i64 0), .lit (.int .i64 0), .lit (.int .i64 0), .lit (.int .i64 0)], .agg [.lit (.int .i64 0), .lit (.bool false)], .agg [.lit (.int .i64 0), .lit (.int .i64 0)]]], [], places) :=
  ⟨[], by kernel_rfl⟩

set_option maxRecDepth 100000 in
theorem lifted (os : Os) (started : os.Started) (H : Type) (enc : TypeId × Value → H) (F : Stop.Interp) :
    ReturnsInHanded {} Tryd.checked os 4 .any ((OpenSpec.ofChange Rows.windowsDivideSpec).preRow enc Tryd.prog Tryd.f4 Rows.windowsDivideRow.domain false Rows.windowsDivideRow.laid) (((OpenSpec.ofChange Rows.windowsDivideSpec).at F).post enc Tryd.prog Tryd.f4 false true false false) := by
  obtain ⟨places, hx⟩ := reads os enc
  refine returnsInHanded_of_row (C := Tryd.checked) (s := OpenSpec.ofChange Rows.windowsDivideSpec) own started (by kernel_rfl) Tryd.func4
    (witness_row_at (enc := enc) (C := Tryd.checked) false (laidWorld os) #[.agg #[.slice none 0 0, .int .i64 0, .int .i64 0, .int .i64 0, .int .i64 0, .int .i64 0, .int .i64 0, .bool false, .int .i64 0, .int .i64 0]] rfl (by kernel_rfl) (by kernel_rfl) (by kernel_rfl)
      (OpenSpec.preRow_of_cond 8 hx (by kernel_rfl) (fun k hk => by cases hk) (by kernel_rfl) (laid_met os))) ?_
  intro W base args ds gs before hval hW _ _ _ hL _ _
  exact contract H enc W base args ds gs before hval hW hL

set_option maxRecDepth 100000 in
theorem said : Rows.WindowsDivideSaid :=
  OpenClaim.holds_of_cond 4 Tryd.f4 rfl rfl rfl rfl rfl rfl rfl ⟨rfl, rfl, rfl, rfl, rfl⟩ rfl rfl rfl rfl rfl (by kernel_rfl) Tryd.func4 (by kernel_rfl)
    (of_decide_eq_true (by kernel_rfl)) (by unfold Func.isWrapper; first | (rw [if_pos (by decide +kernel)]; kernel_rfl) | (rw [if_neg (by decide +kernel)]; exact ⟨rfl, rfl⟩))
    (fun os started H enc _ F => by rw [OpenClaim.pre_eq_preRow]; exact lifted os started H enc F)

set_option maxRecDepth 100000 in
theorem plain (f : FuncId) (fn : Func) (hf : Tryd.pinned.checked.prog.funcNamed "chargenet/chargenettop.WindowsDivide" = some f) (hfn : Tryd.pinned.checked.prog.funcs[f]? = some fn) :
    true = Tryd.pinned.checked.prog.looks [] ∧ ∀ (j : Nat) t, fn.params[j]? = some t → Tryd.pinned.checked.prog.wantsStandIn t = false := by
  obtain rfl : f = 4 := Option.some.inj ((show Tryd.prog.funcNamed "chargenet/chargenettop.WindowsDivide" = some 4 by kernel_rfl).symm.trans hf) |>.symm
  obtain rfl : fn = Tryd.f4 := (Option.some.inj (Tryd.func4.symm.trans hfn)).symm
  refine ⟨by kernel_rfl, fun j t ht => ?_⟩
  rw [Tryd.params4] at ht
  have hm : t ∈ [36] := by simpa using Array.mem_of_getElem? ht
  have hall : ([36].all fun u => !Tryd.prog.wantsStandIn u) = true := by kernel_rfl
  exact (show Tryd.prog.wantsStandIn t = false by simpa using List.all_eq_true.1 hall t hm)
end windowsDivide

theorem windowsDivide_holds : Rows.WindowsDivideCardSaid :=
  Claim7.holds_tied_plain_at .later [] _ _ _ _ windowsDivide.said (fun _ h => by cases h) (by kernel_rfl) (fun _ h => by cases h) windowsDivide_row_tie rfl ⟨rfl, rfl⟩ (by kernel_rfl) rfl windowsDivide.plain (by kernel_rfl)
#print axioms windowsDivide_holds
end Go.Proofs.YtmapkiefmbgdoabDoor
