/-
  What Spans of the reference returns.
-/
import Derived.Test.YtmapkiefmbgdoaaDoorWinT
namespace Go.Proofs.YtmapkiefmbgdoaaDoor
open Go.RowKit
open Cal
set_option linter.unusedVariables false

theorem nxI_yes {d s e f u o : Int} {sm : Bool} {t : Int} (h : OkW d s e f u) (o0 : -840 ≤ o) (o1 : o ≤ 840) (h0 : 0 ≤ t) (h1 : t ≤ 268435456) : nxI d s e f u o sm t = nxt (hB d s e f u o sm) t := if_pos ⟨⟨h, o0, o1⟩, h0, h1⟩
def spanB (F T : Int) : Bool := decide (0 ≤ F ∧ F ≤ T ∧ T ≤ 268435456)
theorem rspan_any (F T : Int) (w : World) : Calls Tryd.prog 18 #[.agg #[.int .i64 F, .int .i64 T]] w fun e w' => e = .returned (.bool (spanB F T)) ∧ Below w.heap.size w w' := by
  by_cases h1 : 0 ≤ F
  · by_cases h2 : F ≤ T
    · have HR : Hid (spanB F T = decide (T ≤ 268435456)) := Lib.hid (by unfold spanB; simp [h1, h2])
      have d2 : decide (F ≤ T) = true := decide_eq_true h2
      go_enter Tryd.func18, Tryd.ntmps18
      go_wp2_with fail
      go_ret
      exact ⟨ret_bool HR.out.symm, b_new _ _⟩
    · have HR : Hid (spanB F T = false) := Lib.hid (decide_eq_false (fun h => h2 h.2.1))
      have d2 : decide (F ≤ T) = false := decide_eq_false h2
      go_enter Tryd.func18, Tryd.ntmps18
      go_wp2_with fail
      go_ret
      exact ⟨ret_bool HR.out.symm, b_new _ _⟩
  · have HR : Hid (spanB F T = false) := Lib.hid (decide_eq_false (fun h => h1 h.1))
    have d2 : decide (0 ≤ F) = false := decide_eq_false h1
    clear h1
    go_enter Tryd.func18, Tryd.ntmps18
    go_wp2_with fail
    go_ret
    exact ⟨ret_bool HR.out.symm, b_new _ _⟩
/-- The cells of a window, of a zone and of a span, and what lay ahead. -/
structure KT (w : World) (a0 a1 a2 a3 a4 a5 a6 b0 b1 : Value) (X : World) : Prop where
  kn : KN w.heap.size a0 a1 a2 a3 a4 a5 a6 X
  l2 : w.heap.size + 1 + 1 < X.heap.size
  c0 : X.cell? ⟨w.heap.size + 1 + 1, 0, none⟩ = some b0
  c1 : X.cell? ⟨w.heap.size + 1 + 1, 1, none⟩ = some b1
  below : Below w.heap.size w X
theorem KT.below_ {w : World} {a0 a1 a2 a3 a4 a5 a6 b0 b1 : Value} {X X' : World} (g : KT w a0 a1 a2 a3 a4 a5 a6 b0 b1 X) (b : Below X.heap.size X X') : KT w a0 a1 a2 a3 a4 a5 a6 b0 b1 X' :=
  ⟨g.kn.below b, Nat.lt_of_lt_of_le g.l2 b.size, by rw [(bcell b).1 _ _ g.l2]; exact g.c0, by rw [(bcell b).1 _ _ g.l2]; exact g.c1, b2 g.below b⟩
theorem KT.push {w : World} {a0 a1 a2 a3 a4 a5 a6 b0 b1 : Value} {X w1 : World} {o : Obj} {v : Value} {l : List (Int × Int)} (g : KT w a0 a1 a2 a3 a4 a5 a6 b0 b1 X) (ho : OwnP X (w.heap.size + 1 + 1 + 1) v l) (hg : (X.alloc o).grownBy w1 v.ownBlock) : KT w a0 a1 a2 a3 a4 a5 a6 b0 b1 w1 := by
  have hA : X.heap.size ≤ w1.heap.size := Nat.le_trans (by simp) hg.size
  have old : ∀ q, q < w.heap.size + 1 + 1 + 1 → w1.heap[q]? = X.heap[q]? := fun q hq => grown_block hg (by have := g.l2; omega) (fun e => by have := (ho.cells q e).1; omega)
  refine ⟨g.kn.blocks hA (old w.heap.size (by omega)) (old (w.heap.size + 1) (by omega)), Nat.lt_of_lt_of_le g.l2 hA, (World.cell?_of_block (old (w.heap.size + 1 + 1) (by omega))).trans g.c0, (World.cell?_of_block (old (w.heap.size + 1 + 1) (by omega))).trans g.c1, ?_⟩
  exact (g.below.alloc (by have := g.l2; omega) o).grown hg (by simp; have := g.l2; omega) (fun k e => by have := (ho.cells k e).1; omega)

set_option maxRecDepth 100000 in
set_option maxHeartbeats 8000000 in
theorem rspans_yes (d s e f u o : Int) (sm : Bool) (F T : Int) (w : World) (hok : OkW d s e f u) (o0 : -840 ≤ o) (o1 : o ≤ 840) (f0 : 0 ≤ F) (hFT : F ≤ T) (t1 : T ≤ 268435456) :
    Calls Tryd.prog 20 #[.agg #[.int .i64 d, .int .i64 s, .int .i64 e, .int .i64 f, .int .i64 u], .agg #[.int .i64 o, .bool sm], .agg #[.int .i64 F, .int .i64 T]] w (GivesP w (limP (runsL (hB d s e f u o sm) F T)) (limC (runsL (hB d s e f u o sm) F T))) := by
  obtain ⟨i0, hi, hz0, hz1, hz2⟩ := info_parts Tryd.infoSpan
  have HRN := Lib.hid (runsL_ok (spans_runs (sm := sm) hok o0 o1 f0 hFT t1))
  have CV := Lib.hid (fun X => rvalid_yes d s e f u X hok)
  have CZ := Lib.hid (fun X => refZone_yes o sm X o0 o1)
  have CS := Lib.hid (fun X => rspan_any F T X)
  have hsp : spanB F T = true := decide_eq_true ⟨f0, hFT, t1⟩
  rw [hsp] at CS
  have nxI_eq := Lib.hid (fun t (h0 : 0 ≤ t) (h1 : t ≤ 268435456) => nxI_yes (sm := sm) (t := t) hok o0 o1 h0 h1)
  have hol_eq := Lib.hid (fun x => hol_yes (t := x) (sm := sm) ⟨hok, o0, o1⟩)
  have NX := Lib.hid (fun t (h0 : 0 ≤ t) (h1 : t ≤ 268435456) => next_ex (sm := sm) hok o0 o1 h0 h1)
  clear hok o0 o1 hsp
  go_enter Tryd.func20, Tryd.ntmps20
  go_wp2_with fail
  refine (CV.out _).mono ?_
  rintro e1 w1 ⟨rfl, h1⟩
  obtain ⟨hc1, hf1⟩ := bcell h1
  have p1 : w.heap.size + 1 + 1 < w1.heap.size := by have := h1.size; (try simp at this); omega
  have q1 : w.heap.size + 1 < w1.heap.size := by omega
  have r1 : w.heap.size < w1.heap.size := by omega
  have H1 := Lib.hid (b2 (b2 (b2 (b_new w _) (b_new _ _)) (b_new _ _)) h1)
  clear h1
  go_wp2_with fail
  refine (CZ.out _).mono ?_
  rintro e2 w2 ⟨rfl, h2⟩
  obtain ⟨hc2, hf2⟩ := bcell h2
  have p2 : w.heap.size + 1 + 1 < w2.heap.size := by have := h2.size; (try simp at this); omega
  have q2 : w.heap.size + 1 < w2.heap.size := by omega
  have r2 : w.heap.size < w2.heap.size := by omega
  have H2 := Lib.hid (b2 H1.out h2)
  clear h2
  go_wp2_with fail
  refine (CS.out _).mono ?_
  rintro e3 w3 ⟨rfl, h3⟩
  obtain ⟨hc3, hf3⟩ := bcell h3
  have p3 : w.heap.size + 1 + 1 < w3.heap.size := by have := h3.size; (try simp at this); omega
  have q3 : w.heap.size + 1 < w3.heap.size := by omega
  have r3 : w.heap.size < w3.heap.size := by omega
  have H3 := Lib.hid (b2 H2.out h3)
  clear h3
  have K3 : KT w (.int .i64 d) (.int .i64 s) (.int .i64 e) (.int .i64 f) (.int .i64 u) (.int .i64 o) (.bool sm) (.int .i64 F) (.int .i64 T) w3 := by
    refine ⟨⟨q3, ?_, ?_, ?_, ?_, ?_, ?_, ?_⟩, p3, ?_, ?_, H3.out⟩ <;> simp [go_sem, hc3, hc2, hc1, p2, q2, r2, p1, q1, r1]
  have HK3 := Lib.hid K3
  have HO3 := Lib.hid (OwnP.none_ w3 (w.heap.size + 1 + 1 + 1) (by omega))
  have HP3 := Lib.hid (RPart.start (hB d s e f u o sm) F T)
  obtain ⟨⟨l0, k0, k1, k2, k3, k4, k5, k6⟩, m2, m0, m1, hbw⟩ := K3
  clear hc1 hf1 hc2 hf2 hc3 hf3 p1 q1 r1 p2 q2 r2 p3 q3 r3 H1 H2 H3
  go_wp2_with fail
  go_loopw [8, 9] (fun v x wr => ∃ (t : Int) (l : List (Int × Int)), x = .int .i64 t ∧ F ≤ t ∧ t ≤ T ∧ l.length ≤ 512 ∧ Hid (OwnP wr (w.heap.size + 1 + 1 + 1) v l) ∧ Hid (KT w (.int .i64 d) (.int .i64 s) (.int .i64 e) (.int .i64 f) (.int .i64 u) (.int .i64 o) (.bool sm) (.int .i64 F) (.int .i64 T) wr) ∧ Hid (RPart (hB d s e f u o sm) F T t l)) (fun _ x _ => (T - intOf x).toNat)
  case atStart => exact ⟨F, [], rfl, by omega, hFT, by simp, HO3, HK3, HP3⟩
  case round =>
    clear l0 k0 k1 k2 k3 k4 k5 k6 m2 m0 m1 hbw HO3 HK3 HP3
    obtain ⟨t, l, rfl, t0, t2, hlen, HO, HK, hpart⟩ := hrel
    obtain ⟨⟨l0, k0, k1, k2, k3, k4, k5, k6⟩, m2, m0, m1, hbw⟩ := HK.out
    by_cases hlt : t < T
    · have hnx := NX.out t (by omega) (by omega)
      have HRP := Lib.hid (hpart.out.next hnx (by omega) t0 hlt t1)
      obtain ⟨eb1, eb2, _, _⟩ := endI_facts hnx (by omega) hlt t1
      have CN := Lib.hid (fun X => rnext_any d s e f u o sm t X)
      have CH := Lib.hid (fun X => rholds_any d s e f u o sm t X)
      rw [nxI_eq.out t (by omega) (by omega)] at CN
      rw [hol_eq.out] at CH
      obtain ⟨bh, hbh⟩ : ∃ bh, hB d s e f u o sm t = bh := ⟨_, rfl⟩
      rw [hbh] at CH HRP
      have hbh := Lib.hid hbh
      unfold endI at HRP eb1 eb2
      obtain ⟨N, hN⟩ : ∃ N, nxt (hB d s e f u o sm) t = N := ⟨_, rfl⟩
      rw [hN] at CN HRP eb1 eb2
      clear hnx hN
      by_cases c1 : N < 0
      · rw [if_pos (.inl c1)] at HRP eb1 eb2
        go_wp2_with fail
        refine (CN.out _).mono ?_
        rintro e5 w5 ⟨rfl, h5⟩
        have K5 := HK.out.below_ h5
        have O5 := HO.out.below h5
        obtain ⟨⟨l0, k0, k1, k2, k3, k4, k5, k6⟩, m2, m0, m1, hbw⟩ := K5
        have K5 := HK.out.below_ h5
        have HK5 := Lib.hid K5
        have HO5 := Lib.hid O5
        clear h5 K5 O5
        go_wp2_with fail
        refine (CH.out _).mono ?_
        rintro e6 w6 ⟨rfl, h6⟩
        have HK6 := Lib.hid (HK5.out.below_ h6)
        have HO6 := Lib.hid (HO5.out.below h6)
        clear h6 l0 k0 k1 k2 k3 k4 k5 k6 m2 m0 m1 hbw
        cases bh with
        | false =>
          rw [if_neg (by decide)] at HRP
          go_wp2_with fail
          go_roundw
          case rel => exact ⟨T, l, rfl, by omega, by omega, hlen, HO6, HK6, HRP⟩
          case measure => simp [intOf]; omega
        | true =>
          rw [if_pos rfl] at HRP
          by_cases h512 : l.length = 512
          · have hR := (hpart.out.len HRN.out (by omega) (by omega)).2 hlt hbh.out
            have z1 : limP (runsL (hB d s e f u o sm) F T) = [] := if_neg (by omega)
            have z2 : limC (runsL (hB d s e f u o sm) F T) = 3 := if_neg (by omega)
            have Z := Lib.hid (And.intro z1 z2)
            obtain ⟨g, cap, rfl⟩ : ∃ g cap, u8 = .slice (some ⟨g, 0, none⟩) l.length cap := by
              rcases HO6.out.forms with ⟨_, e9⟩ | h9
              · rw [e9] at h512; cases h512
              · exact h9
            have e5 : ((l.length : Int) == 512) = true := by rw [h512]; rfl
            clear h512 z1 z2 hR
            go_wp2_with fail
            go_ret2
            rw [Z.out.1, Z.out.2]
            exact ⟨_, rfl, OwnP.none_ _ _ HK6.out.below.size, HK6.out.below⟩
          · have e5 : ((l.length : Int) == 512) = false := by rw [beq_eq_false_iff_ne]; omega
            have hl5 : l.length < 512 := by omega
            have hown := HO6.out.1
            have hbase := HO6.out.2
            clear h512
            rcases HO6.out.forms with ⟨rfl, hnil⟩ | ⟨g, cap, rfl⟩
            · obtain rfl : l = [] := hnil
              have e50 : ((0 : Int) == 512) = false := by decide
              go_wp2_with (at_builtin; refine wpList_append_own_at _ rfl _ _ 35 rfl (w.heap.size + 1 + 1 + 1) 33 i0 (.agg #[.int .i64 0, .int .i64 0]) 2 16 Tryd.underlying35 hi hz0 hz1 hz2 rfl (by decide) _ _ _ rfl (hown.alloc _) ⟨w6.heap.size, 0, none⟩ 1 1 [.int .i64 t, .int .i64 (T)] rfl rfl (lit_cells w6 [.int .i64 t, .int .i64 (T)] _) (by intro q hq; simp at hq; rcases hq with rfl | rfl <;> rfl) (by unfold maxLen; omega) (by omega) (le_alloc hbase _) ?_; intro v' w9 hown' hgrow0 _ hat0; have hgrow : (w6.alloc (.cells #[.int .i64 t, .int .i64 (T)] 33)).grownBy w9 (Value.slice none 0 0).ownBlock := hgrow0)
              have KP := Lib.hid (HK6.out.push HO6.out hgrow)
              have OP : OwnP w9 (w.heap.size + 1 + 1 + 1) v' ([] ++ [(t, T)]) := ⟨by rw [List.length_append, spV_snoc]; exact hown', Nat.le_trans hbase (Nat.le_trans (by simp) hgrow.size)⟩
              have OP := Lib.hid OP
              clear hown' hgrow hgrow0 hat0 hown
              go_wp2_with fail
              go_roundw
              case rel => exact ⟨T, [] ++ [(t, T)], rfl, by omega, by omega, by (try simp); (try omega), OP, KP, HRP⟩
              case measure => simp [intOf]; omega
            · go_wp2_with (at_builtin; refine wpList_append_own_at _ rfl _ _ 35 rfl (w.heap.size + 1 + 1 + 1) 33 i0 (.agg #[.int .i64 0, .int .i64 0]) 2 16 Tryd.underlying35 hi hz0 hz1 hz2 rfl (by decide) _ _ _ rfl (hown.alloc _) ⟨w6.heap.size, 0, none⟩ 1 1 [.int .i64 t, .int .i64 (T)] rfl rfl (lit_cells w6 [.int .i64 t, .int .i64 (T)] _) (by intro q hq; simp at hq; rcases hq with rfl | rfl <;> rfl) (by unfold maxLen; omega) (by omega) (le_alloc hbase _) ?_; intro v' w9 hown' hgrow0 _ hat0; have hgrow : (w6.alloc (.cells #[.int .i64 t, .int .i64 (T)] 33)).grownBy w9 (Value.slice (some ⟨g, 0, none⟩) l.length cap).ownBlock := hgrow0)
              have KP := Lib.hid (HK6.out.push HO6.out hgrow)
              have OP : OwnP w9 (w.heap.size + 1 + 1 + 1) v' (l ++ [(t, T)]) := ⟨by rw [List.length_append, spV_snoc]; exact hown', Nat.le_trans hbase (Nat.le_trans (by simp) hgrow.size)⟩
              have OP := Lib.hid OP
              clear hown' hgrow hgrow0 hat0 hown
              go_wp2_with fail
              go_roundw
              case rel => exact ⟨T, l ++ [(t, T)], rfl, by omega, by omega, by (try simp); (try omega), OP, KP, HRP⟩
              case measure => simp [intOf]; omega
      · by_cases c2 : T < N
        · rw [if_pos (.inr c2)] at HRP eb1 eb2
          have c1' : decide (N < 0) = false := decide_eq_false c1
          go_wp2_with fail
          refine (CN.out _).mono ?_
          rintro e5 w5 ⟨rfl, h5⟩
          have K5 := HK.out.below_ h5
          have O5 := HO.out.below h5
          obtain ⟨⟨l0, k0, k1, k2, k3, k4, k5, k6⟩, m2, m0, m1, hbw⟩ := K5
          have K5 := HK.out.below_ h5
          have HK5 := Lib.hid K5
          have HO5 := Lib.hid O5
          clear h5 K5 O5
          go_wp2_with fail
          refine (CH.out _).mono ?_
          rintro e6 w6 ⟨rfl, h6⟩
          have HK6 := Lib.hid (HK5.out.below_ h6)
          have HO6 := Lib.hid (HO5.out.below h6)
          clear h6 l0 k0 k1 k2 k3 k4 k5 k6 m2 m0 m1 hbw
          cases bh with
          | false =>
            rw [if_neg (by decide)] at HRP
            go_wp2_with fail
            go_roundw
            case rel => exact ⟨T, l, rfl, by omega, by omega, hlen, HO6, HK6, HRP⟩
            case measure => simp [intOf]; omega
          | true =>
            rw [if_pos rfl] at HRP
            by_cases h512 : l.length = 512
            · have hR := (hpart.out.len HRN.out (by omega) (by omega)).2 hlt hbh.out
              have z1 : limP (runsL (hB d s e f u o sm) F T) = [] := if_neg (by omega)
              have z2 : limC (runsL (hB d s e f u o sm) F T) = 3 := if_neg (by omega)
              have Z := Lib.hid (And.intro z1 z2)
              obtain ⟨g, cap, rfl⟩ : ∃ g cap, u8 = .slice (some ⟨g, 0, none⟩) l.length cap := by
                rcases HO6.out.forms with ⟨_, e9⟩ | h9
                · rw [e9] at h512; cases h512
                · exact h9
              have e5 : ((l.length : Int) == 512) = true := by rw [h512]; rfl
              clear h512 z1 z2 hR
              go_wp2_with fail
              go_ret2
              rw [Z.out.1, Z.out.2]
              exact ⟨_, rfl, OwnP.none_ _ _ HK6.out.below.size, HK6.out.below⟩
            · have e5 : ((l.length : Int) == 512) = false := by rw [beq_eq_false_iff_ne]; omega
              have hl5 : l.length < 512 := by omega
              have hown := HO6.out.1
              have hbase := HO6.out.2
              clear h512
              rcases HO6.out.forms with ⟨rfl, hnil⟩ | ⟨g, cap, rfl⟩
              · obtain rfl : l = [] := hnil
                have e50 : ((0 : Int) == 512) = false := by decide
                go_wp2_with (at_builtin; refine wpList_append_own_at _ rfl _ _ 35 rfl (w.heap.size + 1 + 1 + 1) 33 i0 (.agg #[.int .i64 0, .int .i64 0]) 2 16 Tryd.underlying35 hi hz0 hz1 hz2 rfl (by decide) _ _ _ rfl (hown.alloc _) ⟨w6.heap.size, 0, none⟩ 1 1 [.int .i64 t, .int .i64 (T)] rfl rfl (lit_cells w6 [.int .i64 t, .int .i64 (T)] _) (by intro q hq; simp at hq; rcases hq with rfl | rfl <;> rfl) (by unfold maxLen; omega) (by omega) (le_alloc hbase _) ?_; intro v' w9 hown' hgrow0 _ hat0; have hgrow : (w6.alloc (.cells #[.int .i64 t, .int .i64 (T)] 33)).grownBy w9 (Value.slice none 0 0).ownBlock := hgrow0)
                have KP := Lib.hid (HK6.out.push HO6.out hgrow)
                have OP : OwnP w9 (w.heap.size + 1 + 1 + 1) v' ([] ++ [(t, T)]) := ⟨by rw [List.length_append, spV_snoc]; exact hown', Nat.le_trans hbase (Nat.le_trans (by simp) hgrow.size)⟩
                have OP := Lib.hid OP
                clear hown' hgrow hgrow0 hat0 hown
                go_wp2_with fail
                go_roundw
                case rel => exact ⟨T, [] ++ [(t, T)], rfl, by omega, by omega, by (try simp); (try omega), OP, KP, HRP⟩
                case measure => simp [intOf]; omega
              · go_wp2_with (at_builtin; refine wpList_append_own_at _ rfl _ _ 35 rfl (w.heap.size + 1 + 1 + 1) 33 i0 (.agg #[.int .i64 0, .int .i64 0]) 2 16 Tryd.underlying35 hi hz0 hz1 hz2 rfl (by decide) _ _ _ rfl (hown.alloc _) ⟨w6.heap.size, 0, none⟩ 1 1 [.int .i64 t, .int .i64 (T)] rfl rfl (lit_cells w6 [.int .i64 t, .int .i64 (T)] _) (by intro q hq; simp at hq; rcases hq with rfl | rfl <;> rfl) (by unfold maxLen; omega) (by omega) (le_alloc hbase _) ?_; intro v' w9 hown' hgrow0 _ hat0; have hgrow : (w6.alloc (.cells #[.int .i64 t, .int .i64 (T)] 33)).grownBy w9 (Value.slice (some ⟨g, 0, none⟩) l.length cap).ownBlock := hgrow0)
                have KP := Lib.hid (HK6.out.push HO6.out hgrow)
                have OP : OwnP w9 (w.heap.size + 1 + 1 + 1) v' (l ++ [(t, T)]) := ⟨by rw [List.length_append, spV_snoc]; exact hown', Nat.le_trans hbase (Nat.le_trans (by simp) hgrow.size)⟩
                have OP := Lib.hid OP
                clear hown' hgrow hgrow0 hat0 hown
                go_wp2_with fail
                go_roundw
                case rel => exact ⟨T, l ++ [(t, T)], rfl, by omega, by omega, by (try simp); (try omega), OP, KP, HRP⟩
                case measure => simp [intOf]; omega
        · rw [if_neg (by omega)] at HRP eb1 eb2
          have c1' : decide (N < 0) = false := decide_eq_false c1
          have c2' : decide (T < N) = false := decide_eq_false c2
          clear c1 c2
          go_wp2_with fail
          refine (CN.out _).mono ?_
          rintro e5 w5 ⟨rfl, h5⟩
          have K5 := HK.out.below_ h5
          have O5 := HO.out.below h5
          obtain ⟨⟨l0, k0, k1, k2, k3, k4, k5, k6⟩, m2, m0, m1, hbw⟩ := K5
          have K5 := HK.out.below_ h5
          have HK5 := Lib.hid K5
          have HO5 := Lib.hid O5
          clear h5 K5 O5
          go_wp2_with fail
          refine (CH.out _).mono ?_
          rintro e6 w6 ⟨rfl, h6⟩
          have HK6 := Lib.hid (HK5.out.below_ h6)
          have HO6 := Lib.hid (HO5.out.below h6)
          clear h6 l0 k0 k1 k2 k3 k4 k5 k6 m2 m0 m1 hbw
          cases bh with
          | false =>
            rw [if_neg (by decide)] at HRP
            go_wp2_with fail
            go_roundw
            case rel => exact ⟨N, l, rfl, by omega, by omega, hlen, HO6, HK6, HRP⟩
            case measure => simp [intOf]; omega
          | true =>
            rw [if_pos rfl] at HRP
            by_cases h512 : l.length = 512
            · have hR := (hpart.out.len HRN.out (by omega) (by omega)).2 hlt hbh.out
              have z1 : limP (runsL (hB d s e f u o sm) F T) = [] := if_neg (by omega)
              have z2 : limC (runsL (hB d s e f u o sm) F T) = 3 := if_neg (by omega)
              have Z := Lib.hid (And.intro z1 z2)
              obtain ⟨g, cap, rfl⟩ : ∃ g cap, u8 = .slice (some ⟨g, 0, none⟩) l.length cap := by
                rcases HO6.out.forms with ⟨_, e9⟩ | h9
                · rw [e9] at h512; cases h512
                · exact h9
              have e5 : ((l.length : Int) == 512) = true := by rw [h512]; rfl
              clear h512 z1 z2 hR
              go_wp2_with fail
              go_ret2
              rw [Z.out.1, Z.out.2]
              exact ⟨_, rfl, OwnP.none_ _ _ HK6.out.below.size, HK6.out.below⟩
            · have e5 : ((l.length : Int) == 512) = false := by rw [beq_eq_false_iff_ne]; omega
              have hl5 : l.length < 512 := by omega
              have hown := HO6.out.1
              have hbase := HO6.out.2
              clear h512
              rcases HO6.out.forms with ⟨rfl, hnil⟩ | ⟨g, cap, rfl⟩
              · obtain rfl : l = [] := hnil
                have e50 : ((0 : Int) == 512) = false := by decide
                go_wp2_with (at_builtin; refine wpList_append_own_at _ rfl _ _ 35 rfl (w.heap.size + 1 + 1 + 1) 33 i0 (.agg #[.int .i64 0, .int .i64 0]) 2 16 Tryd.underlying35 hi hz0 hz1 hz2 rfl (by decide) _ _ _ rfl (hown.alloc _) ⟨w6.heap.size, 0, none⟩ 1 1 [.int .i64 t, .int .i64 (N)] rfl rfl (lit_cells w6 [.int .i64 t, .int .i64 (N)] _) (by intro q hq; simp at hq; rcases hq with rfl | rfl <;> rfl) (by unfold maxLen; omega) (by omega) (le_alloc hbase _) ?_; intro v' w9 hown' hgrow0 _ hat0; have hgrow : (w6.alloc (.cells #[.int .i64 t, .int .i64 (N)] 33)).grownBy w9 (Value.slice none 0 0).ownBlock := hgrow0)
                have KP := Lib.hid (HK6.out.push HO6.out hgrow)
                have OP : OwnP w9 (w.heap.size + 1 + 1 + 1) v' ([] ++ [(t, N)]) := ⟨by rw [List.length_append, spV_snoc]; exact hown', Nat.le_trans hbase (Nat.le_trans (by simp) hgrow.size)⟩
                have OP := Lib.hid OP
                clear hown' hgrow hgrow0 hat0 hown
                go_wp2_with fail
                go_roundw
                case rel => exact ⟨N, [] ++ [(t, N)], rfl, by omega, by omega, by (try simp); (try omega), OP, KP, HRP⟩
                case measure => simp [intOf]; omega
              · go_wp2_with (at_builtin; refine wpList_append_own_at _ rfl _ _ 35 rfl (w.heap.size + 1 + 1 + 1) 33 i0 (.agg #[.int .i64 0, .int .i64 0]) 2 16 Tryd.underlying35 hi hz0 hz1 hz2 rfl (by decide) _ _ _ rfl (hown.alloc _) ⟨w6.heap.size, 0, none⟩ 1 1 [.int .i64 t, .int .i64 (N)] rfl rfl (lit_cells w6 [.int .i64 t, .int .i64 (N)] _) (by intro q hq; simp at hq; rcases hq with rfl | rfl <;> rfl) (by unfold maxLen; omega) (by omega) (le_alloc hbase _) ?_; intro v' w9 hown' hgrow0 _ hat0; have hgrow : (w6.alloc (.cells #[.int .i64 t, .int .i64 (N)] 33)).grownBy w9 (Value.slice (some ⟨g, 0, none⟩) l.length cap).ownBlock := hgrow0)
                have KP := Lib.hid (HK6.out.push HO6.out hgrow)
                have OP : OwnP w9 (w.heap.size + 1 + 1 + 1) v' (l ++ [(t, N)]) := ⟨by rw [List.length_append, spV_snoc]; exact hown', Nat.le_trans hbase (Nat.le_trans (by simp) hgrow.size)⟩
                have OP := Lib.hid OP
                clear hown' hgrow hgrow0 hat0 hown
                go_wp2_with fail
                go_roundw
                case rel => exact ⟨N, l ++ [(t, N)], rfl, by omega, by omega, by (try simp); (try omega), OP, KP, HRP⟩
                case measure => simp [intOf]; omega
    · obtain rfl : t = T := by omega
      have hR := runsL_eq hpart.out.runs
      have z1 : limP (runsL (hB d s e f u o sm) F t) = l := by rw [hR]; exact if_pos hlen
      have z2 : limC (runsL (hB d s e f u o sm) F t) = 0 := by rw [hR]; exact if_pos hlen
      have Z := Lib.hid (And.intro z1 z2)
      clear hR z1 z2
      go_wp2_with fail
      go_ret2
      rw [Z.out.1, Z.out.2]
      exact ⟨_, rfl, HO.out.mono (by omega), hbw⟩
set_option maxRecDepth 100000 in
set_option maxHeartbeats 8000000 in
theorem rspans_bad (d s e f u o : Int) (sm : Bool) (F T : Int) (w : World) (h : ¬ OkW d s e f u) :
    Calls Tryd.prog 20 #[.agg #[.int .i64 d, .int .i64 s, .int .i64 e, .int .i64 f, .int .i64 u], .agg #[.int .i64 o, .bool sm], .agg #[.int .i64 F, .int .i64 T]] w (GivesP w [] 1) := by
  have CV := Lib.hid (fun X => rvalid_no d s e f u X h)
  clear h
  go_enter Tryd.func20, Tryd.ntmps20
  go_wp2_with fail
  refine (CV.out _).mono ?_
  rintro e1 w1 ⟨rfl, h1⟩
  obtain ⟨hc1, hf1⟩ := bcell h1
  have p1 : w.heap.size + 1 + 1 < w1.heap.size := by have := h1.size; (try simp at this); omega
  have q1 : w.heap.size + 1 < w1.heap.size := by omega
  have r1 : w.heap.size < w1.heap.size := by omega
  have H1 := Lib.hid (b2 (b2 (b2 (b_new w _) (b_new _ _)) (b_new _ _)) h1)
  clear h1
  go_wp2_with fail
  go_ret2
  exact ⟨_, rfl, OwnP.none_ _ _ H1.out.size, H1.out⟩
set_option maxRecDepth 100000 in
set_option maxHeartbeats 8000000 in
theorem rspans_zone (d s e f u o : Int) (sm : Bool) (F T : Int) (w : World) (h : OkW d s e f u) (hz : o < -840 ∨ 840 < o) :
    Calls Tryd.prog 20 #[.agg #[.int .i64 d, .int .i64 s, .int .i64 e, .int .i64 f, .int .i64 u], .agg #[.int .i64 o, .bool sm], .agg #[.int .i64 F, .int .i64 T]] w (GivesP w [] 1) := by
  have CV := Lib.hid (fun X => rvalid_yes d s e f u X h)
  have CZ := Lib.hid (fun X => refZone_no o sm X hz)
  clear h hz
  go_enter Tryd.func20, Tryd.ntmps20
  go_wp2_with fail
  refine (CV.out _).mono ?_
  rintro e1 w1 ⟨rfl, h1⟩
  obtain ⟨hc1, hf1⟩ := bcell h1
  have p1 : w.heap.size + 1 + 1 < w1.heap.size := by have := h1.size; (try simp at this); omega
  have q1 : w.heap.size + 1 < w1.heap.size := by omega
  have r1 : w.heap.size < w1.heap.size := by omega
  have H1 := Lib.hid (b2 (b2 (b2 (b_new w _) (b_new _ _)) (b_new _ _)) h1)
  clear h1
  go_wp2_with fail
  refine (CZ.out _).mono ?_
  rintro e2 w2 ⟨rfl, h2⟩
  obtain ⟨hc2, hf2⟩ := bcell h2
  have p2 : w.heap.size + 1 + 1 < w2.heap.size := by have := h2.size; (try simp at this); omega
  have q2 : w.heap.size + 1 < w2.heap.size := by omega
  have r2 : w.heap.size < w2.heap.size := by omega
  have H2 := Lib.hid (b2 H1.out h2)
  clear h2
  go_wp2_with fail
  go_ret2
  exact ⟨_, rfl, OwnP.none_ _ _ H2.out.size, H2.out⟩
set_option maxRecDepth 100000 in
set_option maxHeartbeats 8000000 in
theorem rspans_span (d s e f u o : Int) (sm : Bool) (F T : Int) (w : World) (h : OkW d s e f u) (z0 : -840 ≤ o) (z1 : o ≤ 840) (hs : spanB F T = false) :
    Calls Tryd.prog 20 #[.agg #[.int .i64 d, .int .i64 s, .int .i64 e, .int .i64 f, .int .i64 u], .agg #[.int .i64 o, .bool sm], .agg #[.int .i64 F, .int .i64 T]] w (GivesP w [] 2) := by
  have CV := Lib.hid (fun X => rvalid_yes d s e f u X h)
  have CZ := Lib.hid (fun X => refZone_yes o sm X z0 z1)
  have CS := Lib.hid (fun X => rspan_any F T X)
  rw [hs] at CS
  clear h z0 z1 hs
  go_enter Tryd.func20, Tryd.ntmps20
  go_wp2_with fail
  refine (CV.out _).mono ?_
  rintro e1 w1 ⟨rfl, h1⟩
  obtain ⟨hc1, hf1⟩ := bcell h1
  have p1 : w.heap.size + 1 + 1 < w1.heap.size := by have := h1.size; (try simp at this); omega
  have q1 : w.heap.size + 1 < w1.heap.size := by omega
  have r1 : w.heap.size < w1.heap.size := by omega
  have H1 := Lib.hid (b2 (b2 (b2 (b_new w _) (b_new _ _)) (b_new _ _)) h1)
  clear h1
  go_wp2_with fail
  refine (CZ.out _).mono ?_
  rintro e2 w2 ⟨rfl, h2⟩
  obtain ⟨hc2, hf2⟩ := bcell h2
  have p2 : w.heap.size + 1 + 1 < w2.heap.size := by have := h2.size; (try simp at this); omega
  have q2 : w.heap.size + 1 < w2.heap.size := by omega
  have r2 : w.heap.size < w2.heap.size := by omega
  have H2 := Lib.hid (b2 H1.out h2)
  clear h2
  go_wp2_with fail
  refine (CS.out _).mono ?_
  rintro e3 w3 ⟨rfl, h3⟩
  obtain ⟨hc3, hf3⟩ := bcell h3
  have p3 : w.heap.size + 1 + 1 < w3.heap.size := by have := h3.size; (try simp at this); omega
  have q3 : w.heap.size + 1 < w3.heap.size := by omega
  have r3 : w.heap.size < w3.heap.size := by omega
  have H3 := Lib.hid (b2 H2.out h3)
  clear h3
  go_wp2_with fail
  go_ret2
  exact ⟨_, rfl, OwnP.none_ _ _ H3.out.size, H3.out⟩
theorem rspans_any (d s e f u o : Int) (sm : Bool) (F T : Int) (w : World) : Calls Tryd.prog 20 #[.agg #[.int .i64 d, .int .i64 s, .int .i64 e, .int .i64 f, .int .i64 u], .agg #[.int .i64 o, .bool sm], .agg #[.int .i64 F, .int .i64 T]] w (GivesP w (spR d s e f u o sm F T) (spE d s e f u o sm F T)) := by
  unfold spR spE
  by_cases h : OkW d s e f u
  · by_cases hz : -840 ≤ o ∧ o ≤ 840
    · have hh : OkW d s e f u ∧ -840 ≤ o ∧ o ≤ 840 := ⟨h, hz⟩
      rw [if_pos hh, if_pos hh]
      by_cases ht : 0 ≤ F ∧ F ≤ T ∧ T ≤ 268435456
      · rw [if_pos ht, if_pos ht]; exact rspans_yes d s e f u o sm F T w h hz.1 hz.2 ht.1 ht.2.1 ht.2.2
      · rw [if_neg ht, if_neg ht]; exact rspans_span d s e f u o sm F T w h hz.1 hz.2 (decide_eq_false ht)
    · have hh : ¬ (OkW d s e f u ∧ -840 ≤ o ∧ o ≤ 840) := fun x => hz x.2
      rw [if_neg hh, if_neg hh]; exact rspans_zone d s e f u o sm F T w h (by omega)
  · have hh : ¬ (OkW d s e f u ∧ -840 ≤ o ∧ o ≤ 840) := fun x => h x.1
    rw [if_neg hh, if_neg hh]; exact rspans_bad d s e f u o sm F T w h
end Go.Proofs.YtmapkiefmbgdoaaDoor
