/-
  What Next returns.
-/
import Derived.Test.YtmapkiefmbgdoaaDoorWinJ
import Derived.Test.YtmapkiefmbgdoaaDoorWinN
namespace Go.Proofs.YtmapkiefmbgdoaaDoor
open Go.RowKit Go.Shelf
set_option linter.unusedVariables false
attribute [local go_sem] Oper.semAt_some

theorem edges1_any (d s e f u o F T : Int) (sm : Bool) (hs hw hz : Nat) (w : World)
    (c0 : w.cell? ⟨hs, 0, none⟩ = some (.int .i64 F)) (c1 : w.cell? ⟨hs, 1, none⟩ = some (.int .i64 T)) (bs : hs < w.heap.size) (bw : hw < w.heap.size) (bz : hz < w.heap.size)
    (w0 : w.cell? ⟨hw, 0, none⟩ = some (.int .i64 d)) (w1 : w.cell? ⟨hw, 1, none⟩ = some (.int .i64 s)) (w2 : w.cell? ⟨hw, 2, none⟩ = some (.int .i64 e)) (w3 : w.cell? ⟨hw, 3, none⟩ = some (.int .i64 f)) (w4 : w.cell? ⟨hw, 4, none⟩ = some (.int .i64 u))
    (z0 : w.cell? ⟨hz, 0, none⟩ = some (.int .i64 o)) (z1 : w.cell? ⟨hz, 1, none⟩ = some (.bool sm))
    (vs : 0 ≤ s ∧ s ≤ 1439) (ve : 0 ≤ e ∧ e ≤ 1439) (vo : -840 ≤ o ∧ o ≤ 840) (f0 : 0 ≤ F) (t1 : T ≤ 268435456) :
    SeqC Tryd.prog 56 #[.pointer (some ⟨hs, 0, none⟩), .pointer (some ⟨hw, 0, none⟩), .pointer (some ⟨hz, 0, none⟩)] (fun k => k = hs ∨ k = hw ∨ k = hz)
      (fun xs => xs = edL d s e o sm F T) (fun pre => pre <+: edL d s e o sm F T) w := by
  by_cases h : T < F
  · exact edges1_none d s e f u o F T sm hs hw hz w c0 c1 bs h
  · cases ha : alwB d s e with
    | true => exact edges1_alw d s e f u o F T sm hs hw hz w c0 c1 bs bw w0 w1 w2 w3 w4 (by omega) ha
    | false => exact edges1_days d s e f u o F T sm hs hw hz w c0 c1 bs bw bz w0 w1 w2 w3 w4 z0 z1 vs ve vo f0 t1 (by omega) ha

/-- The cells of a window and of a zone. -/
abbrev KN (h : Nat) (a0 a1 a2 a3 a4 a5 a6 : Value) (X : World) : Prop :=
  h + 1 < X.heap.size ∧ X.cell? ⟨h, 0, none⟩ = some a0 ∧ X.cell? ⟨h, 1, none⟩ = some a1 ∧ X.cell? ⟨h, 2, none⟩ = some a2 ∧ X.cell? ⟨h, 3, none⟩ = some a3 ∧ X.cell? ⟨h, 4, none⟩ = some a4 ∧ X.cell? ⟨h + 1, 0, none⟩ = some a5 ∧ X.cell? ⟨h + 1, 1, none⟩ = some a6
theorem KN.below {h : Nat} {a0 a1 a2 a3 a4 a5 a6 : Value} {X X' : World} (g : KN h a0 a1 a2 a3 a4 a5 a6 X) (b : Below X.heap.size X X') : KN h a0 a1 a2 a3 a4 a5 a6 X' := by
  obtain ⟨l0, c0, c1, c2, c3, c4, c5, c6⟩ := g
  have hc := (bcell b).1
  have l1 : h < X.heap.size := by omega
  exact ⟨Nat.lt_of_lt_of_le l0 b.size, by rw [hc _ _ l1]; exact c0, by rw [hc _ _ l1]; exact c1, by rw [hc _ _ l1]; exact c2, by rw [hc _ _ l1]; exact c3, by rw [hc _ _ l1]; exact c4, by rw [hc _ _ l0]; exact c5, by rw [hc _ _ l0]; exact c6⟩
theorem KN.draws {h : Nat} {a0 a1 a2 a3 a4 a5 a6 : Value} {X : World} (g : KN h a0 a1 a2 a3 a4 a5 a6 X) (n : Nat) : KN h a0 a1 a2 a3 a4 a5 a6 (X.drewN n) := g
theorem KN.drew {h : Nat} {a0 a1 a2 a3 a4 a5 a6 : Value} {X : World} (g : KN h a0 a1 a2 a3 a4 a5 a6 X) : KN h a0 a1 a2 a3 a4 a5 a6 X.drew := g

/-- What edges hands back, and the world then. -/
def EdW (d s e f u o F T : Int) (sm : Bool) (X w' : World) : Prop := w' = ((X.alloc (.cells #[.int .i64 d, .int .i64 s, .int .i64 e, .int .i64 f, .int .i64 u] 23)).alloc (.cells #[.int .i64 o, .bool sm] 29)).alloc (.cells #[.int .i64 F, .int .i64 T] 33)
theorem edges_two (d s e f u o F T : Int) (sm : Bool) (w : World) : Calls Tryd.prog 35 #[.agg #[.int .i64 d, .int .i64 s, .int .i64 e, .int .i64 f, .int .i64 u], .agg #[.int .i64 o, .bool sm], .agg #[.int .i64 F, .int .i64 T]] w fun e' w' =>
    e' = .returned (.func (.func 56) #[] #[.pointer (some ⟨w.heap.size + 1 + 1, 0, none⟩), .pointer (some ⟨w.heap.size, 0, none⟩), .pointer (some ⟨w.heap.size + 1, 0, none⟩)]) ∧ EdW d s e f u o F T sm w w' ∧ Below w.heap.size w w' :=
  (edges_any d s e f u o F T sm w).mono fun e' w' h => ⟨h.1, h.2, by rw [h.2]; exact b2 (b2 (b_new w _) (b_new _ _)) (b_new _ _)⟩
theorem EdW.facts {d s e f u o F T : Int} {sm : Bool} {X w' : World} (h : EdW d s e f u o F T sm X w') :
    w'.cell? ⟨X.heap.size + 1 + 1, 0, none⟩ = some (.int .i64 F) ∧ w'.cell? ⟨X.heap.size + 1 + 1, 1, none⟩ = some (.int .i64 T) ∧ KN X.heap.size (.int .i64 d) (.int .i64 s) (.int .i64 e) (.int .i64 f) (.int .i64 u) (.int .i64 o) (.bool sm) w' ∧ w'.heap.size = X.heap.size + 3 := by
  unfold EdW at h
  subst h
  refine ⟨by simp [go_sem], by simp [go_sem], ⟨by simp, ?_, ?_, ?_, ?_, ?_, ?_, ?_⟩, by simp⟩ <;> simp [go_sem]

theorem KeepsC.cell {n : Nat} {C : Nat → Prop} {A B : World} (h : KeepsC n C A B) {b i : Nat} (hb : b < n) {v : Value} (hv : A.cell? ⟨b, i, none⟩ = some v) : B.cell? ⟨b, i, none⟩ = some v :=
  (World.cell?_of_block (h.same b (World.block_lt_of_cell? A _ hv) (.inl hb))).trans hv
theorem KeepsC.frozen {n : Nat} {C : Nat → Prop} {A B : World} (h : KeepsC n C A B) {b i : Nat} (hb : b < n) {v : Value} (hv : A.cell? ⟨b, i, none⟩ = some v) : B.frozen? ⟨b, i, none⟩ = A.frozen? ⟨b, i, none⟩ :=
  World.frozen?_of_block (h.same b (World.block_lt_of_cell? A _ hv) (.inl hb))
theorem KeepsC.below {n m : Nat} {C : Nat → Prop} {w A B : World} (h : KeepsC n C A B) (hm : m ≤ n) (hs : m ≤ A.heap.size) (hb : Below m w A) : Below m w B :=
  ⟨h.os.trans hb.os, h.tape.trans hb.tape, h.output.trans hb.output, Nat.le_trans hb.size h.size, fun k hk => (h.same k (by omega) (.inl (by omega))).trans (hb.block k hk)⟩
theorem KN.keeps {h n : Nat} {C : Nat → Prop} {a0 a1 a2 a3 a4 a5 a6 : Value} {X X' : World} (g : KN h a0 a1 a2 a3 a4 a5 a6 X) (b : KeepsC n C X X') (hn : h + 1 < n) : KN h a0 a1 a2 a3 a4 a5 a6 X' := by
  obtain ⟨l0, c0, c1, c2, c3, c4, c5, c6⟩ := g
  exact ⟨Nat.lt_of_lt_of_le l0 b.size, b.cell (by omega) c0, b.cell (by omega) c1, b.cell (by omega) c2, b.cell (by omega) c3, b.cell (by omega) c4, b.cell (by omega) c5, b.cell (by omega) c6⟩
/-- What the loop of Next keeps. -/
structure NI (w : World) (q : Nat) (a0 a1 a2 a3 a4 a5 a6 b r : Value) (C : Nat → Prop) (A : World) : Prop where
  kn : KN w.heap.size a0 a1 a2 a3 a4 a5 a6 A
  held : A.cell? ⟨q, 0, none⟩ = some b
  res : A.cell? ⟨w.heap.size + 1 + 1, 0, none⟩ = some r
  free : A.frozen? ⟨w.heap.size + 1 + 1, 0, none⟩ = false
  below : Below w.heap.size w A
  cs : ∀ k, C k ↔ k = w.heap.size + 1 + 1
theorem NI.keeps {w : World} {q n : Nat} {a0 a1 a2 a3 a4 a5 a6 b r : Value} {C : Nat → Prop} {A B : World} (h : NI w q a0 a1 a2 a3 a4 a5 a6 b r C A) (k : KeepsC n C A B) (hq : q < n) (hn : w.heap.size + 1 + 1 < n) : NI w q a0 a1 a2 a3 a4 a5 a6 b r C B :=
  ⟨h.kn.keeps k (by omega), k.cell hq h.held, k.cell hn h.res, (k.frozen hn h.res).trans h.free, k.below (by omega) (by have := h.kn.1; omega) h.below, h.cs⟩

set_option maxRecDepth 100000 in
set_option maxHeartbeats 8000000 in
theorem next_yes (d s e f u o : Int) (sm : Bool) (t : Int) (w : World) (hT : Tab w) (hok : OkW d s e f u) (o0 : -840 ≤ o) (o1 : o ≤ 840) (t0 : 0 ≤ t) (t1 : t ≤ 268435456) :
    Calls Tryd.prog 16 #[.agg #[.int .i64 d, .int .i64 s, .int .i64 e, .int .i64 f, .int .i64 u], .agg #[.int .i64 o, .bool sm], .int .i64 t] w fun e' w' =>
      e' = .returned (.int .i64 (nxt (hB d s e f u o sm) t)) ∧ Below w.heap.size w w' := by
  have CU := Lib.hid (fun X hX => usable_any d s e f u o sm X hX)
  have hus : usB d s e f u o = true := decide_eq_true ⟨hok, o0, o1⟩
  rw [hus] at CU
  have CT := Lib.hid (fun X => wTime_yes t X t0 t1)
  have CH := Lib.hid (fun X hX => holds_any d s e f u o sm t X hX)
  rw [hol_yes ⟨hok, o0, o1⟩] at CH
  clear hus
  obtain ⟨hd0, hs0, he0, hf0, hu0⟩ := hok
  refine (callsIn_wide (n := 5)).1 (callsIn_of_wp_marks Tryd.func16 rfl trivial ?_ rfl)
  simp only [Tryd.ntmps16, List.size_toArray, List.length_cons, List.length_nil, Nat.reduceAdd, Nat.reduceSub, Array.replicate_succ, Array.replicate_zero, List.push_toArray, List.append_toArray, List.nil_append, List.cons_append]
  have H0 := Lib.hid (b2 (b2 (b_new w (.cells #[.int .i64 d, .int .i64 s, .int .i64 e, .int .i64 f, .int .i64 u] 23)) (b_new _ (.cells #[.int .i64 o, .bool sm] 29))) (b_new _ (.cells #[.int .i64 0] 3)))
  gi_wp2_with fail
  refine ⟨trivial, ?_⟩
  refine (callsIn_wide.2 (CU.out _ (hT.below H0.out))).mono ?_
  rintro e1 w1 ⟨rfl, h1⟩
  obtain ⟨hc1, hf1⟩ := bcell h1
  have z1 : w.heap.size + 1 + 1 < w1.heap.size := by have := h1.size; simp at this; omega
  have q1 : w.heap.size < w1.heap.size := by omega
  have r1 : w.heap.size + 1 < w1.heap.size := by omega
  have H1 := Lib.hid (b2 H0.out h1)
  clear h1
  gi_wp2_with fail
  refine ⟨trivial, ?_⟩
  refine (callsIn_wide.2 (CT.out _)).mono ?_
  rintro e2 w2 ⟨rfl, rfl⟩
  gi_wp2_with fail
  refine ⟨trivial, ?_⟩
  refine (callsIn_wide.2 (CH.out _ (hT.below H1.out))).mono ?_
  rintro e2 w2 ⟨rfl, h2⟩
  obtain ⟨hc2, hf2⟩ := bcell h2
  have z2 : w.heap.size + 1 + 1 < w2.heap.size := by have := h2.size; omega
  have q2 : w.heap.size < w2.heap.size := by omega
  have r2 : w.heap.size + 1 < w2.heap.size := by omega
  have H2 := Lib.hid (b2 H1.out h2)
  clear h2
  obtain ⟨held, hheld⟩ : ∃ held, hB d s e f u o sm t = held := ⟨_, rfl⟩
  rw [hheld]
  have HELD := Lib.hid hheld
  clear hheld
  gi_wp2_with fail
  obtain ⟨V, hV⟩ : ∃ V, w2.alloc (.cells #[.bool held] 4) = V := ⟨_, rfl⟩
  have hVs : V.heap.size = w2.heap.size + 1 := by rw [← hV]; simp
  have S0 : w.heap.size + 1 < V.heap.size ∧ V.cell? ⟨w.heap.size, 0, none⟩ = some (.int .i64 d) ∧ V.cell? ⟨w.heap.size, 1, none⟩ = some (.int .i64 s) ∧ V.cell? ⟨w.heap.size, 2, none⟩ = some (.int .i64 e) ∧ V.cell? ⟨w.heap.size, 3, none⟩ = some (.int .i64 f) ∧ V.cell? ⟨w.heap.size, 4, none⟩ = some (.int .i64 u) ∧ V.cell? ⟨w.heap.size + 1, 0, none⟩ = some (.int .i64 o) ∧ V.cell? ⟨w.heap.size + 1, 1, none⟩ = some (.bool sm) := by
    rw [← hV]
    refine ⟨by simp; omega, ?_, ?_, ?_, ?_, ?_, ?_, ?_⟩ <;> simp [go_sem, hc2, hc1, q1, q2, r1, r2]
  have SH : V.cell? ⟨w2.heap.size, 0, none⟩ = some (.bool held) := by rw [← hV]; simp [go_sem]
  have SR : V.cell? ⟨w.heap.size + 1 + 1, 0, none⟩ = some (.int .i64 0) ∧ V.frozen? ⟨w.heap.size + 1 + 1, 0, none⟩ = false := by rw [← hV]; constructor <;> simp [go_sem, hc2, hc1, hf2, hf1, z1, z2]
  have H3 : Below w.heap.size w V := by rw [← hV]; exact b2 H2.out (b_new _ _)
  have H3 := Lib.hid H3
  rw [hV]
  have ht1 : IntKind.i64.wrap (t + 1) = t + 1 := by rw [IntKind.wrap_i64]; omega
  have CW := Lib.hid (fun X => within_any d s e f u (t + 1) 268435456 X)
  have CE := Lib.hid (fun F T X => edges_two d s e f u o F T sm X)
  have SX := Lib.hid (And.intro SH SR)
  have zq : w.heap.size + 1 + 1 < w2.heap.size := z2
  clear hV SH SR hc1 hc2 hf1 hf2 z1 z2 q1 q2 r1 r2 H2 H1 H0
  refine wpIn_wide.2 ?_
  go_region_held3 (fun X => w.heap.size + 1 < X.heap.size ∧ X.cell? ⟨w.heap.size, 0, none⟩ = some (.int .i64 d) ∧ X.cell? ⟨w.heap.size, 1, none⟩ = some (.int .i64 s) ∧ X.cell? ⟨w.heap.size, 2, none⟩ = some (.int .i64 e) ∧ X.cell? ⟨w.heap.size, 3, none⟩ = some (.int .i64 f) ∧ X.cell? ⟨w.heap.size, 4, none⟩ = some (.int .i64 u) ∧ X.cell? ⟨w.heap.size + 1, 0, none⟩ = some (.int .i64 o) ∧ X.cell? ⟨w.heap.size + 1, 1, none⟩ = some (.bool sm)) (first | assumption | exact KN.draws S0 _ | exact KN.drew (by assumption) | exact KN.below (by assumption) (by assumption))
    (first | (go_at_call 36; refine (CW.out _).mono ?_; rintro e5 w5 ⟨rfl, h5⟩) | (go_at_call 35; refine (CE.out _ _ _).mono ?_; rintro e6 w6 ⟨rfl, h6, b6⟩))
  have K6 : KN w.heap.size (.int .i64 d) (.int .i64 s) (.int .i64 e) (.int .i64 f) (.int .i64 u) (.int .i64 o) (.bool sm) w6 := by assumption
  have g5 : Below V.heap.size V w5 := ⟨h5.os, h5.tape, h5.output, h5.size, h5.block⟩
  have g6 : Below V.heap.size V w6 := b2 g5 b6
  have hV5 : V.heap.size ≤ w5.heap.size := g5.size
  obtain ⟨SH, SR, SF⟩ := SX.out
  have N6 : NI w w2.heap.size (.int .i64 d) (.int .i64 s) (.int .i64 e) (.int .i64 f) (.int .i64 u) (.int .i64 o) (.bool sm) (.bool held) (.int .i64 0) (fun k => k = w.heap.size + 1 + 1) w6 :=
    ⟨K6, (g6.cell (p := ⟨w2.heap.size, 0, none⟩) (by show w2.heap.size < _; omega)).trans SH, (g6.cell (p := ⟨w.heap.size + 1 + 1, 0, none⟩) (World.block_lt_of_cell? V _ SR)).trans SR, (g6.frozen (p := ⟨w.heap.size + 1 + 1, 0, none⟩) (World.block_lt_of_cell? V _ SR)).trans SF, b2 H3.out g6, fun k => Iff.rfl⟩
  have hr2 := World.block_lt_of_cell? V _ SR
  obtain ⟨G0, G1, ⟨_, G2, G3, G4, G5, G6, G7, G8⟩, Gs⟩ := EdW.facts h6
  have q1 : t + 1 ≤ wiF (t + 1) f := by unfold wiF; omega
  have q2 : wiT 268435456 u ≤ 268435456 := by unfold wiT; split <;> omega
  have ES := edges1_any d s e f u o (wiF (t + 1) f) (wiT 268435456 u) sm (w5.heap.size + 1 + 1) w5.heap.size (w5.heap.size + 1) w6 G0 G1 (by omega) (by omega) (by omega) G2 G3 G4 G5 G6 G7 G8 hs0 he0 ⟨o0, o1⟩ (by omega) q2
  have N6 := Lib.hid N6
  have SZ := Lib.hid (And.intro hV5 Gs)
  have hw2 : w.heap.size + 1 + 1 < w6.heap.size := by have := hr2; simp only at this; omega
  have hq2 : w2.heap.size < w6.heap.size := by omega
  have hqr : w2.heap.size ≠ w.heap.size + 1 + 1 := by omega
  have hw5 : w.heap.size + 1 + 1 < w5.heap.size := by have := hr2; simp only at this; omega
  clear K6 g5 g6 h5 h6 b6 SH SR SF hr2 G0 G1 G2 G3 G4 G5 G6 G7 G8 Gs S0 hV5 SX H3 CE CW CU CT ht1
  gi_wp2_with fail
  refine rangeFunc_C (n := 5) (by decide) (gf := 56) (lb := #[.pointer (some ⟨w5.heap.size + 1 + 1, 0, none⟩), .pointer (some ⟨w5.heap.size, 0, none⟩), .pointer (some ⟨w5.heap.size + 1, 0, none⟩)]) rfl (enters_of Tryd.func56 (by kernel_rfl) rfl)
    ES (Below.refl _ _) rfl
    (fun pre C A => (∀ y ∈ pre, hB d s e f u o sm y = held) ∧ NI w w2.heap.size (.int .i64 d) (.int .i64 s) (.int .i64 e) (.int .i64 f) (.int .i64 u) (.int .i64 o) (.bool sm) (.bool held) (.int .i64 0) C A)
    (fun c pre C A => c = .ret ∧ ∃ p x, pre = p ++ [x] ∧ (∀ y ∈ p, hB d s e f u o sm y = held) ∧ hB d s e f u o sm x ≠ held ∧ NI w w2.heap.size (.int .i64 d) (.int .i64 s) (.int .i64 e) (.int .i64 f) (.int .i64 u) (.int .i64 o) (.bool sm) (.bool held) (.int .i64 x) C A)
    (fun k => k = w.heap.size + 1 + 1)
    (by rintro k (rfl | rfl | rfl) <;> (have := SZ.out.2; omega))
    (fun pre C A h k hk => .inl (by rw [(h.2.cs k).1 hk]; exact hw2))
    (fun c pre C A h k hk => .inl (by obtain ⟨_, _, _, _, _, _, h⟩ := h; rw [(h.cs k).1 hk]; exact hw2))
    (fun pre C A B h hk => ⟨h.1, h.2.keeps hk hq2 hw2⟩)
    (fun c pre C A B h hk => by obtain ⟨a1, p, x, a2, a3, a4, h⟩ := h; exact ⟨a1, p, x, a2, a3, a4, h.keeps hk hq2 hw2⟩)
    ⟨fun y hy => by simp at hy, N6.out⟩
    (fun k hk => by subst hk; exact ⟨hw2, by omega⟩)
    ?act ?assign ?body ?done ?stop
  case assign =>
    intro m l2 x X K hK
    gi_wp2
    exact hK
  case body =>
    rintro m l2 pre C x X ⟨hy, hN⟩
    obtain ⟨l0, k0, k1, k2, k3, k4, k5, k6⟩ := hN.kn
    have kh := hN.held
    have kr := hN.res
    have kf := hN.free
    have HN := Lib.hid hN
    have HY := Lib.hid hy
    have HX := Lib.hid (fun Z hZ => holds_any d s e f u o sm x Z hZ)
    obtain ⟨bx, hbx⟩ : ∃ bx, hol d s e f u o sm x = bx := ⟨_, rfl⟩
    rw [hbx] at HX
    have HBX := Lib.hid hbx
    have lq : w2.heap.size < X.heap.size := World.block_lt_of_cell? X _ kh
    have mx : Tryd.prog.follows .mixedOrders = true := by kernel_rfl
    clear hy hN hbx
    gi_wp2_with fail
    gi_region_with_o (refine ⟨trivial, fun h => absurd h (by simp [Fence.wide]), ?_⟩; gi_at_call 14; refine (CallsIn.inRound l2 (callsIn_wide.2 (HX.out _ (hT.below HN.out.below.drew)))).mono ?_; rintro e9 W9 ⟨rfl, h9⟩; have kh9 : W9.cell? ⟨w2.heap.size, 0, none⟩ = some (.bool held) := (h9.cell (p := ⟨w2.heap.size, 0, none⟩) lq).trans kh)
    all_goals
      have g9 : Below X.heap.size X W9 := ⟨h9.os, h9.tape, h9.output, h9.size, h9.block⟩
      have l2' : w.heap.size + 1 + 1 < X.heap.size := World.block_lt_of_cell? X _ kr
      have kr9 : W9.cell? ⟨w.heap.size + 1 + 1, 0, none⟩ = some (.int .i64 0) := (g9.cell (p := ⟨w.heap.size + 1 + 1, 0, none⟩) l2').trans kr
      have kf9 : W9.frozen? ⟨w.heap.size + 1 + 1, 0, none⟩ = false := (g9.frozen (p := ⟨w.heap.size + 1 + 1, 0, none⟩) l2').trans kf
      have N9 := Lib.hid (HN.out.keeps (n := w6.heap.size) (KeepsC.of_below g9) hq2 hw2)
      have O9 := Lib.hid (KeepsO.of_below (C := C) g9)
      clear h9 g9 k0 k1 k2 k3 k4 k5 k6 kh kr kf
      by_cases hb : bx = held
      · subst hb
        cases bx <;>
        · gi_wp2_with fail
          refine ⟨C, fun k hk => .inl hk, O9.out, fun y hy => ?_, N9.out⟩
          rcases List.mem_append.1 hy with h | h
          · exact HY.out y h
          · obtain rfl : y = x := by simpa using h
            rw [← hol_yes ⟨⟨hd0, hs0, he0, hf0, hu0⟩, o0, o1⟩, HBX.out]
      · obtain rfl : bx = !held := by cases bx <;> cases held <;> simp_all
        have HB := Lib.hid hb
        clear hb
        cases held <;>
        · gi_wp2_with fail
          refine ⟨C, fun k hk => .inl hk, ?_, rfl, pre, x, rfl, HY.out, ?_, ?_⟩
          · exact ⟨O9.out.os, O9.out.tape, O9.out.output, Nat.le_trans O9.out.size (KeepsOthers.setCell _ _ _).size, fun k hk hn => (Below.heap_setCell _ _ _ _ (fun e => hn ((HN.out.cs k).2 e))).trans (O9.out.same k hk hn)⟩
          · rw [← hol_yes ⟨⟨hd0, hs0, he0, hf0, hu0⟩, o0, o1⟩, HBX.out]; exact HB.out
          · have N := N9.out
            refine ⟨?_, ?_, ?_, ?_, ?_, N.cs⟩
            · obtain ⟨b0, b1, b2', b3, b4, b5, b6, b7⟩ := N.kn
              exact ⟨Nat.lt_of_lt_of_le b0 (KeepsOthers.setCell _ _ _).size, by simp [go_sem, b1], by simp [go_sem, b2'], by simp [go_sem, b3], by simp [go_sem, b4], by simp [go_sem, b5], by simp [go_sem, b6], by simp [go_sem, b7]⟩
            · have hne : w2.heap.size ≠ w.heap.size + 1 + 1 := hqr
              exact (World.cell?_of_block (Below.heap_setCell _ _ _ _ hne)).trans N.held
            · exact World.cell?_setCell_same' _ _ _ (by rw [kr9]; rfl)
            · rw [World.frozen?_setCell]; exact kf9
            · exact N.below.setCell (p := ⟨w.heap.size + 1 + 1, 0, none⟩) (by simp; omega) _
  case done =>
    rintro D xs C X hD nD rfl ⟨hy, hN⟩ hK
    have hnx := nxt_eq t0 (nx_none (sm := sm) ⟨hd0, hs0, he0, hf0, hu0⟩ o0 o1 t0 t1 (fun y h => by rw [hy y h]; exact HELD.out.symm))
    have kr := hN.res
    have kf := hN.free
    have HNX := Lib.hid hnx
    have HK := Lib.hid hK
    have HN := Lib.hid hN
    clear hnx hK hy hN
    gi_wp2_with fail
    have hK' := (KeepsOthers.setCell X ⟨w.heap.size + 1 + 1, 0, none⟩ (.int .i64 (-1))).same D _ HK.out rfl
    refine ⟨by simp, .inl ⟨_, _, rfl, run_takeDeferred hK', ?_⟩⟩
    have hc5 := cell_kept (World.cell?_setCell_same' X ⟨w.heap.size + 1 + 1, 0, none⟩ (.int .i64 (-1)) (by rw [kr]; rfl)) (grownBy_putObj' _ D (.deferred none)) (fun r e => by cases e; exact ⟨_, hK', rfl⟩)
    refine ⟨.int .i64 (-1), ?_, by rw [HNX.out], (HN.out.below.setCell (p := ⟨w.heap.size + 1 + 1, 0, none⟩) (by simp; omega) _).trans (belowK_b (w := w) (Nat.le_refl _) _ D _ _ (by omega) hK' rfl rfl)⟩
    simp [results, Tryd.f16, go_sem, hc5]
  case stop =>
    rintro D c pre C X hD nD hpre ⟨rfl, p, x, rfl, hy, hx, hN⟩ hK
    have hnx := nxt_eq t0 (nx_hit (sm := sm) ⟨hd0, hs0, he0, hf0, hu0⟩ o0 o1 t0 t1 hpre (by rw [HELD.out]; exact hx) (fun y h => by rw [hy y h]; exact HELD.out.symm))
    have kr := hN.res
    have HNX := Lib.hid hnx
    have HK := Lib.hid hK
    have HN := Lib.hid hN
    clear hnx hK hy hN hx
    gi_wp2_with fail
    refine ⟨by simp, .inl ⟨_, _, rfl, run_takeDeferred HK.out, ?_⟩⟩
    have hc5 := cell_kept kr (grownBy_putObj' _ D (.deferred none)) (fun r e => by cases e; exact ⟨_, HK.out, rfl⟩)
    refine ⟨.int .i64 x, ?_, by rw [HNX.out], HN.out.below.trans (belowK_b (w := w) (Nat.le_refl _) _ D _ _ (by omega) HK.out rfl rfl)⟩
    simp [results, Tryd.f16, go_sem, hc5]
set_option maxRecDepth 100000 in
set_option maxHeartbeats 4000000 in
theorem next_bad (d s e f u o : Int) (sm : Bool) (t : Int) (w : World) (hT : Tab w) (hus : usB d s e f u o = false) :
    Calls Tryd.prog 16 #[.agg #[.int .i64 d, .int .i64 s, .int .i64 e, .int .i64 f, .int .i64 u], .agg #[.int .i64 o, .bool sm], .int .i64 t] w fun e' w' =>
      e' = .returned (.int .i64 (-1)) ∧ Below w.heap.size w w' := by
  have CU := Lib.hid (fun X hX => usable_any d s e f u o sm X hX)
  rw [hus] at CU
  clear hus
  refine (callsIn_wide (n := 5)).1 (callsIn_of_wp_marks Tryd.func16 rfl trivial ?_ rfl)
  simp only [Tryd.ntmps16, List.size_toArray, List.length_cons, List.length_nil, Nat.reduceAdd, Nat.reduceSub, Array.replicate_succ, Array.replicate_zero, List.push_toArray, List.append_toArray, List.nil_append, List.cons_append]
  have H0 := Lib.hid (b2 (b2 (b_new w (.cells #[.int .i64 d, .int .i64 s, .int .i64 e, .int .i64 f, .int .i64 u] 23)) (b_new _ (.cells #[.int .i64 o, .bool sm] 29))) (b_new _ (.cells #[.int .i64 0] 3)))
  gi_wp2_with fail
  refine ⟨trivial, ?_⟩
  refine (callsIn_wide.2 (CU.out _ (hT.below H0.out))).mono ?_
  rintro e1 w1 ⟨rfl, h1⟩
  obtain ⟨hc1, hf1⟩ := bcell h1
  have z1 : w.heap.size + 1 + 1 < w1.heap.size := by have := h1.size; simp at this; omega
  have H1 := Lib.hid (b2 H0.out h1)
  clear h1
  gi_wp2_with fail
  refine ⟨trivial, ?_⟩
  gi_wp2_with fail
  have kr : w1.cell? ⟨w.heap.size + 1 + 1, 0, none⟩ = some (.int .i64 0) := by rw [hc1 _ _ (by simp)]; simp [go_sem]
  have kc := World.cell?_setCell_same' w1 ⟨w.heap.size + 1 + 1, 0, none⟩ (.int .i64 (-1)) (by rw [kr]; rfl)
  refine ⟨.int .i64 (-1), ?_, rfl, H1.out.setCell (p := ⟨w.heap.size + 1 + 1, 0, none⟩) (by simp; omega) _⟩
  simp [results, Tryd.f16, go_sem, kc]
set_option maxRecDepth 100000 in
set_option maxHeartbeats 4000000 in
theorem next_time (d s e f u o : Int) (sm : Bool) (t : Int) (w : World) (hT : Tab w) (hus : usB d s e f u o = true) (ht : t < 0 ∨ 268435456 < t) :
    Calls Tryd.prog 16 #[.agg #[.int .i64 d, .int .i64 s, .int .i64 e, .int .i64 f, .int .i64 u], .agg #[.int .i64 o, .bool sm], .int .i64 t] w fun e' w' =>
      e' = .returned (.int .i64 (-1)) ∧ Below w.heap.size w w' := by
  have CU := Lib.hid (fun X hX => usable_any d s e f u o sm X hX)
  rw [hus] at CU
  have CT := Lib.hid (fun X => wTime_no t X ht)
  clear hus
  refine (callsIn_wide (n := 5)).1 (callsIn_of_wp_marks Tryd.func16 rfl trivial ?_ rfl)
  simp only [Tryd.ntmps16, List.size_toArray, List.length_cons, List.length_nil, Nat.reduceAdd, Nat.reduceSub, Array.replicate_succ, Array.replicate_zero, List.push_toArray, List.append_toArray, List.nil_append, List.cons_append]
  have H0 := Lib.hid (b2 (b2 (b_new w (.cells #[.int .i64 d, .int .i64 s, .int .i64 e, .int .i64 f, .int .i64 u] 23)) (b_new _ (.cells #[.int .i64 o, .bool sm] 29))) (b_new _ (.cells #[.int .i64 0] 3)))
  gi_wp2_with fail
  refine ⟨trivial, ?_⟩
  refine (callsIn_wide.2 (CU.out _ (hT.below H0.out))).mono ?_
  rintro e1 w1 ⟨rfl, h1⟩
  obtain ⟨hc1, hf1⟩ := bcell h1
  have z1 : w.heap.size + 1 + 1 < w1.heap.size := by have := h1.size; simp at this; omega
  have H1 := Lib.hid (b2 H0.out h1)
  clear h1
  gi_wp2_with fail
  refine ⟨trivial, ?_⟩
  refine (callsIn_wide.2 (CT.out _)).mono ?_
  rintro e2 w2 ⟨rfl, rfl⟩
  gi_wp2_with fail
  have kr : w1.cell? ⟨w.heap.size + 1 + 1, 0, none⟩ = some (.int .i64 0) := by rw [hc1 _ _ (by simp)]; simp [go_sem]
  have kc := World.cell?_setCell_same' w1 ⟨w.heap.size + 1 + 1, 0, none⟩ (.int .i64 (-1)) (by rw [kr]; rfl)
  refine ⟨.int .i64 (-1), ?_, rfl, H1.out.setCell (p := ⟨w.heap.size + 1 + 1, 0, none⟩) (by simp; omega) _⟩
  simp [results, Tryd.f16, go_sem, kc]
/-- What Next returns, whatever comes in. -/
noncomputable def nxI (d s e f u o : Int) (sm : Bool) (t : Int) : Int := if (OkW d s e f u ∧ -840 ≤ o ∧ o ≤ 840) ∧ 0 ≤ t ∧ t ≤ 268435456 then nxt (hB d s e f u o sm) t else -1
theorem next_any (d s e f u o : Int) (sm : Bool) (t : Int) (w : World) (hT : Tab w) :
    Calls Tryd.prog 16 #[.agg #[.int .i64 d, .int .i64 s, .int .i64 e, .int .i64 f, .int .i64 u], .agg #[.int .i64 o, .bool sm], .int .i64 t] w fun e' w' =>
      e' = .returned (.int .i64 (nxI d s e f u o sm t)) ∧ Below w.heap.size w w' := by
  unfold nxI
  by_cases h : OkW d s e f u ∧ -840 ≤ o ∧ o ≤ 840
  · by_cases ht : 0 ≤ t ∧ t ≤ 268435456
    · rw [if_pos ⟨h, ht⟩]; exact next_yes d s e f u o sm t w hT h.1 h.2.1 h.2.2 ht.1 ht.2
    · rw [if_neg (fun x => ht x.2)]; exact next_time d s e f u o sm t w hT (decide_eq_true h) (by omega)
  · rw [if_neg (fun x => h x.1)]; exact next_bad d s e f u o sm t w hT (decide_eq_false h)
end Go.Proofs.YtmapkiefmbgdoaaDoor
