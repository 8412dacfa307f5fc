/-
  What Next returns.
-/
import Derived.Test.YtmapkiefmbgdoabDoorWinJ
import Derived.Test.YtmapkiefmbgdoabDoorWinN
namespace Go.Proofs.YtmapkiefmbgdoabDoor
open Go.RowKit Go.Shelf
set_option linter.unusedVariables false
attribute [local go_sem] Oper.semAt_some

theorem edges1_any (d s e f u o F T : Int) (sm : Bool) (hs hw hz : Nat) (w : World)
    (c0 : w.cell? ⟨hs, 0, none⟩ = some (.int .i64 F)) (c1 : w.cell? ⟨hs, 1, none⟩ = some (.int .i64 T)) (bs : hs < w.heap.size) (bw : hw < w.heap.size) (bz : hz < w.heap.size)
    (w0 : w.cell? ⟨hw, 0, none⟩ = some (.int .i64 d)) (w1 : w.cell? ⟨hw, 1, none⟩ = some (.int .i64 s)) (w2 : w.cell? ⟨hw, 2, none⟩ = some (.int .i64 e)) (w3 : w.cell? ⟨hw, 3, none⟩ = some (.int .i64 f)) (w4 : w.cell? ⟨hw, 4, none⟩ = some (.int .i64 u))
    (z0 : w.cell? ⟨hz, 0, none⟩ = some (.int .i64 o)) (z1 : w.cell? ⟨hz, 1, none⟩ = some (.bool sm))
    (vs : 0 ≤ s ∧ s ≤ 1439) (ve : 0 ≤ e ∧ e ≤ 1439) (vo : -840 ≤ o ∧ o ≤ 840) (f0 : 0 ≤ F) (t1 : T ≤ 268435456) :
    SeqC Tryd.prog 42 #[.pointer (some ⟨hs, 0, none⟩), .pointer (some ⟨hw, 0, none⟩), .pointer (some ⟨hz, 0, none⟩)] (fun k => k = hs ∨ k = hw ∨ k = hz)
      (fun xs => xs = edL d s e o sm F T) (fun pre => pre <+: edL d s e o sm F T) w := by
  by_cases h : T < F
  · exact edges1_none d s e f u o F T sm hs hw hz w c0 c1 bs h
  · cases ha : alwB d s e with
    | true => exact edges1_alw d s e f u o F T sm hs hw hz w c0 c1 bs bw w0 w1 w2 w3 w4 (by omega) ha
    | false => exact edges1_days d s e f u o F T sm hs hw hz w c0 c1 bs bw bz w0 w1 w2 w3 w4 z0 z1 vs ve vo f0 t1 (by omega) ha

/-- The cells of a window and of a zone. -/
abbrev KN (h : Nat) (a0 a1 a2 a3 a4 a5 a6 : Value) (X : World) : Prop :=
  h + 1 < X.heap.size ∧ X.cell? ⟨h, 0, none⟩ = some a0 ∧ X.cell? ⟨h, 1, none⟩ = some a1 ∧ X.cell? ⟨h, 2, none⟩ = some a2 ∧ X.cell? ⟨h, 3, none⟩ = some a3 ∧ X.cell? ⟨h, 4, none⟩ = some a4 ∧ X.cell? ⟨h + 1, 0, none⟩ = some a5 ∧ X.cell? ⟨h + 1, 1, none⟩ = some a6
theorem KN.below {h : Nat} {a0 a1 a2 a3 a4 a5 a6 : Value} {X X' : World} (g : KN h a0 a1 a2 a3 a4 a5 a6 X) (b : Below X.heap.size X X') : KN h a0 a1 a2 a3 a4 a5 a6 X' := by
  obtain ⟨l0, c0, c1, c2, c3, c4, c5, c6⟩ := g
  have hc := (bcell b).1
  have l1 : h < X.heap.size := by omega
  exact ⟨Nat.lt_of_lt_of_le l0 b.size, by rw [hc _ _ l1]; exact c0, by rw [hc _ _ l1]; exact c1, by rw [hc _ _ l1]; exact c2, by rw [hc _ _ l1]; exact c3, by rw [hc _ _ l1]; exact c4, by rw [hc _ _ l0]; exact c5, by rw [hc _ _ l0]; exact c6⟩
theorem KN.draws {h : Nat} {a0 a1 a2 a3 a4 a5 a6 : Value} {X : World} (g : KN h a0 a1 a2 a3 a4 a5 a6 X) (n : Nat) : KN h a0 a1 a2 a3 a4 a5 a6 (X.drewN n) := g
theorem KN.drew {h : Nat} {a0 a1 a2 a3 a4 a5 a6 : Value} {X : World} (g : KN h a0 a1 a2 a3 a4 a5 a6 X) : KN h a0 a1 a2 a3 a4 a5 a6 X.drew := g

/-- What edges hands back, and the world then. -/
def EdW (d s e f u o F T : Int) (sm : Bool) (X w' : World) : Prop := w' = ((X.alloc (.cells #[.int .i64 d, .int .i64 s, .int .i64 e, .int .i64 f, .int .i64 u] 30)).alloc (.cells #[.int .i64 o, .bool sm] 32)).alloc (.cells #[.int .i64 F, .int .i64 T] 34)
theorem edges_two (d s e f u o F T : Int) (sm : Bool) (w : World) : Calls Tryd.prog 27 #[.agg #[.int .i64 d, .int .i64 s, .int .i64 e, .int .i64 f, .int .i64 u], .agg #[.int .i64 o, .bool sm], .agg #[.int .i64 F, .int .i64 T]] w fun e' w' =>
    e' = .returned (.func (.func 42) #[] #[.pointer (some ⟨w.heap.size + 1 + 1, 0, none⟩), .pointer (some ⟨w.heap.size, 0, none⟩), .pointer (some ⟨w.heap.size + 1, 0, none⟩)]) ∧ EdW d s e f u o F T sm w w' ∧ Below w.heap.size w w' :=
  (edges_any d s e f u o F T sm w).mono fun e' w' h => ⟨h.1, h.2, by rw [h.2]; exact b2 (b2 (b_new w _) (b_new _ _)) (b_new _ _)⟩
theorem EdW.facts {d s e f u o F T : Int} {sm : Bool} {X w' : World} (h : EdW d s e f u o F T sm X w') :
    w'.cell? ⟨X.heap.size + 1 + 1, 0, none⟩ = some (.int .i64 F) ∧ w'.cell? ⟨X.heap.size + 1 + 1, 1, none⟩ = some (.int .i64 T) ∧ KN X.heap.size (.int .i64 d) (.int .i64 s) (.int .i64 e) (.int .i64 f) (.int .i64 u) (.int .i64 o) (.bool sm) w' ∧ w'.heap.size = X.heap.size + 3 := by
  unfold EdW at h
  subst h
  refine ⟨by simp [go_sem], by simp [go_sem], ⟨by simp, ?_, ?_, ?_, ?_, ?_, ?_, ?_⟩, by simp⟩ <;> simp [go_sem]

theorem KeepsC.cell {n : Nat} {C : Nat → Prop} {A B : World} (h : KeepsC n C A B) {b i : Nat} (hb : b < n) {v : Value} (hv : A.cell? ⟨b, i, none⟩ = some v) : B.cell? ⟨b, i, none⟩ = some v :=
  (World.cell?_of_block (h.same b (World.block_lt_of_cell? A _ hv) (.inl hb))).trans hv
theorem KeepsC.frozen {n : Nat} {C : Nat → Prop} {A B : World} (h : KeepsC n C A B) {b i : Nat} (hb : b < n) {v : Value} (hv : A.cell? ⟨b, i, none⟩ = some v) : B.frozen? ⟨b, i, none⟩ = A.frozen? ⟨b, i, none⟩ :=
  World.frozen?_of_block (h.same b (World.block_lt_of_cell? A _ hv) (.inl hb))
theorem KeepsC.below {n m : Nat} {C : Nat → Prop} {w A B : World} (h : KeepsC n C A B) (hm : m ≤ n) (hs : m ≤ A.heap.size) (hb : Below m w A) : Below m w B :=
  ⟨h.os.trans hb.os, h.tape.trans hb.tape, h.output.trans hb.output, Nat.le_trans hb.size h.size, fun k hk => (h.same k (by omega) (.inl (by omega))).trans (hb.block k hk)⟩
theorem KN.keeps {h n : Nat} {C : Nat → Prop} {a0 a1 a2 a3 a4 a5 a6 : Value} {X X' : World} (g : KN h a0 a1 a2 a3 a4 a5 a6 X) (b : KeepsC n C X X') (hn : h + 1 < n) : KN h a0 a1 a2 a3 a4 a5 a6 X' := by
  obtain ⟨l0, c0, c1, c2, c3, c4, c5, c6⟩ := g
  exact ⟨Nat.lt_of_lt_of_le l0 b.size, b.cell (by omega) c0, b.cell (by omega) c1, b.cell (by omega) c2, b.cell (by omega) c3, b.cell (by omega) c4, b.cell (by omega) c5, b.cell (by omega) c6⟩
/-- What the loop of Next keeps. -/
structure NI (w : World) (q : Nat) (a0 a1 a2 a3 a4 a5 a6 b r : Value) (C : Nat → Prop) (A : World) : Prop where
  kn : KN w.heap.size a0 a1 a2 a3 a4 a5 a6 A
  held : A.cell? ⟨q, 0, none⟩ = some b
  res : A.cell? ⟨w.heap.size + 1 + 1, 0, none⟩ = some r
  free : A.frozen? ⟨w.heap.size + 1 + 1, 0, none⟩ = false
  below : Below w.heap.size w A
  cs : ∀ k, C k ↔ k = w.heap.size + 1 + 1
theorem NI.keeps {w : World} {q n : Nat} {a0 a1 a2 a3 a4 a5 a6 b r : Value} {C : Nat → Prop} {A B : World} (h : NI w q a0 a1 a2 a3 a4 a5 a6 b r C A) (k : KeepsC n C A B) (hq : q < n) (hn : w.heap.size + 1 + 1 < n) : NI w q a0 a1 a2 a3 a4 a5 a6 b r C B :=
  ⟨h.kn.keeps k (by omega), k.cell hq h.held, k.cell hn h.res, (k.frozen hn h.res).trans h.free, k.below (by omega) (by have := h.kn.1; omega) h.below, h.cs⟩

/-- What Next returns, whatever comes in. -/
noncomputable def nxI (d s e f u o : Int) (sm : Bool) (t : Int) : Int := if (OkW d s e f u ∧ -840 ≤ o ∧ o ≤ 840) ∧ 0 ≤ t ∧ t ≤ 268435456 then nxt (hB d s e f u o sm) t else -1
end Go.Proofs.YtmapkiefmbgdoabDoor
