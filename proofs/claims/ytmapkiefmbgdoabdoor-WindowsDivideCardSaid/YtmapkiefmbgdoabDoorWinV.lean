/-
  Rows of spans as they are read; the examples of the chapter.
-/
import Derived.Test.YtmapkiefmbgdoabDoorWinU
import Derived.Laws.StructEq
import Derived.Tactics2
namespace Go.Proofs.YtmapkiefmbgdoabDoor
open Go.RowKit
open Cal
set_option linter.unusedVariables false

theorem spV_at : ∀ (l : List (Int × Int)) (i : Nat) (h : i < l.length), (spV l)[i * 2]? = some (.int .i64 (l[i]'h).1) ∧ (spV l)[i * 2 + 1]? = some (.int .i64 (l[i]'h).2)
  | s :: l, 0, _ => ⟨rfl, rfl⟩
  | s :: l, i + 1, h => by
    have := spV_at l i (by simpa using h)
    have e : spV (s :: l) = [.int .i64 s.1, .int .i64 s.2] ++ spV l := rfl
    rw [e, List.getElem?_append_right (by simp; omega), List.getElem?_append_right (by simp; omega)]
    have e1 : (i + 1) * 2 - ([Value.int .i64 s.1, .int .i64 s.2] : List Value).length = i * 2 := by simp; omega
    have e2 : (i + 1) * 2 + 1 - ([Value.int .i64 s.1, .int .i64 s.2] : List Value).length = i * 2 + 1 := by simp; omega
    rw [e1, e2]
    exact this
/-- The cells of a place read as a list of spans. -/
def AtP (w : World) (b : Nat) (l : List (Int × Int)) : Prop :=
  b < w.heap.size ∧ ∀ i (h : i < l.length), w.cell? ⟨b, i * 2, none⟩ = some (.int .i64 (l[i]'h).1) ∧ w.cell? ⟨b, i * 2 + 1, none⟩ = some (.int .i64 (l[i]'h).2)
/-- A value reads as a list of spans. -/
def RdP (w : World) (v : Value) (l : List (Int × Int)) : Prop :=
  ∃ (p : Option Addr) (c : Nat), v = .slice p l.length c ∧ l.length ≤ c ∧ c ≤ maxLen ∧ (l ≠ [] → ∃ b, p = some ⟨b, 0, none⟩ ∧ AtP w b l)
theorem AtP.below {w w' : World} {b : Nat} {l : List (Int × Int)} (h : AtP w b l) (hb : Below w.heap.size w w') : AtP w' b l :=
  ⟨Nat.lt_of_lt_of_le h.1 hb.size, fun i hi => by rw [(bcell hb).1 _ _ h.1, (bcell hb).1 _ _ h.1]; exact h.2 i hi⟩
theorem RdP.below {w w' : World} {v : Value} {l : List (Int × Int)} (h : RdP w v l) (hb : Below w.heap.size w w') : RdP w' v l := by
  obtain ⟨p, c, h1, h2, h3, h4⟩ := h
  exact ⟨p, c, h1, h2, h3, fun hl => by obtain ⟨b, e, ha⟩ := h4 hl; exact ⟨b, e, ha.below hb⟩⟩
theorem RdP.nil (w : World) : RdP w (.slice none 0 0) [] := ⟨none, 0, rfl, Nat.le_refl _, Nat.zero_le _, fun h => absurd rfl h⟩
theorem OwnP.rd {w : World} {B : Nat} {v : Value} {l : List (Int × Int)} (h0 : OwnP w B v l) : RdP w v l := by
  have h := h0.1
  rcases h.2 with ⟨rfl, h0⟩ | ⟨g, cap, cur, rfl, hb, hg, hn, hm, hs, hx⟩
  · have : l = [] := List.length_eq_zero_iff.1 (by assumption)
    subst this
    exact RdP.nil w
  · refine ⟨_, _, rfl, hn, hm, fun _ => ⟨g, rfl, (Array.getElem?_eq_some_iff.1 hg).1, fun i hi => ?_⟩⟩
    have hc := h.cells (g := g) rfl
    obtain ⟨e1, e2⟩ := spV_at l i hi
    have c1 := hc _ _ e1
    have c2 := hc _ _ e2
    rw [Addr.add_lit, Nat.zero_add] at c1 c2
    exact ⟨c1, c2⟩
theorem RdP.two {w : World} {v : Value} {a b c d : Int} (h : RdP w v [(a, b), (c, d)]) : ∃ g cap, v = .slice (some ⟨g, 0, none⟩) 2 cap ∧ 2 ≤ cap ∧ g < w.heap.size ∧ w.cell? ⟨g, 0, none⟩ = some (.int .i64 a) ∧ w.cell? ⟨g, 1, none⟩ = some (.int .i64 b) ∧ w.cell? ⟨g, 2, none⟩ = some (.int .i64 c) ∧ w.cell? ⟨g, 3, none⟩ = some (.int .i64 d) := by
  obtain ⟨p, c', h1, h2, h3, h4⟩ := h
  obtain ⟨g, rfl, hlt, ha⟩ := h4 (by simp)
  obtain ⟨x0, x1⟩ := ha 0 (by simp)
  obtain ⟨x2, x3⟩ := ha 1 (by simp)
  exact ⟨g, c', h1, h2, hlt, by simpa using x0, by simpa using x1, by simpa using x2, by simpa using x3⟩
theorem eq_span (a b c d : Int) (w : World) : (Op.equalIn 10000 34 (.agg #[.int .i64 a, .int .i64 b]) (.agg #[.int .i64 c, .int .i64 d])).run Tryd.prog w = .ok (a == c && b == d) w := by
  have u3 := Tryd.underlying3
  have hS : Tryd.prog.underlying 34 = some (.struct (Tryd.prog.fieldsOf 34)) := by kernel_rfl
  have hp : Tryd.prog.stoodInHeld 34 = false := by kernel_rfl
  rw [show (10000 : Nat) = 9999 + 1 from rfl, run_equalIn_agg w 9999 34 _ _ hS hp]
  simp only [Program.fieldsOf, Tryd.underlying34]
  go_simp
  by_cases h1 : a = c <;> by_cases h2 : b = d <;> simp [h1, h2]
theorem guard_span (op : BinOp) (x y : Operand) (a b : Array Value) (w : World) : (eqGuard op 34 x y (.agg a) (.agg b)).run Tryd.prog w = .ok () w := by
  have h : Tryd.prog.eqGuardType Tryd.prog.depth 34 = false := by kernel_rfl
  unfold eqGuard
  cases op <;> simp [h] <;> rfl
/-- A window that lies in a block. -/
structure KW (h : Nat) (a0 a1 a2 a3 a4 : Int) (X : World) : Prop where
  lt : h < X.heap.size
  c0 : X.cell? ⟨h, 0, none⟩ = some (.int .i64 a0)
  c1 : X.cell? ⟨h, 1, none⟩ = some (.int .i64 a1)
  c2 : X.cell? ⟨h, 2, none⟩ = some (.int .i64 a2)
  c3 : X.cell? ⟨h, 3, none⟩ = some (.int .i64 a3)
  c4 : X.cell? ⟨h, 4, none⟩ = some (.int .i64 a4)
theorem KW.new (X : World) (a0 a1 a2 a3 a4 : Int) (T : TypeId) : KW X.heap.size a0 a1 a2 a3 a4 (X.alloc (.cells #[.int .i64 a0, .int .i64 a1, .int .i64 a2, .int .i64 a3, .int .i64 a4] T)) := by
  refine ⟨by simp, ?_, ?_, ?_, ?_, ?_⟩ <;> simp [go_sem]
theorem KW.below {h : Nat} {a0 a1 a2 a3 a4 : Int} {X Y : World} (k : KW h a0 a1 a2 a3 a4 X) (hb : Below X.heap.size X Y) : KW h a0 a1 a2 a3 a4 Y := by
  have e := (bcell hb).1
  have hn := k.lt
  exact ⟨Nat.lt_of_lt_of_le k.lt hb.size, by rw [e _ _ hn]; exact k.c0, by rw [e _ _ hn]; exact k.c1, by rw [e _ _ hn]; exact k.c2, by rw [e _ _ hn]; exact k.c3, by rw [e _ _ hn]; exact k.c4⟩
theorem off_zero (t : Int) : offI 0 false t = 0 := by rw [offI_in 0 false t (by decide) (by decide)]; rfl
theorem dB_zero (d s e t : Int) : dB d s e 0 false t = lB d s e t := by unfold dB; rw [off_zero, Int.add_zero]
theorem ex_w (t : Int) (h0 : 0 ≤ t) (h1 : t ≤ 268435456) : hB 0 480 1020 0 (-1) 0 false t = decide (480 ≤ t % 1440 ∧ t % 1440 < 1020) := by
  rw [hB_in ⟨⟨h0, h1⟩, h0, .inl rfl⟩, dB_zero]
  unfold lB
  rw [dayB_lt (by decide)]
  have : onB 0 (wd (t / 1440)) = true := rfl
  rw [this, Bool.true_and]
  rw [Bool.eq_iff_iff]
  simp
theorem ex_spans : runsL (hB 0 480 1020 0 (-1) 0 false) 500 2000 = [(500, 1020), (1920, 2000)] := by
  refine runsL_eq ⟨by simp, by simp, fun t h0 h1 => ?_⟩
  rw [ex_w t (by omega) (by omega)]
  simp only [decide_eq_true_eq, List.mem_cons, List.not_mem_nil, or_false, exists_eq_or_imp, exists_eq_left]
  omega
theorem ok_w : OkW 0 480 1020 0 (-1) := by decide
theorem ex_spR : spR 0 480 1020 0 (-1) 0 false 500 2000 = [(500, 1020), (1920, 2000)] ∧ spE 0 480 1020 0 (-1) 0 false 500 2000 = 0 := by
  have h1 : OkW 0 480 1020 0 (-1) ∧ -840 ≤ (0 : Int) ∧ (0 : Int) ≤ 840 := ⟨ok_w, by decide, by decide⟩
  have h2 : 0 ≤ (500 : Int) ∧ (500 : Int) ≤ 2000 ∧ (2000 : Int) ≤ 268435456 := by decide
  unfold spR spE
  rw [if_pos h1, if_pos h1, if_pos h2, if_pos h2, ex_spans]
  decide
theorem ex_next0 : nxI 0 480 1020 0 (-1) 0 false 0 = 480 := by
  rw [nxI_yes ok_w (by decide) (by decide) (by decide) (by decide)]
  refine nxt_eq (by decide) (.inr ⟨by decide, by decide, ?_, fun v v1 v2 => ?_⟩)
  · rw [ex_w 480 (by decide) (by decide), ex_w (480 - 1) (by decide) (by decide)]; decide
  · rw [ex_w v (by omega) (by omega), ex_w (v - 1) (by omega) (by omega), Bool.eq_iff_iff]
    simp only [decide_eq_true_eq]
    omega
theorem ex_next1 : nxI 0 480 1020 0 (-1) 0 false 480 = 1020 := by
  rw [nxI_yes ok_w (by decide) (by decide) (by decide) (by decide)]
  refine nxt_eq (by decide) (.inr ⟨by decide, by decide, ?_, fun v v1 v2 => ?_⟩)
  · rw [ex_w 1020 (by decide) (by decide), ex_w (1020 - 1) (by decide) (by decide)]; decide
  · rw [ex_w v (by omega) (by omega), ex_w (v - 1) (by omega) (by omega), Bool.eq_iff_iff]
    simp only [decide_eq_true_eq]
    omega
theorem ex_next2 : nxI 0 0 0 5 (-1) 0 false 5 = -1 := by
  rw [nxI_yes (by decide) (by decide) (by decide) (by decide) (by decide)]
  refine nxt_eq (by decide) (.inl ⟨rfl, fun v v1 v2 => ?_⟩)
  rw [hB_in ⟨⟨by omega, v2⟩, by omega, .inl rfl⟩, hB_in ⟨⟨by omega, by omega⟩, by omega, .inl rfl⟩, alw_dB (by decide), alw_dB (by decide)]
theorem ex_n (t : Int) (h0 : 0 ≤ t) (h1 : t ≤ 268435456) : hol 32 1320 360 0 (-1) 0 false t = lB 32 1320 360 t := by
  rw [hol_yes ⟨by decide, by decide, by decide⟩, hB_in ⟨⟨h0, h1⟩, h0, .inl rfl⟩, dB_zero]
theorem ex_n1 : hol 32 1320 360 0 (-1) 0 false 1320 = true := by rw [ex_n _ (by decide) (by decide)]; decide
theorem ex_n2 : hol 32 1320 360 0 (-1) 0 false 1799 = true := by rw [ex_n _ (by decide) (by decide)]; decide
theorem ex_n3 : hol 32 1320 360 0 (-1) 0 false 0 = false := by rw [ex_n _ (by decide) (by decide)]; decide
theorem ex_n4 : hol 32 1320 360 0 (-1) 0 false 1800 = false := by rw [ex_n _ (by decide) (by decide)]; decide
theorem ex_valid : vW 0 0 1440 0 0 = 1 := by decide
end Go.Proofs.YtmapkiefmbgdoabDoor
