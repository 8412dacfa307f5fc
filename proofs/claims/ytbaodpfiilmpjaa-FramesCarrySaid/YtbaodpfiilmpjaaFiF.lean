/-
  The reader of bytes with a length.
-/
import Derived.Test.YtbaodpfiilmpjaaFiE
namespace Go.Proofs.Ytbaodpfiilmpjaa
open Go.RowKit
open IntWalk
set_option linter.unusedVariables false

/-- Of what was there, block g alone may have changed. -/
structure Only (g : Nat) (w w' : World) : Prop where
  os : w'.os = w.os
  tape : w'.tape = w.tape
  output : w'.output = w.output
  size : w.heap.size ≤ w'.heap.size
  block : ∀ k, k < w.heap.size → k ≠ g → w'.heap[k]? = w.heap[k]?
theorem Only.refl (g : Nat) (w : World) : Only g w w := ⟨rfl, rfl, rfl, Nat.le_refl _, fun _ _ _ => rfl⟩
theorem Only.trans {g : Nat} {a b c : World} (h : Only g a b) (k : Only g b c) : Only g a c :=
  ⟨k.os.trans h.os, k.tape.trans h.tape, k.output.trans h.output, Nat.le_trans h.size k.size, fun i hi hn => (k.block i (Nat.lt_of_lt_of_le hi h.size) hn).trans (h.block i hi hn)⟩
theorem Only.of_below {g : Nat} {w w' : World} (h : Below w.heap.size w w') : Only g w w' := ⟨h.os, h.tape, h.output, h.size, fun k hk _ => h.block k hk⟩
theorem Only.set (g : Nat) (o : Nat) (v : Value) (w : World) : Only g w (w.setCell ⟨g, o, none⟩ v) :=
  ⟨rfl, rfl, rfl, by simp [World.setCell], fun k _ hn => Below.heap_setCell _ _ _ _ hn⟩
theorem Only.below {g : Nat} {w w' : World} (h : Only g w w') (hg : g < w.heap.size) : Below g w w' := ⟨h.os, h.tape, h.output, h.size, fun k hk => h.block k (by omega) (by omega)⟩

theorem end_ok (g : Nat) (v : Value) (w : World) (hc : w.cell? ⟨g, 0, none⟩ = some v) (h : RdB w v []) :
    Calls Try.prog 25 #[.pointer (some ⟨g, 0, none⟩)] w fun e w' => e = .returned (.tuple #[]) ∧ w' = w := by
  obtain ⟨p, c, rfl, _, _, _⟩ := h
  go_enter Try.func25, Try.ntmps25
  go_wp2
  go_end0
  exact ⟨rfl, rfl⟩
theorem end_bad (g : Nat) (v : Value) (l : List UInt8) (w : World) (hc : w.cell? ⟨g, 0, none⟩ = some v) (h : RdB w v l) (hl : l ≠ []) :
    Calls Try.prog 25 #[.pointer (some ⟨g, 0, none⟩)] w fun e w' => e = .panicked [{ v := errV 5, recovered := false }] ∧ w' = w := by
  obtain ⟨p, c, rfl, _, _, _⟩ := h
  have hn : 0 < l.length := List.length_pos_iff.2 hl
  unfold errV
  go_enter Try.func25, Try.ntmps25
  go_wp2
  exact ⟨rfl, rfl, rfl⟩
set_option maxHeartbeats 2000000 in
theorem clone_run (v : Value) (l : List UInt8) (w : World) (h : RdB w v l) (hl : l.length ≤ 200000) :
    Calls Try.prog 19 #[v] w fun e w' => ∃ u, e = .returned u ∧ Fr w' w.heap.size u l ∧ Below w.heap.size w w' := by
  have R := Lib.hid h
  have HL := Lib.hid hl
  obtain ⟨p, c, rfl, _, _, hat⟩ := h
  cases p with
  | none =>
    have : l = [] := by
      by_cases e : l = []
      · exact e
      · obtain ⟨_, _, e2, _⟩ := hat e; cases e2
    subst this
    have hq : ∀ W, (binOp BinOp.eql 23 (.slice none 0 c) (.slice none 0 0)).run Try.prog W = .ok (.bool true) W := fun W => by kernel_rfl
    go_enter Try.func19, Try.ntmps19
    go_wp2
    go_ret
    exact ⟨_, rfl, fr_nil _ _, Below.refl _ _⟩
  | some a =>
    have O1 := Lib.hid (OwnB.new w w.heap.size 0 [] w.heap.size rfl rfl (Nat.le_refl _) (by decide))
    clear hat
    have hq : ∀ W, (binOp BinOp.eql 23 (.slice (some a) l.length c) (.slice none 0 0)).run Try.prog W = .ok (.bool false) W := fun W => by kernel_rfl
    go_enter Try.func19, Try.ntmps19
    go_wp2_with (at_builtin; refine wp_app rfl _ _ rfl w.heap.size _ _ [] l rfl rfl O1.out (R.out.more _) (by simp) (by have := HL.out; omega) ?_; intro v1 w1 o1 g1 _; have b1 := (((Below.refl _ w).alloc (Nat.le_refl _) _)).trans (grown_below O1.out g1); rw [List.nil_append] at o1; have X1 := Lib.hid o1.fr; have B1 := Lib.hid b1; clear o1 g1 b1)
    go_ret
    exact ⟨_, rfl, X1.out, B1.out⟩

/-- A length and as many bytes. -/
def readD (l : List UInt8) : Except Int (List UInt8 × List UInt8) :=
  match readI l with
  | .error k => .error k
  | .ok (n, r) => if n < 0 then .error 5 else if (r.length : Int) < n then .error 6 else .ok (r.take n.toNat, r.drop n.toNat)
theorem rd_take {w : World} {p : Option Addr} {n c : Nat} {l : List UInt8} (h : RdB w (.slice p n c) l) (m : Nat) (hm : m ≤ l.length) : RdB w (.slice p m c) (l.take m) := by
  obtain ⟨p', c', e, h2, h3, h4⟩ := h
  injection e with e1 e2 e3
  subst e1 e3
  have e4 : (l.take m).length = m := by rw [List.length_take]; omega
  refine ⟨p, c, by rw [e4], by omega, h3, fun hne => ?_⟩
  obtain ⟨b, o, e5, ha⟩ := h4 (fun z => hne (by rw [z]; simp))
  exact ⟨b, o, e5, ha.1, fun i hi => by rw [List.getElem_take]; exact ha.2 i (by omega)⟩
theorem rd_drop {w : World} {b o n c : Nat} {l : List UInt8} (h : RdB w (.slice (some ⟨b, o, none⟩) n c) l) (m : Nat) (hm : m ≤ l.length) (P : Option Addr) (hP : l.length - m ≠ 0 → P = some ⟨b, o + m, none⟩) : RdB w (.slice P (l.length - m) (c - m)) (l.drop m) := by
  obtain ⟨p', c', e, h2, h3, h4⟩ := h
  injection e with e1 e2 e3
  subst e1 e3
  refine ⟨P, c - m, by rw [List.length_drop], by rw [List.length_drop]; omega, by omega, fun hne => ?_⟩
  obtain ⟨b', o', e5, ha⟩ := h4 (fun z => hne (by rw [z]; simp))
  injection e5 with e5
  injection e5 with e6 e7
  subst e6 e7
  refine ⟨b, o + m, hP (fun e => hne (List.eq_nil_of_length_eq_zero (by rw [List.length_drop]; exact e))), ha.1, fun i hi => ?_⟩
  rw [List.length_drop] at hi
  rw [List.getElem_drop, show o + m + i = o + (m + i) by omega]
  exact ha.2 _ (by omega)
theorem cell_set (w : World) (g : Nat) (v x : Value) (h : w.cell? ⟨g, 0, none⟩ = some x) : (w.setCell ⟨g, 0, none⟩ v).cell? ⟨g, 0, none⟩ = some v := by simp [go_sem, h]
theorem set_size (w : World) (g : Nat) (v : Value) : (w.setCell ⟨g, 0, none⟩ v).heap.size = w.heap.size := by simp [World.setCell]

set_option maxHeartbeats 4000000 in
set_option maxRecDepth 10000 in
theorem data_err (g B : Nat) (v : Value) (l : List UInt8) (k : Int) (w : World) (hr : readD l = .error k) (hc : w.cell? ⟨g, 0, none⟩ = some v) (hz : w.frozen? ⟨g, 0, none⟩ = false) (h : RdB w v l) (hb : blk v B) (hl : l.length ≤ 200000) (hB : B ≤ g) :
    Calls Try.prog 30 #[.pointer (some ⟨g, 0, none⟩)] w fun e w' => e = .panicked [{ v := errV k, recovered := false }] ∧ Only g w w' := by
  unfold readD at hr
  rcases hi : readI l with k2 | ⟨n, r⟩
  · rw [hi] at hr
    injection hr with hr
    subst hr
    have C := Lib.hid (int_err g v l k2 w hi hc h hl)
    go_enter Try.func30, Try.ntmps30
    go_wp2_with fail
    refine C.out.mono ?_
    rintro e w2 ⟨rfl, hw⟩
    rw [hw]
    clear hw C w2
    exact ⟨rfl, rfl, Only.refl _ _⟩
  · rw [hi] at hr
    dsimp only at hr
    have C := Lib.hid (int_ok g B v l r n w hi hc hz h hb hl)
    have HC := Lib.hid hc
    have hn := readI_back l n r hi
    by_cases h0 : n < 0
    · rw [if_pos h0] at hr
      injection hr with hr
      subst hr
      unfold errV
      clear hn
      go_enter Try.func30, Try.ntmps30
      go_wp2_with fail
      refine C.out.mono ?_
      rintro e w2 ⟨rfl, v2, rfl, _, _⟩
      go_wp2
      exact ⟨rfl, rfl, Only.set _ _ _ _⟩
    · rw [if_neg h0] at hr
      by_cases h1 : (r.length : Int) < n
      · rw [if_pos h1] at hr
        injection hr with hr
        subst hr
        unfold errV
        have h0 : 0 ≤ n := by omega
        clear hn
        go_enter Try.func30, Try.ntmps30
        go_wp2_with fail
        refine C.out.mono ?_
        rintro e w2 ⟨rfl, v2, rfl, R, _⟩
        obtain ⟨p2, c2, rfl, _, _, _⟩ := R
        have hc2 := cell_set w g (.slice p2 r.length c2) v HC.out
        have HO := Lib.hid (Only.set g 0 (.slice p2 r.length c2) w)
        revert hc2 HO
        generalize w.setCell { block := g, off := 0 } (.slice p2 r.length c2) = w3
        intro hc2 HO
        go_wp2
        exact ⟨rfl, rfl, HO.out⟩
      · rw [if_neg h1] at hr
        cases hr
end Go.Proofs.Ytbaodpfiilmpjaa
