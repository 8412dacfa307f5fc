/-
  What Spans returns.
-/
import Derived.Test.YtmapkiefmbgdoabDoorWinL
import Derived.Test.YtmapkiefmbgdoabDoorWinR
import Derived.Maps.OwnIn
namespace Go.Proofs.YtmapkiefmbgdoabDoor
open Go.RowKit Go.Shelf
set_option linter.unusedVariables false
attribute [local go_sem] Oper.semAt_some

/-- The cells of a list of spans. -/
def spV (l : List (Int × Int)) : List Value := l.flatMap fun p => [.int .i64 p.1, .int .i64 p.2]
theorem spV_snoc (l : List (Int × Int)) (p : Int × Int) : spV (l ++ [p]) = spV l ++ [.int .i64 p.1, .int .i64 p.2] := by unfold spV; rw [List.flatMap_append]; rfl
/-- A row of the call's own that holds these spans. -/
def OwnP (w : World) (base : Nat) (v : Value) (l : List (Int × Int)) : Prop := w.ownsRow base 34 2 v l.length (spV l) ∧ base ≤ w.heap.size
theorem OwnP.mono {w : World} {base b' : Nat} {v : Value} {l : List (Int × Int)} (h : OwnP w base v l) (hb : b' ≤ base) : OwnP w b' v l := ⟨World.ownsRow.mono h.1 hb, Nat.le_trans hb h.2⟩
theorem OwnP.none_ (w : World) (base : Nat) (h : base ≤ w.heap.size) : OwnP w base (.slice none 0 0) [] := ⟨⟨rfl, .inl ⟨rfl, rfl⟩⟩, h⟩
theorem OwnP.block {w w' : World} {base : Nat} {v : Value} {l : List (Int × Int)} (h : OwnP w base v l) (hs : w.heap.size ≤ w'.heap.size) (hg : ∀ g, v.ownBlock = some g → w'.heap[g]? = w.heap[g]?) : OwnP w' base v l := by
  refine ⟨⟨h.1.1, ?_⟩, Nat.le_trans h.2 hs⟩
  rcases h.1.2 with h0 | ⟨g, cap, cur, e0, h1, hh, h3, h4, h5, h6⟩
  · exact .inl h0
  · exact .inr ⟨g, cap, cur, e0, h1, (hg g (by rw [e0]; rfl)).trans hh, h3, h4, h5, h6⟩
theorem OwnP.cells {w : World} {base : Nat} {v : Value} {l : List (Int × Int)} (h : OwnP w base v l) : ∀ g, v.ownBlock = some g → base ≤ g ∧ g < w.heap.size ∧ ∃ o : Obj, w.heap[g]? = some o ∧ o.isCells = true := by
  intro g hg
  rcases h.1.2 with ⟨rfl, _⟩ | ⟨g', cap, cur, rfl, h1, hh, h3, h4, h5, h6⟩
  · cases hg
  · have e : g' = g := by simpa [Value.ownBlock] using hg
    subst e
    exact ⟨h1, (Array.getElem?_eq_some_iff.1 hh).1, _, hh, rfl⟩
theorem OwnP.below {w w' : World} {base : Nat} {v : Value} {l : List (Int × Int)} (h : OwnP w base v l) (hb : Below w.heap.size w w') : OwnP w' base v l :=
  h.block hb.size (fun g hg => hb.block g (h.cells g hg).2.1)
theorem OwnP.forms {w : World} {base : Nat} {v : Value} {l : List (Int × Int)} (h : OwnP w base v l) : (v = .slice none 0 0 ∧ l = []) ∨ ∃ g cap, v = .slice (some ⟨g, 0, none⟩) l.length cap := by
  rcases h.1.2 with ⟨e, h0⟩ | ⟨g, cap, cur, e, _⟩
  · exact .inl ⟨e, List.length_eq_zero_iff.1 h0⟩
  · exact .inr ⟨g, cap, e⟩
/-- A list of spans and an error come back. -/
def GivesP (w : World) (R : List (Int × Int)) (err : Int) (e : Ending) (w' : World) : Prop := ∃ v, e = .returned (.tuple #[v, .int .i64 err]) ∧ OwnP w' w.heap.size v R ∧ Below w.heap.size w w'
def limP (R : List (Int × Int)) : List (Int × Int) := if R.length ≤ 512 then R else []
def limC (R : List (Int × Int)) : Int := if R.length ≤ 512 then 0 else 3
theorem Tryd.infoSpan : (Tryd.prog.info? 34).map (fun i => (i.zero, i.size, i.bytes)) = some (some (.agg #[.int .i64 0, .int .i64 0]), 2, 16) := by kernel_rfl

/-- What the loop of Spans keeps: the spans so far, the beginning of the one under way. -/
structure SI (w : World) (hl hb B0 : Nat) (a0 a1 a2 a3 a4 a5 a6 : Value) (F T : Int) (l : List (Int × Int)) (b : Int) (C : Nat → Prop) (A : World) : Prop where
  kn : KN w.heap.size a0 a1 a2 a3 a4 a5 a6 A
  c0 : A.cell? ⟨w.heap.size + 1 + 1, 0, none⟩ = some (.int .i64 F)
  c1 : A.cell? ⟨w.heap.size + 1 + 1, 1, none⟩ = some (.int .i64 T)
  r6 : A.cell? ⟨w.heap.size + 1 + 1 + 1, 0, none⟩ = some (.slice none 0 0)
  f6 : A.frozen? ⟨w.heap.size + 1 + 1 + 1, 0, none⟩ = false
  r7 : A.cell? ⟨w.heap.size + 1 + 1 + 1 + 1, 0, none⟩ = some (.int .i64 0)
  f7 : A.frozen? ⟨w.heap.size + 1 + 1 + 1 + 1, 0, none⟩ = false
  cb : A.cell? ⟨hb, 0, none⟩ = some (.int .i64 b)
  fb : A.frozen? ⟨hb, 0, none⟩ = false
  fl : A.frozen? ⟨hl, 0, none⟩ = false
  below : Below w.heap.size w A
  len : l.length ≤ 512
  row : ∃ v, A.cell? ⟨hl, 0, none⟩ = some v ∧ OwnP A B0 v l ∧ ∀ k, C k ↔ (k = w.heap.size + 1 + 1 + 1 ∨ k = w.heap.size + 1 + 1 + 1 + 1 ∨ k = hl ∨ k = hb) ∨ v.ownBlock = some k
theorem SI.keeps {w : World} {hl hb B0 n : Nat} {a0 a1 a2 a3 a4 a5 a6 : Value} {F T : Int} {l : List (Int × Int)} {b : Int} {C : Nat → Prop} {A B : World} (h : SI w hl hb B0 a0 a1 a2 a3 a4 a5 a6 F T l b C A) (k : KeepsC n C A B)
    (h1 : hl < n) (h2 : hb < n) (h3 : w.heap.size + 1 + 1 + 1 + 1 < n) : SI w hl hb B0 a0 a1 a2 a3 a4 a5 a6 F T l b C B := by
  obtain ⟨v, hv, ho, hc⟩ := h.row
  exact ⟨h.kn.keeps k (by omega), k.cell (by omega) h.c0, k.cell (by omega) h.c1, k.cell (by omega) h.r6, (k.frozen (by omega) h.r6).trans h.f6, k.cell (by omega) h.r7, (k.frozen (by omega) h.r7).trans h.f7,
    k.cell h2 h.cb, (k.frozen h2 h.cb).trans h.fb, (k.frozen h1 hv).trans h.fl, k.below (by omega) (by have := h.kn.1; omega) h.below, h.len,
    v, k.cell h1 hv, ho.block k.size (fun g hg => k.same g (ho.cells g hg).2.1 (.inr ((hc g).2 (.inr hg)))), hc⟩
theorem SI.wf {w : World} {hl hb B0 n : Nat} {a0 a1 a2 a3 a4 a5 a6 : Value} {F T : Int} {l : List (Int × Int)} {b : Int} {C : Nat → Prop} {A : World} (h : SI w hl hb B0 a0 a1 a2 a3 a4 a5 a6 F T l b C A)
    (h1 : hl < n) (h2 : hb < n) (h3 : w.heap.size + 1 + 1 + 1 + 1 < n) : CWf n C A := by
  obtain ⟨v, hv, ho, hc⟩ := h.row
  intro k hk
  rcases (hc k).1 hk with h | h
  · exact .inl (by omega)
  · exact .inr (ho.cells k h).2.2
/-- What a round that has come to the limit leaves. -/
structure SX (w : World) (n : Nat) (C : Nat → Prop) (A : World) : Prop where
  r6 : A.cell? ⟨w.heap.size + 1 + 1 + 1, 0, none⟩ = some (.slice none 0 0)
  r7 : A.cell? ⟨w.heap.size + 1 + 1 + 1 + 1, 0, none⟩ = some (.int .i64 3)
  below : Below w.heap.size w A
  wf : CWf n C A
theorem SX.keeps {w : World} {n : Nat} {C : Nat → Prop} {A B : World} (h : SX w n C A) (k : KeepsC n C A B) (h3 : w.heap.size + 1 + 1 + 1 + 1 < n) : SX w n C B :=
  ⟨k.cell (by omega) h.r6, k.cell (by omega) h.r7, k.below (by omega) (by have := World.block_lt_of_cell? A _ h.r7; simp only at this; omega) h.below, fun q hq => by
    rcases h.wf q hq with h1 | ⟨o, h1, h2⟩
    · exact .inl h1
    · exact .inr ⟨o, (k.same q (Array.getElem?_eq_some_iff.1 h1).1 (.inr hq)).trans h1, h2⟩⟩

theorem set_block (A : World) (k i : Nat) (v : Value) (q : Nat) (h : q ≠ k) : (A.setCell ⟨k, i, none⟩ v).heap[q]? = A.heap[q]? := Below.heap_setCell _ _ _ _ h
theorem KeepsO.set {C : Nat → Prop} {A B : World} (h : KeepsO C A B) {k i : Nat} (hk : C k) (v : Value) : KeepsO C A (B.setCell ⟨k, i, none⟩ v) :=
  ⟨h.os, h.tape, h.output, Nat.le_trans h.size (KeepsOthers.setCell _ _ _).size, fun q hq hn => (set_block B k i v q (fun e => hn (e ▸ hk))).trans (h.same q hq hn)⟩
theorem KN.blocks {h : Nat} {a0 a1 a2 a3 a4 a5 a6 : Value} {X X' : World} (g : KN h a0 a1 a2 a3 a4 a5 a6 X) (hs : X.heap.size ≤ X'.heap.size) (h0 : X'.heap[h]? = X.heap[h]?) (h1 : X'.heap[h + 1]? = X.heap[h + 1]?) : KN h a0 a1 a2 a3 a4 a5 a6 X' := by
  obtain ⟨l0, c0, c1, c2, c3, c4, c5, c6⟩ := g
  exact ⟨Nat.lt_of_lt_of_le l0 hs, (World.cell?_of_block h0).trans c0, (World.cell?_of_block h0).trans c1, (World.cell?_of_block h0).trans c2, (World.cell?_of_block h0).trans c3, (World.cell?_of_block h0).trans c4, (World.cell?_of_block h1).trans c5, (World.cell?_of_block h1).trans c6⟩
/-- The parts that a store elsewhere leaves. -/
theorem SI.other {w : World} {hl hb B0 : Nat} {a0 a1 a2 a3 a4 a5 a6 : Value} {F T : Int} {l l' : List (Int × Int)} {b b' : Int} {C C' : Nat → Prop} {A B : World} (h : SI w hl hb B0 a0 a1 a2 a3 a4 a5 a6 F T l b C A)
    (hs : A.heap.size ≤ B.heap.size) (hq : ∀ q, q ≤ w.heap.size + 1 + 1 + 1 + 1 → B.heap[q]? = A.heap[q]?) (cb : B.cell? ⟨hb, 0, none⟩ = some (.int .i64 b')) (fb : B.frozen? ⟨hb, 0, none⟩ = false) (fl : B.frozen? ⟨hl, 0, none⟩ = false)
    (below : Below w.heap.size w B) (len : l'.length ≤ 512) (row : ∃ v, B.cell? ⟨hl, 0, none⟩ = some v ∧ OwnP B B0 v l' ∧ ∀ k, C' k ↔ (k = w.heap.size + 1 + 1 + 1 ∨ k = w.heap.size + 1 + 1 + 1 + 1 ∨ k = hl ∨ k = hb) ∨ v.ownBlock = some k) :
    SI w hl hb B0 a0 a1 a2 a3 a4 a5 a6 F T l' b' C' B := by
  have k0 := hq w.heap.size (by omega)
  have k1 := hq (w.heap.size + 1) (by omega)
  have k2 := hq (w.heap.size + 1 + 1) (by omega)
  have k3 := hq (w.heap.size + 1 + 1 + 1) (by omega)
  have k4 := hq (w.heap.size + 1 + 1 + 1 + 1) (by omega)
  exact ⟨h.kn.blocks hs k0 k1, (World.cell?_of_block k2).trans h.c0, (World.cell?_of_block k2).trans h.c1, (World.cell?_of_block k3).trans h.r6, (World.frozen?_of_block k3).trans h.f6,
    (World.cell?_of_block k4).trans h.r7, (World.frozen?_of_block k4).trans h.f7, cb, fb, fl, below, len, row⟩
/-- A new beginning. -/
theorem SI.begin {w : World} {hl hb B0 : Nat} {a0 a1 a2 a3 a4 a5 a6 : Value} {F T : Int} {l : List (Int × Int)} {b : Int} {C : Nat → Prop} {A : World} (h : SI w hl hb B0 a0 a1 a2 a3 a4 a5 a6 F T l b C A) (b' : Int)
    (h1 : w.heap.size + 1 + 1 + 1 + 1 < hl) (h2 : hl < hb) (h3 : hb < B0) : SI w hl hb B0 a0 a1 a2 a3 a4 a5 a6 F T l b' C (A.setCell ⟨hb, 0, none⟩ (.int .i64 b')) := by
  obtain ⟨v, hv, ho, hc⟩ := h.row
  refine h.other (KeepsOthers.setCell _ _ _).size (fun q hq => set_block _ _ _ _ q (by omega)) (World.cell?_setCell_same' _ _ _ (by rw [h.cb]; rfl)) (by rw [World.frozen?_setCell]; exact h.fb) (by rw [World.frozen?_setCell]; exact h.fl)
    (h.below.setCell (p := ⟨hb, 0, none⟩) (by show w.heap.size ≤ hb; omega) _) h.len ⟨v, (World.cell?_of_block (set_block _ _ _ _ hl (by omega))).trans hv, ?_, hc⟩
  exact ho.block (KeepsOthers.setCell _ _ _).size (fun g hg => set_block _ _ _ _ g (by have := (ho.cells g hg).1; omega))
theorem grown_block {Z w1 : World} {o : Obj} {v : Value} (hg : (Z.alloc o).grownBy w1 v.ownBlock) {k : Nat} (hk : k < Z.heap.size) (hne : v.ownBlock ≠ some k) : w1.heap[k]? = Z.heap[k]? :=
  (hg.block k (by simp; omega) (fun e => hne e.symm)).trans (Below.heap_alloc Z o k hk)
/-- One span more. -/
theorem SI.push {w : World} {hl hb B0 : Nat} {a0 a1 a2 a3 a4 a5 a6 : Value} {F T : Int} {l : List (Int × Int)} {b : Int} {C : Nat → Prop} {A w1 : World} {o : Obj} {v v' : Value} {p : Int × Int} (h : SI w hl hb B0 a0 a1 a2 a3 a4 a5 a6 F T l b C A)
    (h1 : w.heap.size + 1 + 1 + 1 + 1 < hl) (h2 : hl < hb) (h3 : hb < B0) (hv : A.cell? ⟨hl, 0, none⟩ = some v) (ho : OwnP A B0 v l) (hl5 : l.length < 512)
    (hown : w1.ownsRow B0 34 2 v' (l ++ [p]).length (spV (l ++ [p]))) (hg : (A.alloc o).grownBy w1 v.ownBlock) :
    SI w hl hb B0 a0 a1 a2 a3 a4 a5 a6 F T (l ++ [p]) (-1) (fun k => (k = w.heap.size + 1 + 1 + 1 ∨ k = w.heap.size + 1 + 1 + 1 + 1 ∨ k = hl ∨ k = hb) ∨ v'.ownBlock = some k) ((w1.setCell ⟨hl, 0, none⟩ v').setCell ⟨hb, 0, none⟩ (.int .i64 (-1))) := by
  have hA : A.heap.size ≤ w1.heap.size := Nat.le_trans (by simp) hg.size
  have lb : hb < A.heap.size := World.block_lt_of_cell? A _ h.cb
  have old : ∀ q, q < B0 → q < A.heap.size → w1.heap[q]? = A.heap[q]? := fun q hq hqA => grown_block hg hqA (fun e => by have := (ho.cells q e).1; omega)
  have hown' : OwnP w1 B0 v' (l ++ [p]) := ⟨hown, Nat.le_trans ho.2 hA⟩
  have two : ∀ q, q ≠ hl → q ≠ hb → ((w1.setCell ⟨hl, 0, none⟩ v').setCell ⟨hb, 0, none⟩ (.int .i64 (-1))).heap[q]? = w1.heap[q]? := fun q q1 q2 => (set_block _ _ _ _ q q2).trans (set_block _ _ _ _ q q1)
  have hs2 : w1.heap.size ≤ ((w1.setCell ⟨hl, 0, none⟩ v').setCell ⟨hb, 0, none⟩ (.int .i64 (-1))).heap.size := Nat.le_trans (KeepsOthers.setCell _ _ _).size (KeepsOthers.setCell _ _ _).size
  have cb1 : w1.cell? ⟨hb, 0, none⟩ = some (.int .i64 b) := (World.cell?_of_block (old hb h3 lb)).trans h.cb
  have fb1 : w1.frozen? ⟨hb, 0, none⟩ = false := (World.frozen?_of_block (old hb h3 lb)).trans h.fb
  have cl1 : w1.cell? ⟨hl, 0, none⟩ = some v := (World.cell?_of_block (old hl (by omega) (by omega))).trans hv
  have fl1 : w1.frozen? ⟨hl, 0, none⟩ = false := (World.frozen?_of_block (old hl (by omega) (by omega))).trans h.fl
  refine h.other (Nat.le_trans hA hs2) (fun q hq => (two q (by omega) (by omega)).trans (old q (by omega) (by omega))) ?_ ?_ ?_ ?_ (by simp; omega) ⟨v', ?_, ?_, fun k => Iff.rfl⟩
  · exact World.cell?_setCell_same' _ _ _ (by rw [World.cell?_of_block (set_block _ _ _ _ hb (by omega)), cb1]; rfl)
  · rw [World.frozen?_setCell, World.frozen?_setCell]; exact fb1
  · rw [World.frozen?_setCell, World.frozen?_setCell]; exact fl1
  · refine ((Below.setCell ?_ (p := ⟨hl, 0, none⟩) (by show w.heap.size ≤ hl; omega) _).setCell (p := ⟨hb, 0, none⟩) (by show w.heap.size ≤ hb; omega) _)
    exact (h.below.alloc (by omega) o).grown hg (by simp; omega) (fun k e => by have := (ho.cells k e).1; omega)
  · rw [World.cell?_of_block (set_block _ _ _ _ hl (by omega))]
    exact World.cell?_setCell_same' _ _ _ (by rw [cl1]; rfl)
  · exact hown'.block hs2 (fun g hg' => two g (by have := (hown'.cells g hg').1; omega) (by have := (hown'.cells g hg').1; omega))
theorem KeepsO.push {C : Nat → Prop} {X A w1 : World} {o : Obj} {v : Value} (h : KeepsO C X A) (hc : ∀ k, v.ownBlock = some k → C k) (hg : (A.alloc o).grownBy w1 v.ownBlock) : KeepsO C X w1 :=
  ⟨(hg.os.trans rfl).trans h.os, (hg.tape.trans rfl).trans h.tape, (hg.output.trans rfl).trans h.output, Nat.le_trans h.size (Nat.le_trans (by simp) hg.size), fun k hk hn =>
    (grown_block hg (Nat.lt_of_lt_of_le hk h.size) (fun e => hn (hc k e))).trans (h.same k hk hn)⟩
/-- The limit. -/
theorem SI.limit {w : World} {hl hb B0 n : Nat} {a0 a1 a2 a3 a4 a5 a6 : Value} {F T : Int} {l : List (Int × Int)} {b : Int} {C : Nat → Prop} {A : World} (h : SI w hl hb B0 a0 a1 a2 a3 a4 a5 a6 F T l b C A)
    (h1 : hl < n) (h2 : hb < n) (h3 : w.heap.size + 1 + 1 + 1 + 1 < n) : SX w n C ((A.setCell ⟨w.heap.size + 1 + 1 + 1, 0, none⟩ (.slice none 0 0)).setCell ⟨w.heap.size + 1 + 1 + 1 + 1, 0, none⟩ (.int .i64 3)) := by
  have k4 : (A.setCell ⟨w.heap.size + 1 + 1 + 1, 0, none⟩ (.slice none 0 0)).cell? ⟨w.heap.size + 1 + 1 + 1 + 1, 0, none⟩ = some (.int .i64 0) := (World.cell?_of_block (set_block A (w.heap.size + 1 + 1 + 1) 0 _ (w.heap.size + 1 + 1 + 1 + 1) (by omega))).trans h.r7
  refine ⟨?_, World.cell?_setCell_same' _ _ _ (by rw [k4]; rfl), ((h.below.setCell (p := ⟨w.heap.size + 1 + 1 + 1, 0, none⟩) (by simp; omega) _).setCell (p := ⟨w.heap.size + 1 + 1 + 1 + 1, 0, none⟩) (by simp; omega) _), fun k hk => ?_⟩
  · rw [World.cell?_of_block (set_block _ (w.heap.size + 1 + 1 + 1 + 1) 0 _ (w.heap.size + 1 + 1 + 1) (by omega))]
    exact World.cell?_setCell_same' _ _ _ (by rw [h.r6]; rfl)
  · rcases h.wf h1 h2 h3 k hk with h4 | ⟨o, h4, h5⟩
    · exact .inl h4
    · by_cases e : k < n
      · exact .inl e
      · exact .inr ⟨o, (set_block _ _ _ _ k (by omega)).trans ((set_block _ _ _ _ k (by omega)).trans h4), h5⟩

set_option maxRecDepth 100000 in
set_option maxHeartbeats 8000000 in
theorem spans_yes (d s e f u o : Int) (sm : Bool) (F T : Int) (w : World) (hT : Tab w) (hok : OkW d s e f u) (o0 : -840 ≤ o) (o1 : o ≤ 840) (f0 : 0 ≤ F) (hFT : F ≤ T) (t1 : T ≤ 268435456) :
    Calls Tryd.prog 9 #[.agg #[.int .i64 d, .int .i64 s, .int .i64 e, .int .i64 f, .int .i64 u], .agg #[.int .i64 o, .bool sm], .agg #[.int .i64 F, .int .i64 T]] w
      (GivesP w (limP (runsL (hB d s e f u o sm) F T)) (limC (runsL (hB d s e f u o sm) F T))) := by
  obtain ⟨i0, hi, hz0, hz1, hz2⟩ := info_parts Tryd.infoSpan
  have RL := Lib.hid (runsL_eq (spans_runs (sm := sm) hok o0 o1 f0 hFT t1))
  have CU := Lib.hid (fun X hX => usable_any d s e f u o sm X hX)
  have hus : usB d s e f u o = true := decide_eq_true ⟨hok, o0, o1⟩
  rw [hus] at CU
  have CW := Lib.hid (fun X => within_any d s e f u F T X)
  have CE := Lib.hid (fun X => edges_two d s e f u o (wiF F f) (wiT T u) sm X)
  clear hus
  obtain ⟨hd0, hs0, he0, hf0, hu0⟩ := hok
  refine (callsIn_wide (n := 5)).1 (callsIn_of_wp_marks Tryd.func9 rfl trivial ?_ rfl)
  simp only [Tryd.ntmps9, List.size_toArray, List.length_cons, List.length_nil, Nat.reduceAdd, Nat.reduceSub, Array.replicate_succ, Array.replicate_zero, List.push_toArray, List.append_toArray, List.nil_append, List.cons_append]
  have H0 := Lib.hid (b2 (b2 (b2 (b2 (b_new w (.cells #[.int .i64 d, .int .i64 s, .int .i64 e, .int .i64 f, .int .i64 u] 30)) (b_new _ (.cells #[.int .i64 o, .bool sm] 32))) (b_new _ (.cells #[.int .i64 F, .int .i64 T] 34))) (b_new _ (.cells #[.slice none 0 0] 39))) (b_new _ (.cells #[.int .i64 0] 24)))
  gi_wp2_with fail
  refine ⟨trivial, ?_⟩
  refine (callsIn_wide.2 (CU.out _ (hT.below H0.out))).mono ?_
  rintro e1 w1 ⟨rfl, h1⟩
  obtain ⟨hc1, hf1⟩ := bcell h1
  have z1 : w.heap.size + 1 + 1 + 1 + 1 < w1.heap.size := by have := h1.size; simp at this; omega
  have q0 : w.heap.size < w1.heap.size := by omega
  have q1 : w.heap.size + 1 < w1.heap.size := by omega
  have q2 : w.heap.size + 1 + 1 < w1.heap.size := by omega
  have q3 : w.heap.size + 1 + 1 + 1 < w1.heap.size := by omega
  have H1 := Lib.hid (b2 H0.out h1)
  clear h1
  have dF : decide (F < 0) = false := decide_eq_false (by omega)
  have dFT : decide (T < F) = false := decide_eq_false (by omega)
  have dT : decide (268435456 < T) = false := decide_eq_false (by omega)
  gi_wp2_with fail
  refine ⟨trivial, ?_⟩
  refine (callsIn_wide.2 (CW.out _)).mono ?_
  rintro e2 w2 ⟨rfl, h2⟩
  obtain ⟨hc2, hf2⟩ := bcell h2
  have y0 : w1.heap.size < w2.heap.size := by have := h2.size; simp at this; omega
  have y1 : w.heap.size < w2.heap.size := by omega
  have y2 : w.heap.size + 1 < w2.heap.size := by omega
  have y3 : w.heap.size + 1 + 1 < w2.heap.size := by omega
  have y4 : w.heap.size + 1 + 1 + 1 < w2.heap.size := by omega
  have y5 : w.heap.size + 1 + 1 + 1 + 1 < w2.heap.size := by omega
  have H2 := Lib.hid (b2 (b2 H1.out (b_new _ _)) h2)
  clear h2
  gi_wp2_with fail
  refine ⟨trivial, ?_⟩
  obtain ⟨V, hV⟩ : ∃ V, ((w2.setCell ⟨w.heap.size + 1 + 1, 0, none⟩ (.int .i64 (wiF F f))).setCell ⟨w.heap.size + 1 + 1, 1, none⟩ (.int .i64 (wiT T u))).alloc (.cells #[.int .i64 (-1)] 3) = V := ⟨_, rfl⟩
  have sV : V.heap.size = w2.heap.size + 1 := by rw [← hV]; simp
  have B2 : Below w.heap.size w V := by rw [← hV]; exact (((H2.out).setCell (p := ⟨w.heap.size + 1 + 1, 0, none⟩) (by simp; omega) _).setCell (p := ⟨w.heap.size + 1 + 1, 1, none⟩) (by simp; omega) _).alloc (by simp; omega) _
  have IV : SI w w1.heap.size w2.heap.size V.heap.size (.int .i64 d) (.int .i64 s) (.int .i64 e) (.int .i64 f) (.int .i64 u) (.int .i64 o) (.bool sm) (wiF F f) (wiT T u) [] (-1)
      (fun k => (k = w.heap.size + 1 + 1 + 1 ∨ k = w.heap.size + 1 + 1 + 1 + 1 ∨ k = w1.heap.size ∨ k = w2.heap.size) ∨ (Value.slice none 0 0).ownBlock = some k) V := by
    refine ⟨⟨by omega, ?_, ?_, ?_, ?_, ?_, ?_, ?_⟩, ?_, ?_, ?_, ?_, ?_, ?_, ?_, ?_, ?_, B2, by simp, .slice none 0 0, ?_, OwnP.none_ _ _ (Nat.le_refl _), fun k => Iff.rfl⟩
    all_goals
      rw [← hV]
      simp [go_sem, hc2, hc1, hf2, hf1, y0, y1, y2, y3, y4, y5, q0, q1, q2, q3, z1]
  rw [hV]
  clear hV hc1 hf1 hc2 hf2 H0 H1 H2 B2 q0 q1 q2 q3 y1 y2 y3 y4 dF dFT dT
  refine (callsIn_wide.2 (CE.out V)).mono ?_
  rintro e6 w6 ⟨rfl, h6, b6⟩
  have N6 := IV.keeps (n := V.heap.size) (KeepsC.of_below b6) (by omega) (by omega) (by omega)
  obtain ⟨G0, G1, ⟨_, G2, G3, G4, G5, G6, G7, G8⟩, Gs⟩ := EdW.facts h6
  have qF : 0 ≤ wiF F f := by unfold wiF; omega
  have qT : wiT T u ≤ 268435456 := by unfold wiT; split <;> omega
  have ES := edges1_any d s e f u o (wiF F f) (wiT T u) sm (V.heap.size + 1 + 1) V.heap.size (V.heap.size + 1) w6 G0 G1 (by omega) (by omega) (by omega) G2 G3 G4 G5 G6 G7 G8 hs0 he0 ⟨o0, o1⟩ qF qT
  have N6 := Lib.hid N6
  have SZ := Lib.hid (And.intro sV Gs)
  have hl6 : w1.heap.size < w6.heap.size := by omega
  have hb6 : w2.heap.size < w6.heap.size := by omega
  have hr6 : w.heap.size + 1 + 1 + 1 + 1 < w6.heap.size := by omega
  have ne1 : w1.heap.size ≠ w2.heap.size := by omega
  have vl : w1.heap.size < V.heap.size := by omega
  have vb : w2.heap.size < V.heap.size := by omega
  obtain ⟨F', hF'⟩ : ∃ F', wiF F f = F' := ⟨_, rfl⟩
  obtain ⟨T', hT'⟩ : ∃ T', wiT T u = T' := ⟨_, rfl⟩
  rw [hF', hT'] at N6 ES RL ⊢
  have hT4 := hT'
  clear h6 b6 IV G0 G1 G2 G3 G4 G5 G6 G7 G8 Gs sV CE CW CU hF' hT' hT4 qF
  gi_wp2_with fail
  refine rangeFunc_C (n := 5) (by decide) (gf := 42) (lb := #[.pointer (some ⟨V.heap.size + 1 + 1, 0, none⟩), .pointer (some ⟨V.heap.size, 0, none⟩), .pointer (some ⟨V.heap.size + 1, 0, none⟩)]) rfl (enters_of Tryd.func42 (by kernel_rfl) rfl)
    ES (Below.refl _ _) rfl
    (fun pre C A => SI w w1.heap.size w2.heap.size V.heap.size (.int .i64 d) (.int .i64 s) (.int .i64 e) (.int .i64 f) (.int .i64 u) (.int .i64 o) (.bool sm) F' T' (foldS (hS d s e f u o sm T') pre).1 (foldS (hS d s e f u o sm T') pre).2 C A)
    (fun c pre C A => c = .ret ∧ 512 < (foldS (hS d s e f u o sm T') pre).1.length ∧ SX w w6.heap.size C A)
    _
    (by rintro k (rfl | rfl | rfl) <;> (have := SZ.out.2; omega))
    (fun pre C A h => h.wf hl6 hb6 hr6)
    (fun c pre C A h => h.2.2.wf)
    (fun pre C A B h hk => h.keeps hk hl6 hb6 hr6)
    (fun c pre C A B h hk => ⟨h.1, h.2.1, h.2.2.keeps hk hr6⟩)
    N6.out
    (by
      rintro k ((rfl | rfl | rfl | rfl) | h)
      · exact ⟨by omega, by have := SZ.out.1; omega⟩
      · exact ⟨by omega, by have := SZ.out.1; omega⟩
      · exact ⟨by omega, by have := SZ.out.1; omega⟩
      · exact ⟨by omega, by have := SZ.out.1; omega⟩
      · cases h)
    ?act ?assign ?body ?done ?stop
  case assign =>
    intro m l2 x X K hK
    gi_wp2
    exact hK
  case body =>
    rintro m l2 pre C x X hN
    obtain ⟨l, b, hlb⟩ : ∃ l b, foldS (hS d s e f u o sm T') pre = (l, b) := ⟨_, _, rfl⟩
    rw [hlb] at hN
    simp only at hN
    have HSN := Lib.hid (foldS_snoc (hS d s e f u o sm T') pre x)
    rw [hlb] at HSN
    clear hlb
    obtain ⟨l0, k0, k1, k2, k3, k4, k5, k6⟩ := hN.kn
    have kc1 := hN.c1
    by_cases hxT : x < T'
    · have HX := Lib.hid (fun Z hZ => holds_any d s e f u o sm x Z hZ)
      obtain ⟨bx, hbx⟩ : ∃ bx, hol d s e f u o sm x = bx := ⟨_, rfl⟩
      have hS1 : hS d s e f u o sm T' x = bx := by unfold hS; rw [decide_eq_true hxT, Bool.true_and, hbx]
      rw [hbx] at HX
      have HT := Lib.hid (hT.below hN.below)
      have HNX := Lib.hid hN
      have HS1 := Lib.hid hS1
      clear hbx hN hS1
      gi_wp2_with fail
      refine ⟨trivial, fun h => absurd h (by simp [Fence.wide]), ?_⟩
      refine (CallsIn.inRound l2 (callsIn_wide.2 (HX.out _ HT.out))).mono ?_
      rintro e9 Z ⟨rfl, h9⟩
      have NZ := HNX.out.keeps (n := w6.heap.size) (KeepsC.of_below h9) hl6 hb6 hr6
      have KO := Lib.hid (KeepsO.of_below (C := C) h9)
      clear h9 k0 k1 k2 k3 k4 k5 k6 kc1 l0
      obtain ⟨v, hv, ho, hc⟩ := NZ.row
      have cb := NZ.cb
      have fb := NZ.fb
      have fl := NZ.fl
      have r6 := NZ.r6
      have f6 := NZ.f6
      have r7 := NZ.r7
      have f7 := NZ.f7
      have hlen := NZ.len
      have HN := Lib.hid NZ
      have HC := Lib.hid hc
      have HOV := Lib.hid ho
      clear NZ hc ho
      cases bx with
      | true =>
        have hstep : foldS (hS d s e f u o sm T') (pre ++ [x]) = if b < 0 then (l, x) else (l, b) := by rw [HSN.out]; unfold stepS; rw [HS1.out]; rfl
        by_cases hb0 : b < 0
        · rw [if_pos hb0] at hstep
          have HST := Lib.hid hstep
          clear hstep
          gi_wp2_with fail
          refine ⟨C, fun k hk => .inl hk, KO.out.set ((HC.out _).2 (.inl (.inr (.inr (.inr rfl))))) _, ?_⟩
          dsimp only
          rw [HST.out]
          exact HN.out.begin x (by omega) (by omega) (by omega)
        · rw [if_neg hb0] at hstep
          have HST := Lib.hid hstep
          have hbn : decide (b < 0) = false := decide_eq_false hb0
          clear hstep hb0
          gi_wp2_with fail
          refine ⟨C, fun k hk => .inl hk, KO.out, ?_⟩
          dsimp only
          rw [HST.out]
          exact HN.out
      | false =>
        have hst0 : foldS (hS d s e f u o sm T') (pre ++ [x]) = if 0 ≤ b then (l ++ [(b, x)], -1) else (l, b) := by rw [HSN.out]; unfold stepS; rw [HS1.out]; rfl
        have HST0 := Lib.hid hst0
        clear hst0
        by_cases hb0 : 0 ≤ b
        · have hstep := HST0.out
          rw [if_pos hb0] at hstep
          have HST := Lib.hid hstep
          clear hstep
          have hbn : ¬ b < 0 := by omega
          have hbd : decide (0 ≤ b) = true := decide_eq_true hb0
          by_cases h5 : l.length = 512
          · have h5v : Hid (l.length = 512) := Lib.hid h5
            obtain ⟨g, cap, rfl⟩ : ∃ g cap, v = .slice (some ⟨g, 0, none⟩) l.length cap := by
              rcases HOV.out.forms with ⟨_, e⟩ | h
              · rw [e] at h5; cases h5
              · exact h
            rw [h5] at hv
            have e5 : ((l.length : Int) == 512) = true := by rw [h5]; rfl
            clear h5
            gi_wp2_with fail
            refine ⟨C, fun k hk => .inl hk, ((KO.out.set ((HC.out _).2 (.inl (.inl rfl))) _).set ((HC.out _).2 (.inl (.inr (.inl rfl)))) _), rfl, ?_, HN.out.limit hl6 hb6 hr6⟩
            rw [HST.out, List.length_append, h5v.out]
            simp
          · have e5 : ((l.length : Int) == 512) = false := by rw [beq_eq_false_iff_ne]; omega
            have hl5 : l.length < 512 := by omega
            have hbase := HOV.out.2
            have hown := HOV.out.1
            have lvb : ∀ k, v.ownBlock = some k → V.heap.size ≤ k := fun k e => (HOV.out.cells k e).1
            have nlv : v.ownBlock ≠ some w1.heap.size := fun e => by have := lvb _ e; omega
            have nbv : v.ownBlock ≠ some w2.heap.size := fun e => by have := lvb _ e; omega
            have zl : w1.heap.size < Z.heap.size := World.block_lt_of_cell? Z _ hv
            have zb : w2.heap.size < Z.heap.size := World.block_lt_of_cell? Z _ cb
            clear lvb h5
            rcases HOV.out.forms with ⟨rfl, hnil⟩ | ⟨g, cap, rfl⟩
            · have hl0 : l.length = 0 := by rw [hnil]; rfl
              have e50 : ((0 : Int) == 512) = false := by decide
              have HNIL := Lib.hid hnil
              clear hnil
              gi_wp2_with (gi_at_builtin; refine wpListIn_append_own_at _ rfl _ _ 39 rfl V.heap.size 34 i0 (.agg #[.int .i64 0, .int .i64 0]) 2 16 Tryd.underlying39 hi hz0 hz1 hz2 rfl (by decide) _ _ _ rfl (hown.alloc _) ⟨Z.heap.size, 0, none⟩ 1 1 [.int .i64 b, .int .i64 x] rfl rfl (lit_cells Z [.int .i64 b, .int .i64 x] _) (by intro q hq; simp at hq; rcases hq with rfl | rfl <;> rfl) (by unfold maxLen; omega) (by omega) (le_alloc hbase _) ?_; intro v' w9 hown' hgrow0 _ hat0; have hgrow : (Z.alloc (.cells #[.int .i64 b, .int .i64 x] 34)).grownBy w9 (Value.slice none 0 0).ownBlock := hgrow0; have hat : v'.ownBlock = (Value.slice none 0 0).ownBlock ∨ v'.ownBlock = some (Z.alloc (.cells #[.int .i64 b, .int .i64 x] 34)).heap.size := hat0; clear hgrow0 hat0; obtain ⟨g2, cap2, rfl⟩ := ownsRow_succ hown'; have kl := (World.cell?_of_block (grown_block hgrow zl nlv)).trans hv; have kb := (World.cell?_of_block (grown_block hgrow zb nbv)).trans cb; have ul := (World.frozen?_of_block (grown_block hgrow zl nlv)).trans fl; have ub := (World.frozen?_of_block (grown_block hgrow zb nbv)).trans fb)
              obtain rfl : l = [] := HNIL.out
              refine ⟨fun k => (k = w.heap.size + 1 + 1 + 1 ∨ k = w.heap.size + 1 + 1 + 1 + 1 ∨ k = w1.heap.size ∨ k = w2.heap.size) ∨ (Value.slice (some ⟨g2, 0, none⟩) (0 + 1) cap2).ownBlock = some k, ?_, ?_, ?_⟩
              · rintro k (h | h)
                · exact .inl ((HC.out k).2 (.inl h))
                · rcases hat with h' | h'
                  · exact .inl ((HC.out k).2 (.inr (h'.symm.trans h)))
                  · have e : k = (Z.alloc (.cells #[.int .i64 b, .int .i64 x] 34)).heap.size := by
                      have := h.symm.trans h'
                      injection this
                    refine .inr ?_
                    rw [e]
                    exact Nat.le_trans KO.out.size (by simp)
              · exact ((KO.out.push (fun k e => (HC.out k).2 (.inr e)) hgrow).set ((HC.out _).2 (.inl (.inr (.inr (.inl rfl))))) _).set ((HC.out _).2 (.inl (.inr (.inr (.inr rfl))))) _
              · dsimp only
                rw [HST.out]
                exact HN.out.push (p := (b, x)) (by omega) (by omega) (by omega) hv HOV.out hl5 (by rw [List.length_append, spV_snoc]; exact hown') hgrow
            · gi_wp2_with (gi_at_builtin; refine wpListIn_append_own_at _ rfl _ _ 39 rfl V.heap.size 34 i0 (.agg #[.int .i64 0, .int .i64 0]) 2 16 Tryd.underlying39 hi hz0 hz1 hz2 rfl (by decide) _ _ _ rfl (hown.alloc _) ⟨Z.heap.size, 0, none⟩ 1 1 [.int .i64 b, .int .i64 x] rfl rfl (lit_cells Z [.int .i64 b, .int .i64 x] _) (by intro q hq; simp at hq; rcases hq with rfl | rfl <;> rfl) (by unfold maxLen; omega) (by omega) (le_alloc hbase _) ?_; intro v' w9 hown' hgrow0 _ hat0; have hgrow : (Z.alloc (.cells #[.int .i64 b, .int .i64 x] 34)).grownBy w9 (Value.slice (some ⟨g, 0, none⟩) l.length cap).ownBlock := hgrow0; have hat : v'.ownBlock = (Value.slice (some ⟨g, 0, none⟩) l.length cap).ownBlock ∨ v'.ownBlock = some (Z.alloc (.cells #[.int .i64 b, .int .i64 x] 34)).heap.size := hat0; clear hgrow0 hat0; obtain ⟨g2, cap2, rfl⟩ := ownsRow_succ hown'; have kl := (World.cell?_of_block (grown_block hgrow zl nlv)).trans hv; have kb := (World.cell?_of_block (grown_block hgrow zb nbv)).trans cb; have ul := (World.frozen?_of_block (grown_block hgrow zl nlv)).trans fl; have ub := (World.frozen?_of_block (grown_block hgrow zb nbv)).trans fb)
              refine ⟨fun k => (k = w.heap.size + 1 + 1 + 1 ∨ k = w.heap.size + 1 + 1 + 1 + 1 ∨ k = w1.heap.size ∨ k = w2.heap.size) ∨ (Value.slice (some ⟨g2, 0, none⟩) (l.length + 1) cap2).ownBlock = some k, ?_, ?_, ?_⟩
              · rintro k (h | h)
                · exact .inl ((HC.out k).2 (.inl h))
                · rcases hat with h' | h'
                  · exact .inl ((HC.out k).2 (.inr (h'.symm.trans h)))
                  · have e : k = (Z.alloc (.cells #[.int .i64 b, .int .i64 x] 34)).heap.size := by
                      have := h.symm.trans h'
                      injection this
                    refine .inr ?_
                    rw [e]
                    exact Nat.le_trans KO.out.size (by simp)
              · exact ((KO.out.push (fun k e => (HC.out k).2 (.inr e)) hgrow).set ((HC.out _).2 (.inl (.inr (.inr (.inl rfl))))) _).set ((HC.out _).2 (.inl (.inr (.inr (.inr rfl))))) _
              · dsimp only
                rw [HST.out]
                exact HN.out.push (p := (b, x)) (by omega) (by omega) (by omega) hv HOV.out hl5 (by rw [List.length_append, spV_snoc]; exact hown') hgrow
        · have hstep := HST0.out
          rw [if_neg hb0] at hstep
          have HST := Lib.hid hstep
          have hbn : decide (0 ≤ b) = false := decide_eq_false hb0
          clear hstep hb0
          gi_wp2_with fail
          refine ⟨C, fun k hk => .inl hk, KO.out, ?_⟩
          dsimp only
          rw [HST.out]
          exact HN.out
    · have hS1 : hS d s e f u o sm T' x = false := by unfold hS; rw [decide_eq_false hxT]; rfl
      have hst0 : foldS (hS d s e f u o sm T') (pre ++ [x]) = if 0 ≤ b then (l ++ [(b, x)], -1) else (l, b) := by rw [HSN.out]; unfold stepS; rw [hS1]; rfl
      have HST0 := Lib.hid hst0
      have hxd : decide (x < T') = false := decide_eq_false hxT
      have NZ := hN
      obtain ⟨Z, rfl⟩ : ∃ Z, Z = X := ⟨_, rfl⟩
      have KO := Lib.hid (KeepsO.refl C Z)
      clear hN hS1 hst0 hxT
      obtain ⟨v, hv, ho, hc⟩ := NZ.row
      have cb := NZ.cb
      have fb := NZ.fb
      have fl := NZ.fl
      have r6 := NZ.r6
      have f6 := NZ.f6
      have r7 := NZ.r7
      have f7 := NZ.f7
      have hlen := NZ.len
      have HN := Lib.hid NZ
      have HC := Lib.hid hc
      have HOV := Lib.hid ho
      clear NZ hc ho
      by_cases hb0 : 0 ≤ b
      · have hstep := HST0.out
        rw [if_pos hb0] at hstep
        have HST := Lib.hid hstep
        clear hstep
        have hbn : ¬ b < 0 := by omega
        have hbd : decide (0 ≤ b) = true := decide_eq_true hb0
        by_cases h5 : l.length = 512
        · have h5v : Hid (l.length = 512) := Lib.hid h5
          obtain ⟨g, cap, rfl⟩ : ∃ g cap, v = .slice (some ⟨g, 0, none⟩) l.length cap := by
            rcases HOV.out.forms with ⟨_, e⟩ | h
            · rw [e] at h5; cases h5
            · exact h
          rw [h5] at hv
          have e5 : ((l.length : Int) == 512) = true := by rw [h5]; rfl
          clear h5
          gi_wp2_with fail
          refine ⟨trivial, ?_⟩
          gi_wp2_with fail
          refine ⟨C, fun k hk => .inl hk, ((KO.out.set ((HC.out _).2 (.inl (.inl rfl))) _).set ((HC.out _).2 (.inl (.inr (.inl rfl)))) _), rfl, ?_, HN.out.limit hl6 hb6 hr6⟩
          rw [HST.out, List.length_append, h5v.out]
          simp
        · have e5 : ((l.length : Int) == 512) = false := by rw [beq_eq_false_iff_ne]; omega
          have hl5 : l.length < 512 := by omega
          have hbase := HOV.out.2
          have hown := HOV.out.1
          have lvb : ∀ k, v.ownBlock = some k → V.heap.size ≤ k := fun k e => (HOV.out.cells k e).1
          have nlv : v.ownBlock ≠ some w1.heap.size := fun e => by have := lvb _ e; omega
          have nbv : v.ownBlock ≠ some w2.heap.size := fun e => by have := lvb _ e; omega
          have zl : w1.heap.size < Z.heap.size := World.block_lt_of_cell? Z _ hv
          have zb : w2.heap.size < Z.heap.size := World.block_lt_of_cell? Z _ cb
          clear lvb h5
          rcases HOV.out.forms with ⟨rfl, hnil⟩ | ⟨g, cap, rfl⟩
          · have hl0 : l.length = 0 := by rw [hnil]; rfl
            have e50 : ((0 : Int) == 512) = false := by decide
            have HNIL := Lib.hid hnil
            clear hnil
            gi_wp2_with fail
            refine ⟨trivial, ?_⟩
            gi_wp2_with (gi_at_builtin; refine wpListIn_append_own_at _ rfl _ _ 39 rfl V.heap.size 34 i0 (.agg #[.int .i64 0, .int .i64 0]) 2 16 Tryd.underlying39 hi hz0 hz1 hz2 rfl (by decide) _ _ _ rfl (hown.alloc _) ⟨Z.heap.size, 0, none⟩ 1 1 [.int .i64 b, .int .i64 x] rfl rfl (lit_cells Z [.int .i64 b, .int .i64 x] _) (by intro q hq; simp at hq; rcases hq with rfl | rfl <;> rfl) (by unfold maxLen; omega) (by omega) (le_alloc hbase _) ?_; intro v' w9 hown' hgrow0 _ hat0; have hgrow : (Z.alloc (.cells #[.int .i64 b, .int .i64 x] 34)).grownBy w9 (Value.slice none 0 0).ownBlock := hgrow0; have hat : v'.ownBlock = (Value.slice none 0 0).ownBlock ∨ v'.ownBlock = some (Z.alloc (.cells #[.int .i64 b, .int .i64 x] 34)).heap.size := hat0; clear hgrow0 hat0; obtain ⟨g2, cap2, rfl⟩ := ownsRow_succ hown'; have kl := (World.cell?_of_block (grown_block hgrow zl nlv)).trans hv; have kb := (World.cell?_of_block (grown_block hgrow zb nbv)).trans cb; have ul := (World.frozen?_of_block (grown_block hgrow zl nlv)).trans fl; have ub := (World.frozen?_of_block (grown_block hgrow zb nbv)).trans fb)
            obtain rfl : l = [] := HNIL.out
            refine ⟨fun k => (k = w.heap.size + 1 + 1 + 1 ∨ k = w.heap.size + 1 + 1 + 1 + 1 ∨ k = w1.heap.size ∨ k = w2.heap.size) ∨ (Value.slice (some ⟨g2, 0, none⟩) (0 + 1) cap2).ownBlock = some k, ?_, ?_, ?_⟩
            · rintro k (h | h)
              · exact .inl ((HC.out k).2 (.inl h))
              · rcases hat with h' | h'
                · exact .inl ((HC.out k).2 (.inr (h'.symm.trans h)))
                · have e : k = (Z.alloc (.cells #[.int .i64 b, .int .i64 x] 34)).heap.size := by
                    have := h.symm.trans h'
                    injection this
                  refine .inr ?_
                  rw [e]
                  exact Nat.le_trans KO.out.size (by simp)
            · exact ((KO.out.push (fun k e => (HC.out k).2 (.inr e)) hgrow).set ((HC.out _).2 (.inl (.inr (.inr (.inl rfl))))) _).set ((HC.out _).2 (.inl (.inr (.inr (.inr rfl))))) _
            · dsimp only
              rw [HST.out]
              exact HN.out.push (p := (b, x)) (by omega) (by omega) (by omega) hv HOV.out hl5 (by rw [List.length_append, spV_snoc]; exact hown') hgrow
          · gi_wp2_with fail
            refine ⟨trivial, ?_⟩
            gi_wp2_with (gi_at_builtin; refine wpListIn_append_own_at _ rfl _ _ 39 rfl V.heap.size 34 i0 (.agg #[.int .i64 0, .int .i64 0]) 2 16 Tryd.underlying39 hi hz0 hz1 hz2 rfl (by decide) _ _ _ rfl (hown.alloc _) ⟨Z.heap.size, 0, none⟩ 1 1 [.int .i64 b, .int .i64 x] rfl rfl (lit_cells Z [.int .i64 b, .int .i64 x] _) (by intro q hq; simp at hq; rcases hq with rfl | rfl <;> rfl) (by unfold maxLen; omega) (by omega) (le_alloc hbase _) ?_; intro v' w9 hown' hgrow0 _ hat0; have hgrow : (Z.alloc (.cells #[.int .i64 b, .int .i64 x] 34)).grownBy w9 (Value.slice (some ⟨g, 0, none⟩) l.length cap).ownBlock := hgrow0; have hat : v'.ownBlock = (Value.slice (some ⟨g, 0, none⟩) l.length cap).ownBlock ∨ v'.ownBlock = some (Z.alloc (.cells #[.int .i64 b, .int .i64 x] 34)).heap.size := hat0; clear hgrow0 hat0; obtain ⟨g2, cap2, rfl⟩ := ownsRow_succ hown'; have kl := (World.cell?_of_block (grown_block hgrow zl nlv)).trans hv; have kb := (World.cell?_of_block (grown_block hgrow zb nbv)).trans cb; have ul := (World.frozen?_of_block (grown_block hgrow zl nlv)).trans fl; have ub := (World.frozen?_of_block (grown_block hgrow zb nbv)).trans fb)
            refine ⟨fun k => (k = w.heap.size + 1 + 1 + 1 ∨ k = w.heap.size + 1 + 1 + 1 + 1 ∨ k = w1.heap.size ∨ k = w2.heap.size) ∨ (Value.slice (some ⟨g2, 0, none⟩) (l.length + 1) cap2).ownBlock = some k, ?_, ?_, ?_⟩
            · rintro k (h | h)
              · exact .inl ((HC.out k).2 (.inl h))
              · rcases hat with h' | h'
                · exact .inl ((HC.out k).2 (.inr (h'.symm.trans h)))
                · have e : k = (Z.alloc (.cells #[.int .i64 b, .int .i64 x] 34)).heap.size := by
                    have := h.symm.trans h'
                    injection this
                  refine .inr ?_
                  rw [e]
                  exact Nat.le_trans KO.out.size (by simp)
            · exact ((KO.out.push (fun k e => (HC.out k).2 (.inr e)) hgrow).set ((HC.out _).2 (.inl (.inr (.inr (.inl rfl))))) _).set ((HC.out _).2 (.inl (.inr (.inr (.inr rfl))))) _
            · dsimp only
              rw [HST.out]
              exact HN.out.push (p := (b, x)) (by omega) (by omega) (by omega) hv HOV.out hl5 (by rw [List.length_append, spV_snoc]; exact hown') hgrow
      · have hstep := HST0.out
        rw [if_neg hb0] at hstep
        have HST := Lib.hid hstep
        have hbn : decide (0 ≤ b) = false := decide_eq_false hb0
        clear hstep hb0
        gi_wp2_with fail
        refine ⟨trivial, ?_⟩
        gi_wp2_with fail
        refine ⟨C, fun k hk => .inl hk, KO.out, ?_⟩
        dsimp only
        rw [HST.out]
        exact HN.out
  case done =>
    rintro D xs C X hD nD rfl hN hK
    obtain ⟨v, hv, ho, hc⟩ := hN.row
    have r6 := hN.r6
    have f6 := hN.f6
    have r7 := hN.r7
    have f7 := hN.f7
    have hR1 : limP (foldS (hS d s e f u o sm T') (edL d s e o sm F' T')).1 = (foldS (hS d s e f u o sm T') (edL d s e o sm F' T')).1 := if_pos hN.len
    have hR2 : limC (foldS (hS d s e f u o sm T') (edL d s e o sm F' T')).1 = 0 := if_pos hN.len
    rw [← RL.out] at hR1 hR2 ho
    obtain ⟨R, hR⟩ : ∃ R, runsL (hB d s e f u o sm) F T = R := ⟨_, rfl⟩
    have HR1 : Hid (limP (runsL (hB d s e f u o sm) F T) = R) := Lib.hid (by rw [hR1, hR])
    have HR2 := Lib.hid hR2
    rw [hR] at ho
    clear hR1 hR2
    have HB := Lib.hid hN.below
    have HK := Lib.hid hK
    have hcell := ho.cells
    have HO := Lib.hid ho
    clear hN hK hc hR ho
    have hdisj : ∀ g, v.ownBlock = some g → g ≠ w.heap.size + 1 + 1 + 1 ∧ g ≠ w.heap.size + 1 + 1 + 1 + 1 ∧ g ≠ D := fun g hg => by
      obtain ⟨g1, g2, o', g3, g4⟩ := hcell g hg
      refine ⟨by omega, by omega, fun e => ?_⟩
      subst e
      rw [HK.out] at g3
      cases g3
      cases g4
    have HD := Lib.hid hdisj
    clear hcell hdisj
    have hfin : ∀ W, W = ((X.setCell ⟨w.heap.size + 1 + 1 + 1, 0, none⟩ v).setCell ⟨w.heap.size + 1 + 1 + 1 + 1, 0, none⟩ (.int .i64 0)) →
        W.heap[D]? = some (.deferred (some [])) ∧ W.cell? ⟨w.heap.size + 1 + 1 + 1, 0, none⟩ = some v ∧ W.cell? ⟨w.heap.size + 1 + 1 + 1 + 1, 0, none⟩ = some (.int .i64 0) ∧ OwnP (W.putObj D (.deferred none)) w.heap.size v R ∧ Below w.heap.size w (W.putObj D (.deferred none)) := fun W hW => by
      have k7 : (X.setCell ⟨w.heap.size + 1 + 1 + 1, 0, none⟩ v).cell? ⟨w.heap.size + 1 + 1 + 1 + 1, 0, none⟩ = some (.int .i64 0) := (World.cell?_of_block (set_block X (w.heap.size + 1 + 1 + 1) 0 _ (w.heap.size + 1 + 1 + 1 + 1) (by omega))).trans r7
      have hD' : W.heap[D]? = some (.deferred (some [])) := by rw [hW]; exact ((KeepsOthers.setCell _ _ _).same D _ ((KeepsOthers.setCell _ _ _).same D _ HK.out rfl) rfl)
      have hB' : Below w.heap.size w W := by rw [hW]; exact ((HB.out.setCell (p := ⟨w.heap.size + 1 + 1 + 1, 0, none⟩) (by simp; omega) _).setCell (p := ⟨w.heap.size + 1 + 1 + 1 + 1, 0, none⟩) (by simp; omega) _)
      refine ⟨hD', ?_, ?_, ?_, hB'.trans (belowK_b (w := w) (Nat.le_refl _) W D _ _ (by omega) hD' rfl rfl)⟩
      · rw [hW, World.cell?_of_block (set_block _ (w.heap.size + 1 + 1 + 1 + 1) 0 _ (w.heap.size + 1 + 1 + 1) (by omega))]
        exact World.cell?_setCell_same' _ _ _ (by rw [r6]; rfl)
      · rw [hW]; exact World.cell?_setCell_same' _ _ _ (by rw [k7]; rfl)
      · refine (HO.out.mono (b' := w.heap.size) (by omega)).block ?_ (fun g hg => ?_)
        · rw [hW]; simp only [World.putObj_size]; exact Nat.le_trans (KeepsOthers.setCell _ _ _).size (KeepsOthers.setCell _ _ _).size
        · obtain ⟨d1, d2, d3⟩ := HD.out g hg
          rw [World.putObj_heap_other d3, hW, set_block _ _ _ _ g d2, set_block _ _ _ _ g d1]
    have HFIN := Lib.hid hfin
    clear hfin
    rcases HO.out.forms with ⟨rfl, hnil⟩ | ⟨g, cap, rfl⟩
    · clear hnil
      gi_wp2_with fail
      obtain ⟨x1, x2, x3, x4, x5⟩ := HFIN.out _ rfl
      refine ⟨by simp, .inl ⟨_, _, rfl, run_takeDeferred x1, ?_⟩⟩
      have y2 := cell_kept x2 (grownBy_putObj' _ D (.deferred none)) (fun r e => by cases e; exact ⟨_, x1, rfl⟩)
      have y3 := cell_kept x3 (grownBy_putObj' _ D (.deferred none)) (fun r e => by cases e; exact ⟨_, x1, rfl⟩)
      refine ⟨.tuple #[.slice none 0 0, .int .i64 0], ?_, ?_⟩
      · simp [results, Tryd.f9, go_sem, y2, y3]
      · rw [HR1.out, HR2.out]; exact ⟨_, rfl, x4, x5⟩
    · gi_wp2_with fail
      obtain ⟨x1, x2, x3, x4, x5⟩ := HFIN.out _ rfl
      refine ⟨by simp, .inl ⟨_, _, rfl, run_takeDeferred x1, ?_⟩⟩
      have y2 := cell_kept x2 (grownBy_putObj' _ D (.deferred none)) (fun r e => by cases e; exact ⟨_, x1, rfl⟩)
      have y3 := cell_kept x3 (grownBy_putObj' _ D (.deferred none)) (fun r e => by cases e; exact ⟨_, x1, rfl⟩)
      refine ⟨.tuple #[.slice (some ⟨g, 0, none⟩) R.length cap, .int .i64 0], ?_, ?_⟩
      · simp [results, Tryd.f9, go_sem, y2, y3]
      · rw [HR1.out, HR2.out]; exact ⟨_, rfl, x4, x5⟩
  case stop =>
    rintro D c pre C X hD nD hpre ⟨rfl, hlen, hX⟩ hK
    have hbig : 512 < (foldS (hS d s e f u o sm T') (edL d s e o sm F' T')).1.length := by
      obtain ⟨q, hq⟩ := hpre
      rw [← hq]
      exact Nat.lt_of_lt_of_le hlen (foldS_len _ pre q)
    have hR1 : limP (foldS (hS d s e f u o sm T') (edL d s e o sm F' T')).1 = [] := if_neg (by omega)
    have hR2 : limC (foldS (hS d s e f u o sm T') (edL d s e o sm F' T')).1 = 3 := if_neg (by omega)
    rw [← RL.out] at hR1 hR2
    have HR1 := Lib.hid hR1
    have HR2 := Lib.hid hR2
    have r6 := hX.r6
    have r7 := hX.r7
    have HB := Lib.hid hX.below
    have HK := Lib.hid hK
    clear hR1 hR2 hbig hlen hX hK
    gi_wp2_with fail
    refine ⟨by simp, .inl ⟨_, _, rfl, run_takeDeferred HK.out, ?_⟩⟩
    have y2 := cell_kept r6 (grownBy_putObj' _ D (.deferred none)) (fun r e => by cases e; exact ⟨_, HK.out, rfl⟩)
    have y3 := cell_kept r7 (grownBy_putObj' _ D (.deferred none)) (fun r e => by cases e; exact ⟨_, HK.out, rfl⟩)
    have hb' := HB.out.trans (belowK_b (w := w) (Nat.le_refl _) X D _ (.deferred none) (by omega) HK.out rfl rfl)
    refine ⟨.tuple #[.slice none 0 0, .int .i64 3], ?_, ?_⟩
    · simp [results, Tryd.f9, go_sem, y2, y3]
    · rw [HR1.out, HR2.out]; exact ⟨_, rfl, OwnP.none_ _ _ hb'.size, hb'⟩
end Go.Proofs.YtmapkiefmbgdoabDoor
