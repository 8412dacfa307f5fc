/-
  The arguments of the laws.
-/
import Derived.Test.YtjkempammohkaaaFlO
import Derived.ProofKit
import Derived.OpenShut
import Derived.ChangeOld
import Derived.ChangeSlices
import Derived.Deep.DeepHandedRow
import Derived.Deep.Fields
import Derived.Deep.Slices
import Derived.Lib.SmallJoins
namespace Go.Proofs.Ytjkempammohkaaa
open Go.RowKit
open IntWalk
open Go.ChangeShapes Go.WideShapes Go.Deep
set_option linter.unusedVariables false

theorem own : ownKnob Try.prog.godebug = none := by kernel_rfl
theorem laidOut : laidOutB Try.prog = true := by kernel_rfl
theorem cellsArc : Try.prog.cellsOf 50 = 3 := by kernel_rfl
theorem cellsNet : Try.prog.cellsOf 24 = 2 := by kernel_rfl
theorem cellsI : Try.prog.cellsOf 3 = 1 := by kernel_rfl
theorem arr_two (cs : Array Value) (h : cs.size = 2) : ∃ c0 c1, cs = #[c0, c1] := by
  obtain ⟨l⟩ := cs
  match l, h with
  | [c0, c1], _ => exact ⟨c0, c1, rfl⟩
theorem arr_five (cs : Array Value) (h : cs.size = 5) : ∃ c0 c1 c2 c3 c4, cs = #[c0, c1, c2, c3, c4] := by
  obtain ⟨l⟩ := cs
  match l, h with
  | [c0, c1, c2, c3, c4], _ => exact ⟨c0, c1, c2, c3, c4, rfl⟩
instance acInh : Inhabited Ac := ⟨⟨0, 0, 0⟩⟩
section
variable {H : Type} {enc : TypeId × Value → H} {W : World} {base : Nat} {spare : Nat → Bool} {held : Bool} {v : Value} {d : DataW H} {p : List MemPlace} {r : Reach} {b0 : Nat}
set_option maxRecDepth 100000 in
theorem int_cell {fuel : Nat} {c : Value} {x : DataW H × List MemPlace} (h : DataW.trod enc Try.prog W base spare held fuel 3 [c] = some x) : ∃ z : Int, c = .int .i64 z ∧ (Lit.int .i64 z).wf = true := by
  obtain ⟨z, e, _, hw⟩ := DataW.trod_int Try.underlying3 h
  exact ⟨z, (List.cons.inj e).1, hw⟩
set_option maxRecDepth 100000 in
theorem arc_cells {fuel : Nat} {cs : List Value} {x : DataW H × List MemPlace} (h : DataW.trod enc Try.prog W base spare held fuel 50 cs = some x) : ∃ a b c : Int, cs[0]? = some (.int .i64 a) ∧ cs[1]? = some (.int .i64 b) ∧ cs[2]? = some (.int .i64 c) := by
  obtain ⟨xs, n, _, _, hc, hlen, hg⟩ := DataW.trod_struct Try.underlying50 h
  rw [cellsArc] at hc
  match cs, hc with
  | [c0, c1, c2], _ =>
    have h0 := hg 0 _ rfl
    have h1 := hg 1 _ rfl
    have h2 := hg 2 _ rfl
    rw [List.getElem?_eq_getElem (show 0 < xs.length by rw [hlen]; decide)] at h0
    rw [List.getElem?_eq_getElem (show 1 < xs.length by rw [hlen]; decide)] at h1
    rw [List.getElem?_eq_getElem (show 2 < xs.length by rw [hlen]; decide)] at h2
    obtain ⟨a, e0, _⟩ := int_cell h0
    obtain ⟨b, e1, _⟩ := int_cell h1
    obtain ⟨c, e2, _⟩ := int_cell h2
    exact ⟨a, b, c, by rw [e0]; rfl, by rw [e1]; rfl, by rw [e2]; rfl⟩
set_option maxRecDepth 100000 in
theorem arcs_cell {fuel : Nat} {c : Value} {x : DataW H × List MemPlace} (hf : DataW.trod enc Try.prog W base spare held fuel 22 [c] = some x) : ∃ (p : Option Addr) (l : List Ac) (k : Nat), c = .slice p l.length k ∧ l.length ≤ maxLen ∧ NetAt W p l := by
  rcases open_slice Try.underlying22 hf with ⟨hn, _⟩ | ⟨a, len, cap, m, n, D, Pl, hc, hb, hl, hm, hmm, _, hi⟩
  · have e : c = .slice none 0 0 := (List.cons.inj hn).1
    rw [e]; exact ⟨none, [], 0, rfl, Nat.zero_le _, fun h => absurd rfl h⟩
  · have e : c = .slice (some a) len cap := (List.cons.inj hc).1
    rw [e]
    rw [cellsArc] at hi
    have hlm : len ≤ m := by rw [hmm]; split <;> omega
    have key : ∀ i, i < len → ∃ s : Ac, W.cell? (a.add (i * 3)) = some (.int .i64 s.f) ∧ W.cell? ((a.add (i * 3)).add 1) = some (.int .i64 s.t) ∧ W.cell? ((a.add (i * 3)).add 2) = some (.int .i64 s.c) := fun i hil => by
      obtain ⟨cs', h1, h2⟩ := hi i (by omega)
      obtain ⟨x, y, z, e0, e1, e2⟩ := arc_cells h2
      obtain ⟨_, _, h3⟩ := World.cells?_some h1
      refine ⟨⟨x, y, z⟩, ?_, ?_, ?_⟩
      · have := h3 0 (by decide); rw [e0] at this; simpa [Addr.add] using this
      · have := h3 1 (by decide); rw [e1] at this; exact this
      · have := h3 2 (by decide); rw [e2] at this; exact this
    obtain ⟨F, hF⟩ := choose_lt (α := Ac) key
    refine ⟨some a, (List.range len).map F, cap, by simp, by simp; omega, fun hne => ?_⟩
    have hpos : 0 < len := by
      by_cases c : 0 < len
      · exact c
      · exfalso; apply hne; simp [show len = 0 by omega]
    obtain ⟨b, o, spot⟩ := a
    have h0 := (hF 0 hpos).1
    have hs : spot = none := by
      cases spot with
      | none => rfl
      | some x =>
        have hz : W.cell? (Addr.add ⟨b, o, some x⟩ (0 * 3)) = none := by
          simp only [Nat.zero_mul, Addr.add, World.cell?]
          split <;> simp
        rw [hz] at h0; cases h0
    subst hs
    refine ⟨b, o, rfl, World.block_lt_of_cell? W _ h0, fun i hi' => ?_⟩
    have hil : i < len := by simpa using hi'
    obtain ⟨c1, c2, c3⟩ := hF i hil
    rw [Addr.add_lit] at c1 c2 c3
    rw [Addr.add_lit] at c2 c3
    simp only [List.getElem_map, List.getElem_range]
    exact ⟨c1, c2, c3⟩
set_option maxRecDepth 100000 in
theorem ints_cell {fuel : Nat} {cs : List Value} {x : DataW H × List MemPlace} (h : DataW.trod enc Try.prog W base spare held fuel 30 cs = some x) : ∃ (p : Option Addr) (L : List Int) (k : Nat), cs = [.slice p L.length k] ∧ L.length ≤ maxLen ∧ IAt W p L := by
  rcases Go.ChangeShapes.open_ints Try.underlying30 Try.underlying3 cellsI h with ⟨hn, _⟩ | ⟨a, len, cap, zs, hc, hb, hl, hm, hzl, _, hcell, hwf⟩
  · exact ⟨none, [], 0, hn, Nat.zero_le _, fun h => absurd rfl h⟩
  · have hle : len ≤ zs.length := by rw [hzl]; split <;> omega
    have hlen : (zs.take len).length = len := by rw [List.length_take]; omega
    refine ⟨some a, zs.take len, cap, by rw [hlen]; exact hc, by rw [hlen]; omega, fun hne => ?_⟩
    have hpos : 0 < len := by
      by_cases c : 0 < len
      · exact c
      · exfalso; apply hne; rw [show len = 0 by omega]; rfl
    have h0 := hcell 0 (by omega)
    obtain ⟨b, o, spot⟩ := a
    have hs : spot = none := by
      cases spot with
      | none => rfl
      | some s =>
        have hz : W.cell? (Addr.add ⟨b, o, some s⟩ 0) = none := by
          simp only [Addr.add, World.cell?]
          split <;> simp
        rw [hz] at h0; cases h0
    subst hs
    refine ⟨b, o, rfl, World.block_lt_of_cell? W _ h0, fun i hi => ?_⟩
    rw [hlen] at hi
    have h1 := hcell i (by omega)
    rw [Addr.add_lit] at h1
    rw [h1, List.getElem_take]
    simp [show i < zs.length by omega]
set_option maxRecDepth 100000 in
theorem net_cells {fuel : Nat} {c0 c1 : Value} {x : DataW H × List MemPlace} (h : DataW.trod enc Try.prog W base spare held fuel 24 [c0, c1] = some x) : ∃ (N : Int) (p : Option Addr) (l : List Ac) (k : Nat), c0 = .int .i64 N ∧ c1 = .slice p l.length k ∧ l.length ≤ maxLen ∧ NetAt W p l := by
  obtain ⟨xs, n, _, _, _, hlen, hg⟩ := DataW.trod_struct Try.underlying24 h
  have h0 := hg 0 _ rfl
  have h1 := hg 1 _ rfl
  rw [List.getElem?_eq_getElem (show 0 < xs.length by rw [hlen]; decide)] at h0
  rw [List.getElem?_eq_getElem (show 1 < xs.length by rw [hlen]; decide)] at h1
  have h1' : DataW.trod enc Try.prog W base spare held n 22 [c1] = some _ := h1
  obtain ⟨a, e0, _⟩ := int_cell h0
  obtain ⟨q, l, k, e1, hl, hn⟩ := arcs_cell h1'
  exact ⟨a, q, l, k, e0, e1, hl, hn⟩
set_option maxRecDepth 100000 in
/-- A network that comes in. -/
theorem net_form (hv : Value.okWide Try.prog W r b0 24 v) (h : DataW.Trod enc Try.prog W base spare held 24 v d p) :
    ∃ (N : Int) (q : Option Addr) (l : List Ac) (k : Nat), v = .agg #[.int .i64 N, .slice q l.length k] ∧ l.length ≤ maxLen ∧ NetAt W q l := by
  obtain ⟨cs, rfl, hsz⟩ := okWide_struct Try.underlying24 hv
  rw [cellsNet] at hsz
  obtain ⟨c0, c1, rfl⟩ := arr_two cs hsz
  obtain ⟨fuel, hf⟩ := h
  obtain ⟨N, q, l, k, rfl, rfl, hl, hn⟩ := net_cells (show DataW.trod enc Try.prog W base spare held fuel 24 [c0, c1] = some _ from hf)
  exact ⟨N, q, l, k, rfl, hl, hn⟩
set_option maxRecDepth 100000 in
/-- A claim that comes in. -/
theorem claim_form (hv : Value.okWide Try.prog W r b0 42 v) (h : DataW.Trod enc Try.prog W base spare held 42 v d p) :
    ∃ (N : Int) (q : Option Addr) (l : List Ac) (k : Nat) (s t : Int) (q2 : Option Addr) (L : List Int) (k2 : Nat), v = .agg #[.int .i64 N, .slice q l.length k, .int .i64 s, .int .i64 t, .slice q2 L.length k2] ∧ l.length ≤ maxLen ∧ NetAt W q l ∧ L.length ≤ maxLen ∧ IAt W q2 L := by
  obtain ⟨cs, rfl, hsz⟩ := okWide_struct Try.underlying42 hv
  rw [show Try.prog.cellsOf 42 = 5 by kernel_rfl] at hsz
  obtain ⟨c0, c1, c2, c3, c4, rfl⟩ := arr_five cs hsz
  obtain ⟨fuel, hf⟩ := h
  obtain ⟨xs, n, _, _, _, hlen, hg⟩ := DataW.trod_struct Try.underlying42 hf
  have h0 := hg 0 _ rfl
  have h1 := hg 1 _ rfl
  have h2 := hg 2 _ rfl
  have h3 := hg 3 _ rfl
  rw [List.getElem?_eq_getElem (show 0 < xs.length by rw [hlen]; decide)] at h0
  rw [List.getElem?_eq_getElem (show 1 < xs.length by rw [hlen]; decide)] at h1
  rw [List.getElem?_eq_getElem (show 2 < xs.length by rw [hlen]; decide)] at h2
  rw [List.getElem?_eq_getElem (show 3 < xs.length by rw [hlen]; decide)] at h3
  have h0' : DataW.trod enc Try.prog W base spare held n 24 [c0, c1] = some _ := h0
  have h1' : DataW.trod enc Try.prog W base spare held n 3 [c2] = some _ := h1
  have h2' : DataW.trod enc Try.prog W base spare held n 3 [c3] = some _ := h2
  have h3' : DataW.trod enc Try.prog W base spare held n 30 [c4] = some _ := h3
  obtain ⟨N, q, l, k, rfl, rfl, hl, hn⟩ := net_cells h0'
  obtain ⟨s, rfl, _⟩ := int_cell h1'
  obtain ⟨t, rfl, _⟩ := int_cell h2'
  obtain ⟨q2, L, k2, e, hL, hI⟩ := ints_cell h3'
  obtain rfl := (List.cons.inj e).1
  exact ⟨N, q, l, k, s, t, q2, L, k2, rfl, hl, hn, hL, hI⟩
end
/-- A row of integers as a list. -/
theorem list_of {w : World} {b n m : Nat} {f : Nat → Int} (hm : m = n) (h : w.rowIs b 3 m (iv f)) : IAt w (some ⟨b, 0, none⟩) (List.map f (List.range n)) ∧ ∀ i, i < m → f i = fL (List.map f (List.range n)) i := by
  subst hm
  refine ⟨fun _ => ⟨b, 0, rfl, h.lt, fun i hi => ?_⟩, fun i hi => ?_⟩
  · have hi' : i < m := by simpa using hi
    rw [Nat.zero_add, h.cell hi']
    simp [iv]
  · unfold fL
    simp [hi]
theorem out_congr {G : Fl.Nt} {f g : Nat → Int} (h : ∀ i, i < G.m → f i = g i) (v : Nat) : G.out f v = G.out g v :=
  Fl.sm_congr fun i hi => by show Fl.give _ _ (f i) v = Fl.give _ _ (g i) v; rw [h i hi]
theorem best_congr {G : Fl.Nt} {s t : Nat} {f g : Nat → Int} {c : Nat → Bool} (B : G.Best s t f c) (h : ∀ i, i < G.m → f i = g i) : G.Best s t g c := by
  have cl : ∀ S, G.Closed f S ↔ G.Closed g S := fun S => ⟨fun k => ⟨fun i hi a b => k.along i hi a (by rw [h i hi]; exact b), fun i hi a b => k.back i hi a (by rw [h i hi]; exact b)⟩, fun k => ⟨fun i hi a b => k.along i hi a (by rw [← h i hi]; exact b), fun i hi a b => k.back i hi a (by rw [← h i hi]; exact b)⟩⟩
  exact ⟨⟨fun i hi => by rw [← h i hi]; exact B.flow.lo i hi, fun i hi => by rw [← h i hi]; exact B.flow.hi i hi, fun v hv h1 h2 => by rw [← out_congr h v]; exact B.flow.keep v hv h1 h2⟩, ⟨B.reach.src, (cl _).1 B.reach.closed, fun S h1 h2 => B.reach.least S h1 ((cl _).2 h2)⟩, B.not⟩
/-- The network that came in lies in the call's first block. -/
structure KN (w : World) (N : Int) (p : Option Addr) (n c : Nat) (X : World) : Prop where
  b : Below w.heap.size w X
  lt : w.heap.size < X.heap.size
  c0 : X.cell? ⟨w.heap.size, 0, none⟩ = some (.int .i64 N)
  c1 : X.cell? ⟨w.heap.size, 1, none⟩ = some (.slice p n c)
theorem KN.start (w : World) (N : Int) (p : Option Addr) (n c : Nat) (T : TypeId) : KN w N p n c (w.alloc (.cells #[.int .i64 N, .slice p n c] T)) :=
  ⟨(Below.refl _ _).alloc (Nat.le_refl _) _, by simp, by simp, by simp⟩
theorem KN.step {w X Y : World} {N : Int} {p : Option Addr} {n c : Nat} (h : KN w N p n c X) (b : Below X.heap.size X Y) : KN w N p n c Y :=
  ⟨h.b.trans (b.mono (Nat.le_of_lt h.lt)), Nat.lt_of_lt_of_le h.lt b.size, (b.cell (p := ⟨w.heap.size, 0, none⟩) h.lt).trans h.c0, (b.cell (p := ⟨w.heap.size, 1, none⟩) h.lt).trans h.c1⟩
/-- What is reached by another greatest flow is the same. -/
theorem best_of {G : Fl.Nt} {s t : Nat} (ht : t < G.N) {f : Nat → Int} {c S : Nat → Bool} (B : G.Best s t f c) (R : G.Reach f s S) : G.Best s t f S :=
  ⟨B.flow, R, by
    cases e : S t
    · rfl
    · have := R.least c B.reach.src B.reach.closed t ht e
      rw [B.not] at this
      exact absurd this (by decide)⟩
theorem wf_i64 {x : Int} (h : (Lit.int .i64 x).wf = true) : -9223372036854775808 ≤ x ∧ x ≤ 9223372036854775807 := by
  simp [Lit.wf, IntKind.min, IntKind.max, IntKind.signed, IntKind.bits] at h
  omega
theorem wf_u64 {x : Int} (h : (Lit.int .u64 x).wf = true) : 0 ≤ x ∧ x ≤ 18446744073709551615 := by
  simp [Lit.wf, IntKind.min, IntKind.max, IntKind.signed, IntKind.bits] at h
  omega
theorem wf_u32 {x : Int} (h : (Lit.int .u32 x).wf = true) : 0 ≤ x ∧ x ≤ 4294967295 := by
  simp [Lit.wf, IntKind.min, IntKind.max, IntKind.signed, IntKind.bits] at h
  omega
theorem wf_u8 {x : Int} (h : (Lit.int .u8 x).wf = true) : 0 ≤ x ∧ x ≤ 255 := by
  simp [Lit.wf, IntKind.min, IntKind.max, IntKind.signed, IntKind.bits] at h
  omega
end Go.Proofs.Ytjkempammohkaaa
