/-
  What the law WindowsDivide works on: the value that comes in, the cells that are kept, and its example.
-/
import Derived.Test.YtmapkiefmbgdoabDoorTopA
import Derived.Test.YtmapkiefmbgdoabDoorCards
import Derived.Test.YtmapkiefmbgdoabDoorTie
import Derived.ProofKit
import Derived.OpenShut
import Derived.ShutString
import Derived.Deep.DeepHandedRow
import Derived.Lib.LaidTab
import Derived.Lib.SmallJoins
import Derived.Deep.Fields
import Derived.Deep.Slices
namespace Go.Proofs.YtmapkiefmbgdoabDoor
namespace Top
open Go.ChangeShapes Go.WideShapes Go.ChangeAt Go.RowKit Go.Deep
open Cal
set_option linter.unusedVariables false

theorem own : ownKnob Tryd.prog.godebug = none := by kernel_rfl
theorem laidOut : laidOutB Tryd.prog = true := by kernel_rfl
theorem gTab : Tryd.prog.globalNamed "chargenet/calendar.lengths" = some 2 := by kernel_rfl
theorem gTabType : (Tryd.prog.globals[2]?).map (·.type) = some 118 := by kernel_rfl
theorem cellsTab : Tryd.prog.cellsOf 118 = 12 := by kernel_rfl
theorem cellsInt : Tryd.prog.cellsOf 3 = 1 := by kernel_rfl
theorem tab_of_laid {W : World} (h : laidMetH Tryd.prog [("chargenet/calendar.lengths", Rows.laid_chargenet_calendar_lengths)] W) : Tab W := by
  have ht : Lib.TabIs Tryd.prog W "chargenet/calendar.lengths" .i64 [31, 28, 31, 30, 31, 30, 31, 31, 30, 31, 30, 31] :=
    Lib.tabIs_of_head (rest := []) gTab gTabType Tryd.underlying118 Tryd.underlying3 cellsInt cellsTab h
  intro k hk
  have hc := ht.cell gTab k (by simpa using hk)
  rw [hc]
  have e : ∀ k : Fin 12, ([31, 28, 31, 30, 31, 30, 31, 31, 30, 31, 30, 31] : List Int).getD k.1 0 = tabAt k.1 := by decide
  exact congrArg (fun x => some (Value.int .i64 x)) (e ⟨k, hk⟩)
/-- A world in which the table lies as its initialiser lays it. -/
noncomputable def laidWorld (os : Os) : World :=
  { World.holding Tryd.prog os ⟨#[], #[], []⟩ with heap := (World.holding Tryd.prog os ⟨#[], #[], []⟩).heap.modify 2 fun
      | .cells _ t frozen => .cells #[.int .i64 31, .int .i64 28, .int .i64 31, .int .i64 30, .int .i64 31, .int .i64 30, .int .i64 31, .int .i64 31, .int .i64 30, .int .i64 31, .int .i64 30, .int .i64 31] t frozen
      | o => o }

/-! The value that comes in. -/
theorem cellsZone : Tryd.prog.cellsOf 32 = 2 := by kernel_rfl
theorem cellsSpan : Tryd.prog.cellsOf 34 = 2 := by kernel_rfl
theorem cellsWindow : Tryd.prog.cellsOf 30 = 5 := by kernel_rfl
theorem cellsStep : Tryd.prog.cellsOf 58 = 2 := by kernel_rfl
theorem cellsSteps : Tryd.prog.cellsOf 28 = 1 := by kernel_rfl
theorem cellsValued : Tryd.prog.cellsOf 36 = 10 := by kernel_rfl
theorem arr_ten (cs : Array Value) (h : cs.size = 10) : ∃ c0 c1 c2 c3 c4 c5 c6 c7 c8 c9, cs = #[c0, c1, c2, c3, c4, c5, c6, c7, c8, c9] := by
  obtain ⟨l⟩ := cs
  match l, h with
  | [c0, c1, c2, c3, c4, c5, c6, c7, c8, c9], _ => exact ⟨c0, c1, c2, c3, c4, c5, c6, c7, c8, c9, rfl⟩
section
variable {H : Type} {enc : TypeId × Value → H} {W : World} {base : Nat} {spare : Nat → Bool} {held : Bool} {v : Value} {d : DataW H} {p : List MemPlace} {r : Reach} {b0 : Nat}
set_option maxRecDepth 100000 in
theorem int_cell {fuel : Nat} {c : Value} {x : DataW H × List MemPlace} (h : DataW.trod enc Tryd.prog W base spare held fuel 3 [c] = some x) : ∃ z : Int, c = .int .i64 z ∧ (Lit.int .i64 z).wf = true := by
  obtain ⟨z, e, _, hw⟩ := DataW.trod_int Tryd.underlying3 h
  exact ⟨z, (List.cons.inj e).1, hw⟩
set_option maxRecDepth 100000 in
theorem two_cells {fuel : Nat} {c0 c1 : Value} {x : DataW H × List MemPlace} (h : DataW.trod enc Tryd.prog W base spare held fuel 34 [c0, c1] = some x) : ∃ a b : Int, c0 = .int .i64 a ∧ c1 = .int .i64 b ∧ (Lit.int .i64 b).wf = true := by
  obtain ⟨xs, n, _, _, _, hlen, hg⟩ := DataW.trod_struct Tryd.underlying34 h
  have h0 := hg 0 _ rfl
  have h1 := hg 1 _ rfl
  rw [List.getElem?_eq_getElem (show 0 < xs.length by rw [hlen]; decide)] at h0
  rw [List.getElem?_eq_getElem (show 1 < xs.length by rw [hlen]; decide)] at h1
  obtain ⟨a, e0, _⟩ := int_cell h0
  obtain ⟨b, e1, hw⟩ := int_cell h1
  exact ⟨a, b, e0, e1, hw⟩
set_option maxRecDepth 100000 in
theorem zone_cells {fuel : Nat} {c0 c1 : Value} {x : DataW H × List MemPlace} (h : DataW.trod enc Tryd.prog W base spare held fuel 32 [c0, c1] = some x) : ∃ (a : Int) (b : Bool), c0 = .int .i64 a ∧ c1 = .bool b := by
  obtain ⟨xs, n, _, _, _, hlen, hg⟩ := DataW.trod_struct Tryd.underlying32 h
  have h0 := hg 0 _ rfl
  have h1 := hg 1 _ rfl
  rw [List.getElem?_eq_getElem (show 0 < xs.length by rw [hlen]; decide)] at h0
  rw [List.getElem?_eq_getElem (show 1 < xs.length by rw [hlen]; decide)] at h1
  obtain ⟨a, e0, _⟩ := int_cell h0
  obtain ⟨b, e1, _⟩ := DataW.trod_bool Tryd.underlying4 h1
  exact ⟨a, b, e0, (List.cons.inj e1).1⟩
set_option maxRecDepth 100000 in
theorem five_cells {fuel : Nat} {c0 c1 c2 c3 c4 : Value} {x : DataW H × List MemPlace} (h : DataW.trod enc Tryd.prog W base spare held fuel 30 [c0, c1, c2, c3, c4] = some x) :
    ∃ a b c d e : Int, c0 = .int .i64 a ∧ c1 = .int .i64 b ∧ c2 = .int .i64 c ∧ c3 = .int .i64 d ∧ c4 = .int .i64 e := by
  obtain ⟨xs, n, _, _, _, hlen, hg⟩ := DataW.trod_struct Tryd.underlying30 h
  have h0 := hg 0 _ rfl
  have h1 := hg 1 _ rfl
  have h2 := hg 2 _ rfl
  have h3 := hg 3 _ rfl
  have h4 := hg 4 _ rfl
  rw [List.getElem?_eq_getElem (show 0 < xs.length by rw [hlen]; decide)] at h0
  rw [List.getElem?_eq_getElem (show 1 < xs.length by rw [hlen]; decide)] at h1
  rw [List.getElem?_eq_getElem (show 2 < xs.length by rw [hlen]; decide)] at h2
  rw [List.getElem?_eq_getElem (show 3 < xs.length by rw [hlen]; decide)] at h3
  rw [List.getElem?_eq_getElem (show 4 < xs.length by rw [hlen]; decide)] at h4
  obtain ⟨a, e0, _⟩ := int_cell h0
  obtain ⟨b, e1, _⟩ := int_cell h1
  obtain ⟨c, e2, _⟩ := int_cell h2
  obtain ⟨d, e3, _⟩ := int_cell h3
  obtain ⟨e, e4, _⟩ := int_cell h4
  exact ⟨a, b, c, d, e, e0, e1, e2, e3, e4⟩
set_option maxRecDepth 100000 in
theorem step_cells {fuel : Nat} {cs : List Value} {x : DataW H × List MemPlace} (h : DataW.trod enc Tryd.prog W base spare held fuel 58 cs = some x) : ∃ a b : Int, cs[0]? = some (.int .i64 a) ∧ cs[1]? = some (.int .i64 b) := by
  obtain ⟨xs, n, _, _, hc, hlen, hg⟩ := DataW.trod_struct Tryd.underlying58 h
  rw [cellsStep] at hc
  match cs, hc with
  | [c0, c1], _ =>
    have h0 := hg 0 _ rfl
    have h1 := hg 1 _ rfl
    rw [List.getElem?_eq_getElem (show 0 < xs.length by rw [hlen]; decide)] at h0
    rw [List.getElem?_eq_getElem (show 1 < xs.length by rw [hlen]; decide)] at h1
    obtain ⟨a, e0, _⟩ := int_cell h0
    obtain ⟨b, e1, _⟩ := int_cell h1
    exact ⟨a, b, by rw [e0]; rfl, by rw [e1]; rfl⟩
set_option maxRecDepth 100000 in
theorem steps_cell {fuel : Nat} {c : Value} {x : DataW H × List MemPlace} (hf : DataW.trod enc Tryd.prog W base spare held fuel 28 [c] = some x) : ∃ l : List S.Ser.St, S.Rd W c l := by
  rcases open_slice Tryd.underlying28 hf with ⟨hn, _⟩ | ⟨a, len, cap, m, n, D, Pl, hc, hb, hl, hm, hmm, _, hi⟩
  · have e : c = .slice none 0 0 := (List.cons.inj hn).1
    rw [e]; exact ⟨[], S.Rd.nil W⟩
  · have e : c = .slice (some a) len cap := (List.cons.inj hc).1
    rw [e]
    rw [cellsStep] at hi
    have hlm : len ≤ m := by rw [hmm]; split <;> omega
    have key : ∀ i, i < len → ∃ s : S.Ser.St, W.cell? (a.add (i * 2)) = some (.int .i64 s.1) ∧ W.cell? ((a.add (i * 2)).add 1) = some (.int .i64 s.2) := fun i hil => by
      obtain ⟨cs', h1, h2⟩ := hi i (by omega)
      obtain ⟨x, y, e0, e1⟩ := step_cells h2
      obtain ⟨_, _, h3⟩ := World.cells?_some h1
      refine ⟨(x, y), ?_, ?_⟩
      · have := h3 0 (by decide); rw [e0] at this; simpa [Addr.add] using this
      · have := h3 1 (by decide); rw [e1] at this; exact this
    obtain ⟨F, hF⟩ := choose_lt (α := S.Ser.St) key
    refine ⟨(List.range len).map F, some a, cap, by simp, by simpa using hl, hm, fun hne => ?_⟩
    have hpos : 0 < len := by
      by_cases c : 0 < len
      · exact c
      · exfalso; apply hne; simp [show len = 0 by omega]
    obtain ⟨b, o, spot⟩ := a
    have h0 := (hF 0 hpos).1
    have hs : spot = none := by
      cases spot with
      | none => rfl
      | some x =>
        have hz : W.cell? (Addr.add ⟨b, o, some x⟩ (0 * 2)) = none := by
          simp only [Nat.zero_mul, Addr.add, World.cell?]
          split <;> simp
        rw [hz] at h0; cases h0
    subst hs
    refine ⟨b, o, rfl, World.block_lt_of_cell? W _ h0, fun i hi' => ?_⟩
    have hil : i < len := by simpa using hi'
    obtain ⟨c1, c2⟩ := hF i hil
    rw [Addr.add_lit] at c1 c2
    rw [Addr.add_lit] at c2
    simp only [List.getElem_map, List.getElem_range]
    exact ⟨c1, c2⟩
set_option maxRecDepth 100000 in
theorem valued_form (hv : Value.okWide Tryd.prog W r b0 36 v) (h : DataW.Trod enc Tryd.prog W base spare held 36 v d p) :
    ∃ (v0 : Value) (l : List S.Ser.St) (d s e f u o : Int) (sm : Bool) (F T : Int), v = .agg #[v0, .int .i64 d, .int .i64 s, .int .i64 e, .int .i64 f, .int .i64 u, .int .i64 o, .bool sm, .int .i64 F, .int .i64 T] ∧ S.Rd W v0 l ∧ (Lit.int .i64 T).wf = true := by
  obtain ⟨cs, rfl, hsz⟩ := okWide_struct Tryd.underlying36 hv
  rw [cellsValued] at hsz
  obtain ⟨c0, c1, c2, c3, c4, c5, c6, c7, c8, c9, rfl⟩ := arr_ten cs hsz
  obtain ⟨fuel, hf⟩ := h
  obtain ⟨xs, n, _, _, _, hlen, hg⟩ := DataW.trod_struct Tryd.underlying36 hf
  have h0 := hg 0 _ rfl
  have h1 := hg 1 _ rfl
  have h2 := hg 2 _ rfl
  have h3 := hg 3 _ rfl
  rw [List.getElem?_eq_getElem (show 0 < xs.length by rw [hlen]; decide)] at h0
  rw [List.getElem?_eq_getElem (show 1 < xs.length by rw [hlen]; decide)] at h1
  rw [List.getElem?_eq_getElem (show 2 < xs.length by rw [hlen]; decide)] at h2
  rw [List.getElem?_eq_getElem (show 3 < xs.length by rw [hlen]; decide)] at h3
  have h0' : DataW.trod enc Tryd.prog W base spare held n 28 [c0] = some _ := h0
  have h1' : DataW.trod enc Tryd.prog W base spare held n 30 [c1, c2, c3, c4, c5] = some _ := h1
  have h2' : DataW.trod enc Tryd.prog W base spare held n 32 [c6, c7] = some _ := h2
  have h3' : DataW.trod enc Tryd.prog W base spare held n 34 [c8, c9] = some _ := h3
  obtain ⟨l, hl⟩ := steps_cell h0'
  obtain ⟨d, s, e, f, u, e1, e2, e3, e4, e5⟩ := five_cells h1'
  obtain ⟨o, sm, e6, e7⟩ := zone_cells h2'
  obtain ⟨F, T, e8, e9, hw⟩ := two_cells h3'
  subst e1; subst e2; subst e3; subst e4; subst e5; subst e6; subst e7; subst e8; subst e9
  exact ⟨c0, l, d, s, e, f, u, o, sm, F, T, rfl, hl, hw⟩
end
/-- The value that came in lies in the call's first block. -/
structure KV (w : World) (a0 a1 a2 a3 a4 a5 a6 a7 a8 a9 : Value) (X : World) : Prop where
  b : Below w.heap.size w X
  l : w.heap.size < X.heap.size
  c0 : X.cell? ⟨w.heap.size, 0, none⟩ = some a0
  c1 : X.cell? ⟨w.heap.size, 1, none⟩ = some a1
  c2 : X.cell? ⟨w.heap.size, 2, none⟩ = some a2
  c3 : X.cell? ⟨w.heap.size, 3, none⟩ = some a3
  c4 : X.cell? ⟨w.heap.size, 4, none⟩ = some a4
  c5 : X.cell? ⟨w.heap.size, 5, none⟩ = some a5
  c6 : X.cell? ⟨w.heap.size, 6, none⟩ = some a6
  c7 : X.cell? ⟨w.heap.size, 7, none⟩ = some a7
  c8 : X.cell? ⟨w.heap.size, 8, none⟩ = some a8
  c9 : X.cell? ⟨w.heap.size, 9, none⟩ = some a9
theorem KV.below {w X X' : World} {a0 a1 a2 a3 a4 a5 a6 a7 a8 a9 : Value} (g : KV w a0 a1 a2 a3 a4 a5 a6 a7 a8 a9 X) (b : Below X.heap.size X X') : KV w a0 a1 a2 a3 a4 a5 a6 a7 a8 a9 X' := by
  obtain ⟨h, l0, c0, c1, c2, c3, c4, c5, c6, c7, c8, c9⟩ := g
  have hc := (bcell b).1
  exact ⟨b2 h b, Nat.lt_of_lt_of_le l0 b.size, by rw [hc _ _ l0]; exact c0, by rw [hc _ _ l0]; exact c1, by rw [hc _ _ l0]; exact c2, by rw [hc _ _ l0]; exact c3, by rw [hc _ _ l0]; exact c4, by rw [hc _ _ l0]; exact c5, by rw [hc _ _ l0]; exact c6, by rw [hc _ _ l0]; exact c7, by rw [hc _ _ l0]; exact c8, by rw [hc _ _ l0]; exact c9⟩
theorem KV.new (w : World) (a0 a1 a2 a3 a4 a5 a6 a7 a8 a9 : Value) (T : TypeId) : KV w a0 a1 a2 a3 a4 a5 a6 a7 a8 a9 (w.alloc (.cells #[a0, a1, a2, a3, a4, a5, a6, a7, a8, a9] T)) := by
  refine ⟨b_new _ _, by simp, ?_, ?_, ?_, ?_, ?_, ?_, ?_, ?_, ?_, ?_⟩ <;> simp [go_sem]
/-- And a row of spans lies in a block of the call's own. -/
structure TI (w : World) (a0 a1 a2 a3 a4 a5 a6 a7 a8 a9 : Value) (g : Nat) (R : List (Int × Int)) (X : World) : Prop where
  kv : KV w a0 a1 a2 a3 a4 a5 a6 a7 a8 a9 X
  row : AtP X g R
theorem TI.below {w X X' : World} {a0 a1 a2 a3 a4 a5 a6 a7 a8 a9 : Value} {g : Nat} {R : List (Int × Int)} (h : TI w a0 a1 a2 a3 a4 a5 a6 a7 a8 a9 g R X) (b : Below X.heap.size X X') : TI w a0 a1 a2 a3 a4 a5 a6 a7 a8 a9 g R X' :=
  ⟨h.kv.below b, h.row.below b⟩
/-- And the span of the round. -/
structure TJ (w : World) (a0 a1 a2 a3 a4 a5 a6 a7 a8 a9 : Value) (g : Nat) (R : List (Int × Int)) (h : Nat) (a b : Int) (X : World) : Prop where
  ti : TI w a0 a1 a2 a3 a4 a5 a6 a7 a8 a9 g R X
  hl : h < X.heap.size
  s0 : X.cell? ⟨h, 0, none⟩ = some (.int .i64 a)
  s1 : X.cell? ⟨h, 1, none⟩ = some (.int .i64 b)
theorem TJ.below {w X X' : World} {a0 a1 a2 a3 a4 a5 a6 a7 a8 a9 : Value} {g : Nat} {R : List (Int × Int)} {h : Nat} {a b : Int} (t : TJ w a0 a1 a2 a3 a4 a5 a6 a7 a8 a9 g R h a b X) (bb : Below X.heap.size X X') : TJ w a0 a1 a2 a3 a4 a5 a6 a7 a8 a9 g R h a b X' :=
  ⟨t.ti.below bb, Nat.lt_of_lt_of_le t.hl bb.size, by rw [(bcell bb).1 _ _ t.hl]; exact t.s0, by rw [(bcell bb).1 _ _ t.hl]; exact t.s1⟩
theorem spR_len (d s e f u o : Int) (sm : Bool) (F T : Int) : (spR d s e f u o sm F T).length ≤ 512 := by
  unfold spR
  split
  · split
    · unfold limP; split
      · assumption
      · simp
    · simp
  · simp

/-! The example. -/
theorem ex_en : S.enV [(0, 5)] 0 10 = 50 ∧ S.enE [(0, 5)] 0 10 = 0 := by
  constructor <;> simp [S.enV, S.enE, S.cE, S.spB, S.Ser.validE, S.Ser.vL, S.Ser.okS, S.Ser.enR, S.fitB, Int.max_def]
set_option maxRecDepth 100000 in
set_option maxHeartbeats 8000000 in
theorem awake_any (w : World) (hT : Tab w) : Calls Tryd.prog 12 #[] w fun e w' => e = .returned (.bool true) ∧ Below w.heap.size w w' := by
  have CS := Lib.hid (fun X hX => spans_any 0 480 1020 0 (-1) 0 false 500 2000 X hX)
  rw [ex_spR.1, ex_spR.2] at CS
  have CE := Lib.hid (fun v X hR => S.energy_any v [(0, 5)] 0 10 X (by decide) hR)
  rw [ex_en.1, ex_en.2] at CE
  go_enter Tryd.func12, Tryd.ntmps12
  go_wp2_with fail
  refine (CS.out _ hT).mono ?_
  rintro e w1 ⟨v, rfl, r1, g1⟩
  obtain ⟨g, cap, rfl, hcap, hgl, x0, x1, x2, x3⟩ := r1.rd.two
  have G1 := Lib.hid g1
  clear g1 r1 CS x0 x1 x2 x3
  go_wp2_with fail
  refine (CE.out _ _ (S.built_rd w1 [(0, 5)] _ _ 1 w1.heap.size rfl rfl (by decide) rfl)).mono ?_
  rintro e w2 ⟨rfl, g2⟩
  have G2 := Lib.hid (b2 (b2 G1.out (b_new _ _)) g2)
  clear g2 CE
  go_wp2_with fail
  go_ret
  exact ⟨rfl, G2.out⟩
end Top
end Go.Proofs.YtmapkiefmbgdoabDoor
