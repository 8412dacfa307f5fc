/-
  The arguments of the laws that are records.
-/
import Derived.Test.YtlnnkdnnhmeldaaFiR
namespace Go.Proofs.Ytlnnkdnnhmeldaa
open Go.RowKit
open IntWalk
open Go.ChangeShapes Go.WideShapes Go.Deep
set_option linter.unusedVariables false

theorem cellsField : Try.prog.cellsOf 56 = 2 := by kernel_rfl
theorem wf_i64 {x : Int} (h : (Lit.int .i64 x).wf = true) : -9223372036854775808 ≤ x ∧ x < 9223372036854775808 := by
  simp [Lit.wf, IntKind.min, IntKind.max, IntKind.signed, IntKind.bits] at h
  omega
section
variable {H : Type} {enc : TypeId × Value → H} {W : World} {base : Nat} {spare : Nat → Bool} {held : Bool} {v : Value} {d : DataW H} {p : List MemPlace} {r : Reach} {b0 : Nat}
set_option maxRecDepth 100000 in
theorem field_cells {fuel : Nat} {cs : List Value} {x : DataW H × List MemPlace} (h : DataW.trod enc Try.prog W base spare held fuel 56 cs = some x) : ∃ (a : Int) (u : Value) (l : List UInt8), cs[0]? = some (.int .i64 a) ∧ cs[1]? = some u ∧ RdB W u l := by
  obtain ⟨xs, n, _, _, hc, hlen, hg⟩ := DataW.trod_struct Try.underlying56 h
  rw [cellsField] at hc
  match cs, hc with
  | [c0, c1], _ =>
    have h0 := hg 0 _ rfl
    have h1 := hg 1 _ rfl
    rw [List.getElem?_eq_getElem (show 0 < xs.length by rw [hlen]; decide)] at h0
    rw [List.getElem?_eq_getElem (show 1 < xs.length by rw [hlen]; decide)] at h1
    have h0' : DataW.trod enc Try.prog W base spare held n 3 [c0] = some _ := h0
    have h1' : DataW.trod enc Try.prog W base spare held n 22 [c1] = some _ := h1
    obtain ⟨a, e0, _⟩ := DataW.trod_int Try.underlying3 h0'
    obtain ⟨u, l, e1, hr⟩ := bytes_cells h1'
    exact ⟨a, u, l, by rw [(List.cons.inj e0).1]; rfl, by rw [(List.cons.inj e1).1]; rfl, hr⟩
set_option maxRecDepth 100000 in
theorem fields_form (hv : Value.okWide Try.prog W r b0 31 v) (h : DataW.Trod enc Try.prog W base spare held 31 v d p) : ∃ fs : List Fd, RdF W v fs := by
  obtain ⟨a0, len0, cap0, rfl⟩ := okWide_slice Try.underlying31 hv
  obtain ⟨fuel, hf⟩ := h
  rcases open_slice Try.underlying31 hf with ⟨hn, _⟩ | ⟨a, len, cap, m, n, D, Pl, hc, hb, hl, hm, hmm, _, hi⟩
  · have e : Value.slice a0 len0 cap0 = .slice none 0 0 := (List.cons.inj hn).1
    rw [e]; exact ⟨[], rdF_nil W⟩
  · have e : Value.slice a0 len0 cap0 = .slice (some a) len cap := (List.cons.inj hc).1
    rw [e]
    rw [cellsField] at hi
    have hlm : len ≤ m := by rw [hmm]; split <;> omega
    have key : ∀ i, i < len → ∃ s : (Int × Value) × List UInt8, W.cell? (a.add (i * 2)) = some (.int .i64 s.1.1) ∧ W.cell? ((a.add (i * 2)).add 1) = some s.1.2 ∧ RdB W s.1.2 s.2 := fun i hil => by
      obtain ⟨cs', h1, h2⟩ := hi i (by omega)
      obtain ⟨x, u, l, e0, e1, hr⟩ := field_cells h2
      obtain ⟨_, _, h3⟩ := World.cells?_some h1
      refine ⟨((x, u), l), ?_, ?_, hr⟩
      · have := h3 0 (by decide); rw [e0] at this; simpa [Addr.add] using this
      · have := h3 1 (by decide); rw [e1] at this; exact this
    haveI : Inhabited ((Int × Value) × List UInt8) := ⟨((0, .bool false), [])⟩
    obtain ⟨F, hF⟩ := choose_lt (α := (Int × Value) × List UInt8) key
    have hL : ((List.range len).map (fun i => (((F i).1.1, (F i).2) : Fd))).length = len := by simp
    refine ⟨(List.range len).map (fun i => ((F i).1.1, (F i).2)), some a, cap, (List.range len).map (fun i => (F i).1), by rw [hL], by rw [hL]; exact hl, hm, by simp, ?_, fun hne => ?_⟩
    · intro i h1 h2
      have hil : i < len := by simpa using h1
      simp only [List.getElem_map, List.getElem_range]
      exact ⟨trivial, (hF i hil).2.2⟩
    · have hpos : 0 < len := by
        by_cases c : 0 < len
        · exact c
        · exfalso; apply hne; simp [show len = 0 by omega]
      obtain ⟨b, o, spot⟩ := a
      have h0 := (hF 0 hpos).1
      have hs : spot = none := by
        cases spot with
        | none => rfl
        | some x =>
          have hz : W.cell? (Addr.add ⟨b, o, some x⟩ (0 * 2)) = none := by
            simp only [Nat.zero_mul, Addr.add, World.cell?]
            split <;> simp
          rw [hz] at h0; cases h0
      subst hs
      refine ⟨b, o, rfl, World.block_lt_of_cell? W _ h0, fun i hi' => ?_⟩
      have hil : i < len := by simpa using hi'
      obtain ⟨c1, c2, _⟩ := hF i hil
      rw [Addr.add_lit] at c1 c2
      rw [Addr.add_lit] at c2
      simp only [List.getElem_map, List.getElem_range]
      exact ⟨c1, c2⟩
end
end Go.Proofs.Ytlnnkdnnhmeldaa
