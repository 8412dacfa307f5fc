/-
  The arguments of money's laws, and the library's variables as they are laid.
-/
import Derived.Test.YtjjhdbodjcffaaaDoorMonAB
import Derived.Test.YtjjhdbodjcffaaaDoorCards
import Derived.Test.YtjjhdbodjcffaaaDoorTie
import Derived.WalkKit
import Derived.ProofKit
import Derived.OpenShut
import Derived.ShutString
import Derived.LaidMore
import Derived.ChangeOld
import Derived.Deep.DeepHandedRow
import Derived.Lay
import Derived.SevenTiedAt
import Derived.Lib.SmallJoins
import Derived.Lib.LaidTab
import Derived.Stop.LaidErr
import Derived.Deep.Fields
import Derived.Deep.Slices
namespace Go.Proofs.YtjjhdbodjcffaaaDoor
open Go.RowKit
open Go.ChangeShapes Go.WideShapes Go.Deep
set_option linter.unusedVariables false

theorem own : ownKnob Tryd.prog.godebug = none := by kernel_rfl
theorem laidOut : laidOutB Tryd.prog = true := by kernel_rfl
theorem cellsInt : Tryd.prog.cellsOf 3 = 1 := by kernel_rfl
theorem wf_int {x : Int} (h : (Lit.int .i64 x).wf = true) : I64 x := by
  simp [Lit.wf, IntKind.min, IntKind.max, IntKind.signed, IntKind.bits] at h
  exact h
theorem star : "*" ++ "errors.errorString" = "*errors.errorString" := by decide
theorem ptrRow (u : TypeId) (h : Tryd.prog.typeName? 3 u = some "*errors.errorString") : u = 105 :=
  typeName_ptr_named (nm := "errors.errorString") (by rw [star]; kernel_rfl) (by kernel_rfl) (by decide) u (by rw [star]; exact h)
theorem tabs_of_laid {W : World} (h : laidMetH Tryd.prog [("math/bits.deBruijn32tab", Rows.laid_math_bits_deBruijn32tab), ("math/bits.deBruijn64tab", Rows.laid_math_bits_deBruijn64tab), ("internal/strconv.uint64pow10", Rows.laid_internal_strconv_uint64pow10), ("strconv.ErrRange", Rows.laid_strconv_ErrRange), ("strconv.ErrSyntax", Rows.laid_strconv_ErrSyntax)] W) : Tabs W := by
  have h0 : laidMet Tryd.prog [("math/bits.deBruijn32tab", Rows.laid_math_bits_deBruijn32tab), ("math/bits.deBruijn64tab", Rows.laid_math_bits_deBruijn64tab), ("internal/strconv.uint64pow10", Rows.laid_internal_strconv_uint64pow10), ("strconv.ErrRange", Rows.laid_strconv_ErrRange), ("strconv.ErrSyntax", Rows.laid_strconv_ErrSyntax)] W := h
  have h2 := h0.tail.tail
  refine ⟨?_, ?_, ?_⟩
  · exact Lib.tabIs_of_head (zs := Lib.pow10Tab) (g := 2) (by kernel_rfl) (by kernel_rfl) Tryd.underlying91 Tryd.underlying45 (by kernel_rfl) (by kernel_rfl) h2
  · obtain ⟨a, s, hv, _⟩ := laid_sentinel (g := 3) h2.tail.tail (by kernel_rfl) (by kernel_rfl) Tryd.underlying64 ptrRow Tryd.underlying105 Tryd.underlying107 rfl rfl Tryd.underlying9 (by kernel_rfl) (by kernel_rfl)
    exact ⟨_, _, hv⟩
  · obtain ⟨a, s, hv, _⟩ := laid_sentinel (g := 4) h2.tail (by kernel_rfl) (by kernel_rfl) Tryd.underlying64 ptrRow Tryd.underlying105 Tryd.underlying107 rfl rfl Tryd.underlying9 (by kernel_rfl) (by kernel_rfl)
    exact ⟨_, _, hv⟩
section
variable {H : Type} {enc : TypeId × Value → H} {W : World} {base : Nat} {spare : Nat → Bool} {held : Bool} {v : Value} {d : DataW H} {p : List MemPlace} {r : Reach} {b0 : Nat}
set_option maxRecDepth 100000 in
theorem int_form (hv : Value.okWide Tryd.prog W r b0 3 v) (h : DataW.Trod enc Tryd.prog W base spare held 3 v d p) : ∃ x, v = .int .i64 x ∧ I64 x := by
  obtain ⟨x, rfl, _, _, hx⟩ := open_int Tryd.underlying3 hv h
  exact ⟨x, rfl, wf_int hx⟩
set_option maxRecDepth 100000 in
theorem ints_form (hv : Value.okWide Tryd.prog W r b0 32 v) (h : DataW.Trod enc Tryd.prog W base spare held 32 v d p) : ∃ l : List Int, RdI W v l ∧ ∀ x ∈ l, I64 x := by
  obtain ⟨a0, len0, cap0, rfl⟩ := okWide_slice Tryd.underlying32 hv
  obtain ⟨fuel, hf⟩ := h
  rcases open_slice Tryd.underlying32 hf with ⟨hn, _⟩ | ⟨a, len, cap, m, n, D, Pl, hc, hb, hl, hm, hmm, _, hi⟩
  · have e : Value.slice a0 len0 cap0 = .slice none 0 0 := (List.cons.inj hn).1
    rw [e]; exact ⟨[], ⟨none, 0, rfl, Nat.le_refl _, Nat.zero_le _, fun h => absurd rfl h⟩, fun x hx => by cases hx⟩
  · have e : Value.slice a0 len0 cap0 = .slice (some a) len cap := (List.cons.inj hc).1
    rw [e]
    rw [cellsInt] at hi
    have hlm : len ≤ m := by rw [hmm]; split <;> omega
    have key : ∀ i, i < len → ∃ s : Int, W.cell? (a.add i) = some (.int .i64 s) ∧ I64 s := fun i hil => by
      obtain ⟨cs', h1, h2⟩ := hi i (by omega)
      obtain ⟨x, e0, _, hx⟩ := DataW.trod_int Tryd.underlying3 h2
      obtain ⟨_, _, h3⟩ := World.cells?_some h1
      refine ⟨x, ?_, wf_int hx⟩
      have := h3 0 (by decide)
      rw [e0] at this
      simpa [Addr.add] using this
    obtain ⟨F, hF⟩ := choose_lt (α := Int) key
    refine ⟨(List.range len).map F, ⟨some a, cap, by simp, by simpa using hl, hm, fun hne => ?_⟩, fun x hx => ?_⟩
    · have hpos : 0 < len := by
        by_cases c : 0 < len
        · exact c
        · exfalso; apply hne; simp [show len = 0 by omega]
      obtain ⟨b, o, spot⟩ := a
      have h0 := (hF 0 hpos).1
      have hs : spot = none := by
        cases spot with
        | none => rfl
        | some x =>
          have hz : W.cell? (Addr.add ⟨b, o, some x⟩ 0) = none := by
            simp only [Addr.add, World.cell?]
            split <;> simp
          rw [hz] at h0; cases h0
      subst hs
      refine ⟨b, o, rfl, World.block_lt_of_cell? W _ h0, fun i hi' => ?_⟩
      have hil : i < len := by simpa using hi'
      obtain ⟨c1, _⟩ := hF i hil
      rw [Addr.add_lit] at c1
      simp only [List.getElem_map, List.getElem_range]
      exact c1
    · obtain ⟨i, hi2, rfl⟩ := List.mem_map.1 hx
      exact (hF i (by simpa using hi2)).2
set_option maxRecDepth 100000 in
theorem str_form (hv : Value.okWide Tryd.prog W r b0 9 v) (h : DataW.Trod enc Tryd.prog W base spare held 9 v d p) : ∃ x, v = .string x ∧ x.size ≤ 9223372036854775807 := by
  obtain ⟨x, rfl, _, _, hx⟩ := Go.ChangeMaps.open_string Tryd.underlying9 hv h
  exact ⟨x, rfl, hx⟩
set_option maxRecDepth 100000 in
theorem byte_form (hv : Value.okWide Tryd.prog W r b0 5 v) (h : DataW.Trod enc Tryd.prog W base spare held 5 v d p) : ∃ x, v = .int .u8 x ∧ 0 ≤ x ∧ x ≤ 255 := by
  obtain ⟨x, rfl, _, _, hx⟩ := open_int Tryd.underlying5 hv h
  simp [Lit.wf, IntKind.min, IntKind.max, IntKind.signed, IntKind.bits] at hx
  exact ⟨x, rfl, hx.1, by omega⟩
set_option maxRecDepth 100000 in
theorem prod_form (hv : Value.okWide Tryd.prog W r b0 29 v) (h : DataW.Trod enc Tryd.prog W base spare held 29 v d p) : ∃ a n k m, v = .agg #[.int .i64 a, .int .i64 n, .int .i64 k, .int .i64 m] ∧ Four a n k m := by
  obtain ⟨c0, c1, c2, c3, y0, y1, y2, y3, n, rfl, _, _, h0, h1, h2, h3⟩ := Joins.open_agg4 Tryd.underlying29 (by kernel_rfl) (by kernel_rfl) hv h
  obtain ⟨f0, e0, _, b0⟩ := DataW.trod_int Tryd.underlying3 h0
  obtain ⟨f1, e1, _, b1⟩ := DataW.trod_int Tryd.underlying3 h1
  obtain ⟨f2, e2, _, b2⟩ := DataW.trod_int Tryd.underlying3 h2
  obtain ⟨f3, e3, _, b3⟩ := DataW.trod_int Tryd.underlying3 h3
  simp only [List.cons.injEq, and_true] at e0 e1 e2 e3
  obtain ⟨a0, a1⟩ := wf_int b0
  obtain ⟨n0, n1⟩ := wf_int b1
  obtain ⟨d0, d1⟩ := wf_int b2
  obtain ⟨m0, m1⟩ := wf_int b3
  exact ⟨f0, f1, f2, f3, by rw [e0, e1, e2, e3], a0, a1, n0, n1, d0, d1, m0, m1⟩
end
end Go.Proofs.YtjjhdbodjcffaaaDoor
