/-
  The arguments of the laws.
-/
import Derived.Test.YtbaodpfiilmpjaaByB
import Derived.ProofKit
import Derived.OpenShut
import Derived.ChangeOld
import Derived.ChangeSlices
import Derived.Deep.DeepHandedRow
import Derived.Deep.Fields
import Derived.Deep.Slices
namespace Go.Proofs.Ytbaodpfiilmpjaa
open Go.RowKit
open IntWalk
open Go.ChangeShapes Go.WideShapes Go.Deep
set_option linter.unusedVariables false
set_option linter.unusedVariables false

theorem own : ownKnob Try.prog.godebug = none := by kernel_rfl
theorem laidOut : laidOutB Try.prog = true := by kernel_rfl
theorem cellsByte : Try.prog.cellsOf 5 = 1 := by kernel_rfl
theorem cellsBytes : Try.prog.cellsOf 23 = 1 := by kernel_rfl
theorem wf_u8 {x : Int} (h : (Lit.int .u8 x).wf = true) : 0 ≤ x ∧ x < 256 := by
  simp [Lit.wf, IntKind.min, IntKind.max, IntKind.signed, IntKind.bits] at h
  omega
theorem wf_u16 {x : Int} (h : (Lit.int .u16 x).wf = true) : 0 ≤ x ∧ x < 65536 := by
  simp [Lit.wf, IntKind.min, IntKind.max, IntKind.signed, IntKind.bits] at h
  omega
theorem plain_addr {w : World} {a : Addr} {v : Value} (h : w.cell? a = some v) : a.spot = none ∨ ∃ b o s, a = ⟨b, o, some s⟩ := by
  obtain ⟨b, o, spot⟩ := a
  cases spot with
  | none => exact .inl rfl
  | some s => exact .inr ⟨b, o, s, rfl⟩
section
variable {H : Type} {enc : TypeId × Value → H} {W : World} {base : Nat} {spare : Nat → Bool} {held : Bool} {v : Value} {d : DataW H} {p : List MemPlace} {r : Reach} {b0 : Nat}
theorem bytes_cells {fuel : Nat} {cs : List Value} {x : DataW H × List MemPlace} (h : DataW.trod enc Try.prog W base spare held fuel 23 cs = some x) : ∃ v l, cs = [v] ∧ RdB W v l := by
  rcases Go.ChangeShapes.open_ints Try.underlying23 Try.underlying5 cellsByte h with ⟨hn, _⟩ | ⟨a, len, cap, zs, hc, hb, hl, hm, hzl, _, hcell, hwf⟩
  · exact ⟨_, [], hn, rdB_nil W⟩
  · refine ⟨_, (zs.take len).map (fun z => UInt8.ofNat z.toNat), hc, ?_⟩
    have hle : len ≤ zs.length := by rw [hzl]; split <;> omega
    have hlen : ((zs.take len).map (fun z => UInt8.ofNat z.toNat)).length = len := by rw [List.length_map, List.length_take]; omega
    refine ⟨some a, cap, by rw [hlen], by rw [hlen]; exact hl, hm, fun hne => ?_⟩
    have hpos : 0 < len := by
      by_cases c : 0 < len
      · exact c
      · exfalso; apply hne; rw [show len = 0 by omega]; rfl
    have h0 := hcell 0 (by omega)
    obtain ⟨b, o, spot⟩ := a
    have hs : spot = none := by
      cases spot with
      | none => rfl
      | some s =>
        have hz : W.cell? (Addr.add ⟨b, o, some s⟩ 0) = none := by
          simp only [Addr.add, World.cell?]
          split <;> simp
        rw [hz] at h0; cases h0
    subst hs
    refine ⟨b, o, rfl, World.block_lt_of_cell? W _ h0, fun i hi => ?_⟩
    rw [hlen] at hi
    have h1 := hcell i (by omega)
    rw [Addr.add_lit] at h1
    rw [h1]
    simp only [List.getElem_map, List.getElem_take]
    have hz : zs.getD i 0 = zs[i]'(by omega) := by rw [List.getD_eq_getElem?_getD, List.getElem?_eq_getElem (by omega)]; rfl
    rw [hz]
    have hw := wf_u8 (hwf _ (List.getElem_mem (show i < zs.length by omega)))
    unfold bv
    congr 2
    rw [UInt8.toNat_ofNat']
    omega
theorem bytes_form (hv : Value.okWide Try.prog W r b0 23 v) (h : DataW.Trod enc Try.prog W base spare held 23 v d p) : ∃ l, RdB W v l := by
  obtain ⟨fuel, hf⟩ := h
  obtain ⟨a0, len0, cap0, rfl⟩ := okWide_slice Try.underlying23 hv
  obtain ⟨u, l, e, hr⟩ := bytes_cells hf
  have e2 : Value.slice a0 len0 cap0 = u := (List.cons.inj e).1
  rw [e2]
  exact ⟨l, hr⟩
theorem lists_form (hv : Value.okWide Try.prog W r b0 22 v) (h : DataW.Trod enc Try.prog W base spare held 22 v d p) : ∃ ls, RdP W v ls := by
  obtain ⟨a0, len0, cap0, rfl⟩ := okWide_slice Try.underlying22 hv
  obtain ⟨fuel, hf⟩ := h
  rcases open_slice Try.underlying22 hf with ⟨hn, _⟩ | ⟨a, len, cap, m, n, D, Pl, hc, hb, hl, hm, hmm, _, hi⟩
  · have e : Value.slice a0 len0 cap0 = .slice none 0 0 := (List.cons.inj hn).1
    rw [e]; exact ⟨[], rdP_nil W⟩
  · have e : Value.slice a0 len0 cap0 = .slice (some a) len cap := (List.cons.inj hc).1
    rw [e]
    rw [cellsBytes] at hi
    have hlm : len ≤ m := by rw [hmm]; split <;> omega
    have key : ∀ i, i < len → ∃ s : Value × List UInt8, W.cell? (a.add i) = some s.1 ∧ RdB W s.1 s.2 := fun i hil => by
      obtain ⟨cs', h1, h2⟩ := hi i (by omega)
      obtain ⟨u, l, e0, hr⟩ := bytes_cells h2
      obtain ⟨_, _, h3⟩ := World.cells?_some h1
      refine ⟨(u, l), ?_, hr⟩
      have := h3 0 (by decide); rw [e0] at this; simpa [Addr.add] using this
    haveI : Inhabited (Value × List UInt8) := ⟨(.bool false, [])⟩
    obtain ⟨F, hF⟩ := choose_lt (α := Value × List UInt8) key
    have hL : ((List.range len).map (fun i => (F i).2)).length = len := by simp
    refine ⟨(List.range len).map (fun i => (F i).2), some a, cap, (List.range len).map (fun i => (F i).1), by rw [hL], by rw [hL]; exact hl, hm, by simp, ?_, fun hne => ?_⟩
    · intro i h1 h2
      have hil : i < len := by simpa using h1
      simp only [List.getElem_map, List.getElem_range]
      exact (hF i hil).2
    · have hpos : 0 < len := by
        by_cases c : 0 < len
        · exact c
        · exfalso; apply hne; simp [show len = 0 by omega]
      obtain ⟨b, o, spot⟩ := a
      have h0 := (hF 0 hpos).1
      have hs : spot = none := by
        cases spot with
        | none => rfl
        | some x =>
          have hz : W.cell? (Addr.add ⟨b, o, some x⟩ 0) = none := by
            simp only [Addr.add, World.cell?]
            split <;> simp
          rw [hz] at h0; cases h0
      subst hs
      refine ⟨b, o, rfl, World.block_lt_of_cell? W _ h0, fun i hi' => ?_⟩
      have hil : i < len := by simpa using hi'
      have c1 := (hF i hil).1
      rw [Addr.add_lit] at c1
      simp only [List.getElem_map, List.getElem_range]
      exact c1
end
theorem AtB.put {w : World} {b o : Nat} {l : List UInt8} (h : AtB w b o l) (k : Nat) (x : UInt8) (a : Addr) (ha : a = ⟨b, o + k, none⟩) : AtB (w.setCell a (bv x)) b o (l.set k x) := by
  subst ha
  have hsz : (w.setCell ⟨b, o + k, none⟩ (bv x)).heap.size = w.heap.size := by simp [World.setCell]
  refine ⟨by rw [hsz]; exact h.1, fun i hi => ?_⟩
  rw [List.length_set] at hi
  by_cases e : i = k
  · subst e
    rw [World.cell?_setCell_same w _ _ (h.2 i (by simpa using hi)), List.getElem_set_self]
  · rw [World.cell?_setCell_other w _ _ _ (by intro he; injection he with _ h2; omega), h.2 i hi, List.getElem_set_ne (by omega)]
theorem own_at {w : World} {base g n cap : Nat} {l : List UInt8} (h : OwnB w base (.slice (some ⟨g, 0, none⟩) n cap) l) (hne : l ≠ []) : AtB w g 0 l := by
  obtain ⟨p', c', e', _, _, h4⟩ := h.rd
  obtain ⟨b', o', e'', h5⟩ := h4 hne
  subst e''
  injection e' with e1
  injection e1 with e1
  injection e1 with e1 e3
  subst e1; subst e3
  exact h5
end Go.Proofs.Ytbaodpfiilmpjaa
