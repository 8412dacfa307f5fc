/-
  The arguments of the laws.
-/
import Derived.Test.YtoalhgbdekbklaaByB
import Derived.ProofKit
import Derived.OpenShut
import Derived.ChangeOld
import Derived.ChangeSlices
import Derived.Deep.DeepHandedRow
import Derived.Deep.Fields
import Derived.Deep.Slices
namespace Go.Proofs.Ytoalhgbdekbklaa
open Go.RowKit
open IntWalk
open Go.ChangeShapes Go.WideShapes Go.Deep
set_option linter.unusedVariables false
set_option linter.unusedVariables false

theorem own : ownKnob Try.prog.godebug = none := by kernel_rfl
theorem laidOut : laidOutB Try.prog = true := by kernel_rfl
theorem cellsByte : Try.prog.cellsOf 5 = 1 := by kernel_rfl
theorem cellsBytes : Try.prog.cellsOf 23 = 1 := by kernel_rfl
theorem wf_u8 {x : Int} (h : (Lit.int .u8 x).wf = true) : 0 ≤ x ∧ x < 256 := by
  simp [Lit.wf, IntKind.min, IntKind.max, IntKind.signed, IntKind.bits] at h
  omega
theorem wf_u16 {x : Int} (h : (Lit.int .u16 x).wf = true) : 0 ≤ x ∧ x < 65536 := by
  simp [Lit.wf, IntKind.min, IntKind.max, IntKind.signed, IntKind.bits] at h
  omega
theorem plain_addr {w : World} {a : Addr} {v : Value} (h : w.cell? a = some v) : a.spot = none ∨ ∃ b o s, a = ⟨b, o, some s⟩ := by
  obtain ⟨b, o, spot⟩ := a
  cases spot with
  | none => exact .inl rfl
  | some s => exact .inr ⟨b, o, s, rfl⟩
section
variable {H : Type} {enc : TypeId × Value → H} {W : World} {base : Nat} {spare : Nat → Bool} {held : Bool} {v : Value} {d : DataW H} {p : List MemPlace} {r : Reach} {b0 : Nat}
theorem bytes_cells {fuel : Nat} {cs : List Value} {x : DataW H × List MemPlace} (h : DataW.trod enc Try.prog W base spare held fuel 23 cs = some x) : ∃ v l, cs = [v] ∧ RdB W v l := by
  rcases Go.ChangeShapes.open_ints Try.underlying23 Try.underlying5 cellsByte h with ⟨hn, _⟩ | ⟨a, len, cap, zs, hc, hb, hl, hm, hzl, _, hcell, hwf⟩
  · exact ⟨_, [], hn, rdB_nil W⟩
  · refine ⟨_, (zs.take len).map (fun z => UInt8.ofNat z.toNat), hc, ?_⟩
    have hle : len ≤ zs.length := by rw [hzl]; split <;> omega
    have hlen : ((zs.take len).map (fun z => UInt8.ofNat z.toNat)).length = len := by rw [List.length_map, List.length_take]; omega
    refine ⟨some a, cap, by rw [hlen], by rw [hlen]; exact hl, hm, fun hne => ?_⟩
    have hpos : 0 < len := by
      by_cases c : 0 < len
      · exact c
      · exfalso; apply hne; rw [show len = 0 by omega]; rfl
    have h0 := hcell 0 (by omega)
    obtain ⟨b, o, spot⟩ := a
    have hs : spot = none := by
      cases spot with
      | none => rfl
      | some s =>
        have hz : W.cell? (Addr.add ⟨b, o, some s⟩ 0) = none := by
          simp only [Addr.add, World.cell?]
          split <;> simp
        rw [hz] at h0; cases h0
    subst hs
    refine ⟨b, o, rfl, World.block_lt_of_cell? W _ h0, fun i hi => ?_⟩
    rw [hlen] at hi
    have h1 := hcell i (by omega)
    rw [Addr.add_lit] at h1
    rw [h1]
    simp only [List.getElem_map, List.getElem_take]
    have hz : zs.getD i 0 = zs[i]'(by omega) := by rw [List.getD_eq_getElem?_getD, List.getElem?_eq_getElem (by omega)]; rfl
    rw [hz]
    have hw := wf_u8 (hwf _ (List.getElem_mem (show i < zs.length by omega)))
    unfold bv
    congr 2
    rw [UInt8.toNat_ofNat']
    omega
theorem bytes_form (hv : Value.okWide Try.prog W r b0 23 v) (h : DataW.Trod enc Try.prog W base spare held 23 v d p) : ∃ l, RdB W v l := by
  obtain ⟨fuel, hf⟩ := h
  obtain ⟨a0, len0, cap0, rfl⟩ := okWide_slice Try.underlying23 hv
  obtain ⟨u, l, e, hr⟩ := bytes_cells hf
  have e2 : Value.slice a0 len0 cap0 = u := (List.cons.inj e).1
  rw [e2]
  exact ⟨l, hr⟩
end
theorem AtB.put {w : World} {b o : Nat} {l : List UInt8} (h : AtB w b o l) (k : Nat) (x : UInt8) (a : Addr) (ha : a = ⟨b, o + k, none⟩) : AtB (w.setCell a (bv x)) b o (l.set k x) := by
  subst ha
  have hsz : (w.setCell ⟨b, o + k, none⟩ (bv x)).heap.size = w.heap.size := by simp [World.setCell]
  refine ⟨by rw [hsz]; exact h.1, fun i hi => ?_⟩
  rw [List.length_set] at hi
  by_cases e : i = k
  · subst e
    rw [World.cell?_setCell_same w _ _ (h.2 i (by simpa using hi)), List.getElem_set_self]
  · rw [World.cell?_setCell_other w _ _ _ (by intro he; injection he with _ h2; omega), h.2 i hi, List.getElem_set_ne (by omega)]
theorem own_at {w : World} {base g n cap : Nat} {l : List UInt8} (h : OwnB w base (.slice (some ⟨g, 0, none⟩) n cap) l) (hne : l ≠ []) : AtB w g 0 l := by
  obtain ⟨p', c', e', _, _, h4⟩ := h.rd
  obtain ⟨b', o', e'', h5⟩ := h4 hne
  subst e''
  injection e' with e1
  injection e1 with e1
  injection e1 with e1 e3
  subst e1; subst e3
  exact h5
end Go.Proofs.Ytoalhgbdekbklaa
