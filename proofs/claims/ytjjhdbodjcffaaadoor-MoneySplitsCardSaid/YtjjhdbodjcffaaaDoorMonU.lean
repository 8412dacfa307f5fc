/-
  What Parse returns: the amount of which the string is the notation, or the error.
-/
import Derived.Test.YtjjhdbodjcffaaaDoorMonT
namespace Go.Proofs.YtjjhdbodjcffaaaDoor
open Go.RowKit
open IntWalk

/-- The string is the notation of an amount. -/
def IsAm (s : ByteArray) (v : Int) : Prop := I64 v ∧ curB (parC s) = true ∧ fmtS v (parC s) = s
theorem am_size {s : ByteArray} {v : Int} (h : IsAm s v) : 8 ≤ s.size := by
  have := (fmt_parts v (parC s) h.1.1 h.1.2 (curB_size h.2.1)).1
  rw [h.2.2] at this; omega
theorem am_atoi {s : ByteArray} {v : Int} (h : IsAm s v) : Lib.atoiAll (parD s).data.toList = .ok v := by
  have := (fmt_parts v (parC s) h.1.1 h.1.2 (curB_size h.2.1)).2.1
  rw [h.2.2] at this
  rw [this, atoi_back v h.1.1 h.1.2]
theorem am_one {s : ByteArray} {v u : Int} (h : IsAm s v) (h' : IsAm s u) : v = u := by
  have e := (am_atoi h).symm.trans (am_atoi h')
  injection e
theorem am_fmt {v : Int} {c : ByteArray} (h : I64 v) (hc : curB c = true) : parC (fmtS v c) = c ∧ IsAm (fmtS v c) v := by
  have e := (fmt_parts v c h.1 h.2 (curB_size hc)).2.2
  exact ⟨e, h, by rw [e]; exact hc, by rw [e]⟩
noncomputable def parV (s : ByteArray) : Int := open Classical in if h : ∃ v, IsAm s v then Classical.choose h else 0
noncomputable def parK (s : ByteArray) : ByteArray := open Classical in if ∃ v, IsAm s v then parC s else ⟨#[]⟩
noncomputable def parE (s : ByteArray) : Int := open Classical in if ∃ v, IsAm s v then 0 else 5
theorem par_ok {s : ByteArray} {v : Int} (h : IsAm s v) : parV s = v ∧ parK s = parC s ∧ parE s = 0 := by
  have hx : ∃ v, IsAm s v := ⟨v, h⟩
  refine ⟨?_, ?_, ?_⟩
  · unfold parV; rw [dif_pos hx]; exact am_one (Classical.choose_spec hx) h
  · unfold parK; rw [if_pos hx]
  · unfold parE; rw [if_pos hx]
theorem par_no {s : ByteArray} (h : ∀ v, ¬ IsAm s v) : parV s = 0 ∧ parK s = ⟨#[]⟩ ∧ parE s = 5 := by
  have hx : ¬ ∃ v, IsAm s v := fun ⟨v, hv⟩ => h v hv
  refine ⟨?_, ?_, ?_⟩
  · unfold parV; rw [dif_neg hx]
  · unfold parK; rw [if_neg hx]
  · unfold parE; rw [if_neg hx]
/-- What Parse returns. -/
noncomputable def parR (s : ByteArray) : Ending := .returned (.tuple #[.int .i64 (parV s), .string (parK s), .int .i64 (parE s)])
theorem parR_ok {s : ByteArray} {v : Int} (h : IsAm s v) : parR s = .returned (.tuple #[.int .i64 v, .string (parC s), .int .i64 0]) := by
  obtain ⟨a, b, c⟩ := par_ok h
  unfold parR; rw [a, b, c]
theorem parR_no {s : ByteArray} (h : ∀ v, ¬ IsAm s v) : parR s = parBad := by
  obtain ⟨a, b, c⟩ := par_no h
  unfold parR; rw [a, b, c]; rfl

theorem parse_run (s : ByteArray) (w : World) (hs : s.size ≤ 2000000) (hT : TabP w) (hE : ∀ W, Below w.heap.size w W → TabE W) :
    Calls Tryd.prog 23 #[.string s] w fun e w' => e = parR s ∧ Below w.heap.size w w' := by
  by_cases h8 : s.size < 8
  · rw [parR_no (fun v hv => by have := am_size hv; omega)]
    exact (parse_short s w h8).mono fun e w' ⟨he, hw⟩ => ⟨he, hw ▸ Below.refl _ _⟩
  · have hD : (parD s).size ≤ 2000000 := by
      unfold parD
      rw [ByteArray.size_append, ByteArray.size_extract, ByteArray.size_extract]; omega
    by_cases hv : ∃ v, Lib.atoiAll (parD s).data.toList = .ok v
    · obtain ⟨v, hv⟩ := hv
      obtain ⟨v0, v1⟩ := Lib.atoiAll_bounds hv
      have HA : Hid (∀ W, Below w.heap.size w W → Calls Tryd.prog 41 #[.string (parD s)] W fun e w' => e = .returned (.tuple #[.int .i64 v, .nilIface]) ∧ Below W.heap.size W w') :=
        Lib.hid (fun W _ => atoi_ok (parD s) v W hD hv)
      cases hc : curB (parC s) with
      | true =>
        refine (parse_form s (fmtS v (parC s)) v w (by omega) hs HA (Lib.hid (fun W hb => format_ok v (parC s) W v0 v1 (hT.below hb) hc))).mono fun e w' ⟨he, hw⟩ => ⟨he.trans ?_, hw⟩
        by_cases hf : fmtS v (parC s) = s
        · rw [if_pos hf, parR_ok ⟨⟨v0, v1⟩, hc, hf⟩]
        · rw [if_neg hf, parR_no]
          intro u hu
          have : v = u := by have e := hv.symm.trans (am_atoi hu); injection e
          subst this
          exact hf hu.2.2
      | false =>
        refine (parse_cur s v w (by omega) hs HA (Lib.hid (fun W hb => format_bad v (parC s) W hc))).mono fun e w' ⟨he, hw⟩ => ⟨he.trans ?_, hw⟩
        rw [parR_no]
        intro u hu
        have := hu.2.1
        rw [hc] at this; cases this
    · refine (parse_nan s w (by omega) hs (Lib.hid (fun W hb => atoi_bad (parD s) W hD (hE W hb) (fun v h => hv ⟨v, h⟩)))).mono fun e w' ⟨he, hw⟩ => ⟨he.trans ?_, hw⟩
      rw [parR_no]
      intro u hu
      exact hv ⟨u, am_atoi hu⟩
end Go.Proofs.YtjjhdbodjcffaaaDoor
