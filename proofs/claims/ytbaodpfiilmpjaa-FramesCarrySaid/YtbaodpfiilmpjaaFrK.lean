/-
  The payloads of a stream: plain facts; rows of slices.
-/
import Derived.Test.YtbaodpfiilmpjaaFrJ
namespace Go.Proofs.Ytbaodpfiilmpjaa.F
open Go.RowKit
open IntWalk

/-- The payload of a segment, if it is a frame. -/
def upk (x : List UInt8) : List (List UInt8) := match unR (192 :: (x ++ [192])) with | .ok p => [p] | .error _ => []
/-- The payloads behind a mark, x having come since. -/
def pay (x : List UInt8) : List UInt8 → List (List UInt8)
  | [] => []
  | c :: t => if c = 192 then upk x ++ pay [] t else pay (x ++ [c]) t
/-- What comes behind the last mark. -/
def lst (x : List UInt8) : List UInt8 → List UInt8
  | [] => x
  | c :: t => if c = 192 then lst [] t else lst (x ++ [c]) t
/-- What comes behind the first mark. -/
def after : List UInt8 → Option (List UInt8)
  | [] => none
  | c :: t => if c = 192 then some t else after t
def feedP (s : List UInt8) : List (List UInt8) := match after s with | none => [] | some t => pay [] t
def feedR (s : List UInt8) : List UInt8 := match after s with | none => [] | some t => if (lst [] t).length + 1 ≤ 8198 then 192 :: lst [] t else []
theorem split_mark (t : List UInt8) (h : (192 : UInt8) ∈ t) : ∃ x t', t = x ++ 192 :: t' ∧ (192 : UInt8) ∉ x := by
  induction t with
  | nil => cases h
  | cons c t ih =>
    by_cases hc : c = 192
    · exact ⟨[], t, by rw [hc]; rfl, by simp⟩
    · obtain ⟨x, t', e, hx⟩ := ih (by rcases List.mem_cons.1 h with h | h; exact absurd h.symm hc; exact h)
      exact ⟨c :: x, t', by rw [e]; rfl, fun hm => by rcases List.mem_cons.1 hm with h | h; exact hc h.symm; exact hx h⟩
theorem pay_jump (x : List UInt8) (hx : (192 : UInt8) ∉ x) (t : List UInt8) : ∀ y, pay y (x ++ 192 :: t) = upk (y ++ x) ++ pay [] t := by
  induction x with
  | nil => intro y; rw [List.nil_append, pay, if_pos rfl, List.append_nil]
  | cons c x ih =>
    intro y
    have hc : c ≠ 192 := fun e => hx (by rw [e]; exact List.mem_cons_self ..)
    rw [List.cons_append, pay, if_neg hc, ih (fun h => hx (List.mem_cons_of_mem _ h)), List.append_assoc]; rfl
theorem lst_jump (x : List UInt8) (hx : (192 : UInt8) ∉ x) (t : List UInt8) : ∀ y, lst y (x ++ 192 :: t) = lst [] t := by
  induction x with
  | nil => intro y; rw [List.nil_append, lst, if_pos rfl]
  | cons c x ih =>
    intro y
    have hc : c ≠ 192 := fun e => hx (by rw [e]; exact List.mem_cons_self ..)
    rw [List.cons_append, lst, if_neg hc, ih (fun h => hx (List.mem_cons_of_mem _ h))]
theorem pay_stop (t : List UInt8) (h : (192 : UInt8) ∉ t) : ∀ y, pay y t = [] := by
  induction t with
  | nil => intro y; rfl
  | cons c t ih =>
    intro y
    have hc : c ≠ 192 := fun e => h (by rw [e]; exact List.mem_cons_self ..)
    rw [pay, if_neg hc]; exact ih (fun hm => h (List.mem_cons_of_mem _ hm)) _
theorem lst_stop (t : List UInt8) (h : (192 : UInt8) ∉ t) : ∀ y, lst y t = y ++ t := by
  induction t with
  | nil => intro y; rw [lst, List.append_nil]
  | cons c t ih =>
    intro y
    have hc : c ≠ 192 := fun e => h (by rw [e]; exact List.mem_cons_self ..)
    rw [lst, if_neg hc, ih (fun hm => h (List.mem_cons_of_mem _ hm)), List.append_assoc]; rfl
theorem after_none (s : List UInt8) (h : (192 : UInt8) ∉ s) : after s = none := by
  induction s with
  | nil => rfl
  | cons c t ih =>
    have hc : c ≠ 192 := fun e => h (by rw [e]; exact List.mem_cons_self ..)
    rw [after, if_neg hc]; exact ih (fun hm => h (List.mem_cons_of_mem _ hm))
theorem after_some (x t : List UInt8) (h : (192 : UInt8) ∉ x) : after (x ++ 192 :: t) = some t := by
  induction x with
  | nil => rw [List.nil_append, after, if_pos rfl]
  | cons c x ih =>
    have hc : c ≠ 192 := fun e => h (by rw [e]; exact List.mem_cons_self ..)
    rw [List.cons_append, after, if_neg hc]; exact ih (fun hm => h (List.mem_cons_of_mem _ hm))

/-! Rows of slices. -/
theorem Try.sliceInfo : (Try.prog.info? 23).map (fun i => (i.zero, i.size, i.bytes)) = some (some (.slice none 0 0), 1, 24) := by kernel_rfl
/-- A row of the call's own that holds slices that read as these lists. -/
def OwnP (w : World) (base : Nat) (v : Value) (ls : List (List UInt8)) : Prop :=
  ∃ vs : List Value, w.ownsRow base 23 1 v vs.length vs ∧ vs.length = ls.length ∧ base ≤ w.heap.size ∧ (∀ u ∈ vs, u.oneCell' = true) ∧ ∀ i (h : i < vs.length) (hz : i < ls.length), Fr w base (vs[i]'h) (ls[i]'hz)
theorem OwnP.none_ (w : World) (base : Nat) (h : base ≤ w.heap.size) : OwnP w base (.slice none 0 0) [] := ⟨[], ⟨rfl, .inl ⟨rfl, rfl⟩⟩, rfl, h, (fun u hu => by cases hu), (fun i h => absurd h (by simp))⟩
/-- A value reads as a list of slices. -/
def RdP (w : World) (v : Value) (ls : List (List UInt8)) : Prop :=
  ∃ (p : Option Addr) (c : Nat) (vs : List Value), v = .slice p ls.length c ∧ ls.length ≤ c ∧ c ≤ maxLen ∧ vs.length = ls.length ∧ (∀ i (h : i < vs.length) (hz : i < ls.length), RdB w (vs[i]'h) (ls[i]'hz)) ∧
    (ls ≠ [] → ∃ b o, p = some ⟨b, o, none⟩ ∧ b < w.heap.size ∧ ∀ i (h : i < vs.length), w.cell? ⟨b, o + i, none⟩ = some (vs[i]'h))
theorem OwnP.rd {w : World} {base : Nat} {v : Value} {ls : List (List UInt8)} (h : OwnP w base v ls) : RdP w v ls := by
  obtain ⟨vs, ho, hl, hb, _, hf⟩ := h
  rcases ho.2 with ⟨rfl, h2⟩ | ⟨g, cap, cur, rfl, _, hh, h3, h4, _, _⟩
  · have : ls = [] := List.length_eq_zero_iff.1 (by rw [← hl]; exact h2)
    subst this
    exact ⟨none, 0, [], rfl, Nat.le_refl _, Nat.zero_le _, rfl, fun i h => absurd h (by simp), fun h => absurd rfl h⟩
  · refine ⟨some ⟨g, 0, none⟩, cap, vs, by rw [hl], by omega, h4, hl, fun i h hz => (hf i h hz).rd, fun _ => ⟨g, 0, rfl, (ho.lt g rfl).2, fun i hi => ?_⟩⟩
    have := ho.cells (g := g) rfl i vs[i] (by simp [hi])
    rw [Addr.add_lit] at this
    exact this
/-- A slice that was made keeps where rows of slices grow. -/
theorem Fr.grown {w w1 : World} {base : Nat} {v u : Value} {l : List UInt8} {o : Obj} {n : Nat} {xs : List Value} (h : Fr w base u l) (ho : w.ownsRow base 23 1 v n xs) (hg : (w.alloc o).grownBy w1 v.ownBlock) : Fr w1 base u l := by
  obtain ⟨p, c, h1, h2, h3, h4⟩ := h
  refine ⟨p, c, h1, h2, h3, fun hn => ?_⟩
  obtain ⟨g, q, cs, e, hb, hh, hc⟩ := h4 hn
  refine ⟨g, q, cs, e, hb, ?_, hc⟩
  have hlt : g < w.heap.size := by
    rcases Nat.lt_or_ge g w.heap.size with hl | hl
    · exact hl
    · rw [Array.getElem?_eq_none hl] at hh; cases hh
  rw [hg.block g (by simp; omega) ?_, Below.heap_alloc w o g hlt]
  · exact hh
  · intro e2
    rcases ho.2 with ⟨rfl, _⟩ | ⟨g', cap, cur, rfl, _, hh2, _⟩
    · simp [Value.ownBlock] at e2
    · have : g = g' := by simpa [Value.ownBlock] using e2
      subst this
      rw [hh] at hh2
      injection hh2 with hh2
      injection hh2 with _ ht
      exact absurd ht (by decide)
theorem Fr.kept {w w1 : World} {base B : Nat} {u : Value} {l : List UInt8} (h : Fr w base u l) (hb : Below B w w1) (hB : w.heap.size ≤ B) : Fr w1 base u l := by
  obtain ⟨p, c, h1, h2, h3, h4⟩ := h
  refine ⟨p, c, h1, h2, h3, fun hn => ?_⟩
  obtain ⟨g, q, cs, e, hb2, hh, hc⟩ := h4 hn
  have hlt : g < w.heap.size := by
    rcases Nat.lt_or_ge g w.heap.size with hl | hl
    · exact hl
    · rw [Array.getElem?_eq_none hl] at hh; cases hh
  exact ⟨g, q, cs, e, hb2, (hb.block g (by omega)).trans hh, hc⟩
theorem Fr.down {w : World} {base base' : Nat} {u : Value} {l : List UInt8} (h : Fr w base u l) (hb : base' ≤ base) : Fr w base' u l := by
  obtain ⟨p, c, h1, h2, h3, h4⟩ := h
  refine ⟨p, c, h1, h2, h3, fun hn => ?_⟩
  obtain ⟨g, q, cs, e, hb2, hh, hc⟩ := h4 hn
  exact ⟨g, q, cs, e, by omega, hh, hc⟩
theorem OwnP.kept {w w1 : World} {base B : Nat} {v : Value} {ls : List (List UInt8)} (h : OwnP w base v ls) (hb : Below B w w1) (hB : w.heap.size ≤ B) : OwnP w1 base v ls := by
  obtain ⟨vs, ho, hl, hbs, h1, hf⟩ := h
  refine ⟨vs, ⟨ho.1, ?_⟩, hl, Nat.le_trans hbs hb.size, h1, fun i h hz => (hf i h hz).kept hb hB⟩
  rcases ho.2 with e | ⟨g, cap, cur, e, h2, hh, h3⟩
  · exact .inl e
  · refine .inr ⟨g, cap, cur, e, h2, ?_, h3⟩
    have hlt : g < w.heap.size := by
      rcases Nat.lt_or_ge g w.heap.size with hl | hl
      · exact hl
      · rw [Array.getElem?_eq_none hl] at hh; cases hh
    exact (hb.block g (by omega)).trans hh
theorem OwnB.fr {w : World} {base : Nat} {v : Value} {l : List UInt8} (h : OwnB w base v l) : Fr w base v l := by
  by_cases hl : l = []
  · subst hl
    obtain ⟨p, c, e, h2, h3, _⟩ := h.rd
    exact ⟨p, c, e, h2, h3, fun hn => absurd rfl hn⟩
  · obtain ⟨g, cap, rfl, h1, h2, _⟩ := own_form h hl
    have := own_take (m := l.length) (c' := cap) h (Nat.le_refl _) h1 h2
    rw [List.take_length] at this
    exact this
/-- One payload more. -/
theorem OwnP.more {w w1 : World} {base : Nat} {v v' u : Value} {ls : List (List UInt8)} {l : List UInt8} {vs : List Value} {o : Obj} (ho : w.ownsRow base 23 1 v vs.length vs) (hl : vs.length = ls.length) (hbs : base ≤ w.heap.size) (h1 : ∀ u ∈ vs, u.oneCell' = true)
    (hf : ∀ i (h : i < vs.length) (hz : i < ls.length), Fr w base (vs[i]'h) (ls[i]'hz)) (hu : Fr w base u l) (hr : w1.ownsRow base 23 1 v' (vs.length + 1) (vs ++ [u])) (hg : (w.alloc o).grownBy w1 v.ownBlock) :
    OwnP w1 base v' (ls ++ [l]) ∧ Below base w w1 := by
  have hb : Below base w w1 := ((Below.refl base w).alloc hbs o).grown hg (le_alloc hbs o) (fun k hk => (ho.lt k hk).1)
  refine ⟨⟨vs ++ [u], by rw [List.length_append]; exact hr, by simp [hl], Nat.le_trans hbs hb.size, ?_, ?_⟩, hb⟩
  · intro x hx
    rcases List.mem_append.1 hx with h | h
    · exact h1 x h
    · simp only [List.mem_singleton] at h
      subst h
      obtain ⟨p, c, e, _⟩ := hu
      rw [e]; rfl
  · intro i hi hi'
    by_cases c : i < vs.length
    · rw [List.getElem_append_left c, List.getElem_append_left (by omega)]
      exact (hf i c (by omega)).grown ho hg
    · rw [List.getElem_append_right (by omega), List.getElem_append_right (by omega)]
      simp only [List.getElem_singleton]
      exact hu.grown ho hg
end Go.Proofs.Ytbaodpfiilmpjaa.F
