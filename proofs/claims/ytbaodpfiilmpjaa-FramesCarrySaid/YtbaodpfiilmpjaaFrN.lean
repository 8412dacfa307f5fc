/-
  Lists of payloads compared; the examples of the chapter.
-/
import Derived.Test.YtbaodpfiilmpjaaFrM
import Derived.Lib.SmallJoins
namespace Go.Proofs.Ytbaodpfiilmpjaa.F
open Go.RowKit
open IntWalk

theorem RdP.below {w w' : World} {v : Value} {ls : List (List UInt8)} (h : RdP w v ls) (hb : Below w.heap.size w w') : RdP w' v ls := by
  obtain ⟨p, c, vs, h1, h2, h3, h4, h5, h6⟩ := h
  refine ⟨p, c, vs, h1, h2, h3, h4, fun i hi hi' => (h5 i hi hi').below hb, fun hn => ?_⟩
  obtain ⟨b, o, e, hl, hc⟩ := h6 hn
  exact ⟨b, o, e, Nat.lt_of_lt_of_le hl hb.size, fun i hi => (hb.cell (p := ⟨b, o + i, none⟩) hl).trans (hc i hi)⟩
theorem RdP.draws {w : World} {v : Value} {ls : List (List UInt8)} (h : RdP w v ls) (q : Nat) : RdP (w.drewN q) v ls := h.below (b_draws (Below.refl _ w) q)
theorem RdB.draws {w : World} {v : Value} {l : List UInt8} (h : RdB w v l) (q : Nat) : RdB (w.drewN q) v l := h.below (b_draws (Below.refl _ w) q)
/-! The examples. -/
theorem ex_crc : crc [49, 50, 51, 52, 53, 54, 55, 56, 57] = 10673 := by decide +kernel
theorem ex_frm : frm [] = [192, 255, 255, 192] := by decide +kernel
theorem ex_bad : unR [192, 0, 0, 192] = .error 7 := by
  have : contR [192, 0, 0, 192] = .ok [0, 0] := by
    unfold contR
    simp only [ne_eq, not_true_eq_false, if_false]
    rw [ins_plain 0 _ _ (by decide) (by decide), ins_plain 0 _ _ (by decide) (by decide), ins_mark, resR_done]; rfl
  have h2 := sumR_two [] 0 0 (by decide)
  rw [List.nil_append, if_neg (by decide +kernel)] at h2
  unfold unR
  rw [this]
  exact h2
theorem ex_seg : unR [192, 255, 255, 192] = .ok [] := by
  have : contR [192, 255, 255, 192] = .ok [255, 255] := by
    unfold contR
    simp only [ne_eq, not_true_eq_false, if_false]
    rw [ins_plain 255 _ _ (by decide) (by decide), ins_plain 255 _ _ (by decide) (by decide), ins_mark, resR_done]; rfl
  have h2 := sumR_two [] 255 255 (by decide)
  rw [List.nil_append, if_pos (by decide +kernel)] at h2
  unfold unR
  rw [this]
  exact h2
theorem ex_feed : feedP ([1, 192, 255] ++ [255, 192, 7]) = [[]] ∧ feedR ([1, 192, 255] ++ [255, 192, 7]) = [192, 7] := by
  have h1 : after ([1, 192, 255] ++ [255, 192, 7]) = some [255, 255, 192, 7] := by decide
  have h2 : upk [255, 255] = [[]] := by unfold upk; simp only [List.cons_append, List.nil_append, ex_seg]
  have h3 : pay [] [255, 255, 192, 7] = [[]] := by
    have := pay_jump [255, 255] (by decide) [7] []
    rw [show [255, 255] ++ 192 :: [7] = ([255, 255, 192, 7] : List UInt8) from rfl] at this
    rw [this, show [] ++ [255, 255] = ([255, 255] : List UInt8) from rfl, h2]; rfl
  have h4 : lst [] [255, 255, 192, 7] = [7] := by decide
  unfold feedP feedR
  rw [h1]
  refine ⟨h3, ?_⟩
  show (if (lst [] [255, 255, 192, 7]).length + 1 ≤ 8198 then 192 :: lst [] [255, 255, 192, 7] else []) = _
  rw [h4]; rfl

theorem after_alloc {w w1 w2 : World} {o : Obj} (h : Below w.heap.size w w1) (h2 : Below (w1.alloc o).heap.size (w1.alloc o) w2) : Below w.heap.size w w2 ∧ Below w1.heap.size w1 w2 := by
  have h3 : Below w1.heap.size w1 w2 := ((Below.refl _ w1).alloc (Nat.le_refl _) _).trans (h2.mono (by simp))
  exact ⟨bt h h3, h3⟩
theorem below_eq {w w' : World} (h : w = w') : Below w.heap.size w w' := by subst h; exact Below.refl _ _
theorem bsz {w w1 : World} (h : Below w.heap.size w w1) : w.heap.size ≤ w1.heap.size := h.size
theorem lit_rd (w : World) (l : List UInt8) (g n : Nat) (hg : g = w.heap.size) (hn : n = l.length) (hl : l.length ≤ 2000000) : RdB (w.alloc (.cells ((l.map bv).toArray) 5)) (.slice (some ⟨g, 0, none⟩) n n) l := (OwnB.new w w.heap.size n l g hg hn (Nat.le_refl _) hl).rd
theorem lit_rd_m (w : World) (l : List UInt8) (g n : Nat) (fr : Nat × Nat) (hg : g = w.heap.size) (hn : n = l.length) (hl : l.length ≤ 2000000) : RdB (w.alloc (.cells ((l.map bv).toArray) 5 fr)) (.slice (some ⟨g, 0, none⟩) n n) l := by
  subst hg hn
  refine ⟨some ⟨w.heap.size, 0, none⟩, l.length, rfl, Nat.le_refl _, by unfold maxLen; omega, fun _ => ⟨w.heap.size, 0, rfl, by simp, fun i hi => ?_⟩⟩
  rw [World.cell?_alloc_mark]
  simp [hi]
theorem rdP_one {w : World} {v : Value} {l : List UInt8} (h : RdP w v [l]) : ∃ b o c p q, v = .slice (some ⟨b, o, none⟩) 1 c ∧ 1 ≤ c ∧ c ≤ 9223372036854775807 ∧ w.cell? ⟨b, o, none⟩ = some (.slice p l.length q) := by
  obtain ⟨p, c, vs, rfl, h2, h3, h4, h5, h6⟩ := h
  obtain ⟨b, o, rfl, _, hc⟩ := h6 (by simp)
  have h0 : 0 < vs.length := by rw [h4]; simp
  obtain ⟨p, q, e, _⟩ := h5 0 h0 (by simp)
  exact ⟨b, o, c, p, q, rfl, h2, h3, by have := hc 0 h0; rw [e] at this; exact this⟩
end Go.Proofs.Ytbaodpfiilmpjaa.F
