/-
  The reference's Parse at every string.
-/
import Derived.Test.YtjjhdbodjcffaaaDoorMonAE
namespace Go.Proofs.YtjjhdbodjcffaaaDoor
open Go.RowKit
open IntWalk

theorem am_list {s : ByteArray} {v : Int} (h : IsAm s v) : s.data.toList = sgn v ++ (body v ++ (46 :: (frac v ++ (32 :: (parC s).data.toList)))) := by
  conv => lhs; rw [← h.2.2]
  rw [fmt_list v (parC s) h.1.1 h.1.2]; rfl
theorem am_sign {s : ByteArray} {v : Int} (h : IsAm s v) (h0 : 0 < s.size) : (v < 0 ↔ s[0].toNat = 45) := by
  have hl := am_list h
  have hg : some s[0] = s.data.toList[0]? := by
    rw [List.getElem?_eq_getElem (by simpa using h0)]; simp [ByteArray.getElem_eq_getElem_data]
  rw [hl] at hg
  unfold sgn at hg
  constructor
  · intro hv
    rw [if_pos hv] at hg
    simp at hg
    rw [hg]; rfl
  · intro h45
    by_cases hv : v < 0
    · exact hv
    · exfalso
      rw [if_neg hv, List.nil_append, List.getElem?_append_left (by have := body_pos v; omega)] at hg
      have := dec_digs _ _ (List.mem_of_getElem? hg.symm : s[0] ∈ body v)
      omega
theorem rparse_run (s : ByteArray) (w : World) (hs : s.size ≤ 2000000) :
    Calls Tryd.prog 24 #[.string s] w fun e w' => e = parR s ∧ Below w.heap.size w w' := by
  by_cases h0 : 0 < s.size
  · by_cases hx : ∃ v, IsAm s v
    · obtain ⟨v, hv⟩ := hx
      have hl := am_list hv
      have hsg := am_sign hv h0
      rw [parR_ok hv]
      by_cases h45 : s[0].toNat = 45
      · have hv0 := hsg.2 h45
        have ht : (s.extract 1 s.size).data.toList = body v ++ (46 :: (frac v ++ (32 :: (parC s).data.toList))) := by
          rw [Lib.extract_to_end, hl]
          unfold sgn
          rw [if_pos hv0]; rfl
        obtain ⟨g1, g2⟩ := good_of _ (parC s) v hv.1 hv.2.1 ht
        have := rparse_yes_n s _ v w hs h0 h45 rfl hv.1 hv0 g1 (by rw [g2]; exact hv.2.2)
        rw [g2] at this
        exact this
      · have hv0 : ¬ v < 0 := fun h => h45 (hsg.1 h)
        have ht : s.data.toList = body v ++ (46 :: (frac v ++ (32 :: (parC s).data.toList))) := by
          rw [hl]
          unfold sgn
          rw [if_neg hv0]; rfl
        obtain ⟨g1, g2⟩ := good_of _ (parC s) v hv.1 hv.2.1 ht
        have := rparse_yes_p s s v w hs h0 h45 rfl hv.1 (by omega) g1 (by rw [g2]; exact hv.2.2)
        rw [g2] at this
        exact this
    · have hno : ∀ v, ¬ IsAm s v := fun v hv => hx ⟨v, hv⟩
      rw [parR_no hno]
      by_cases h45 : s[0].toNat = 45
      · exact rparse_no_n s _ w hs h0 h45 rfl hno
      · exact rparse_no_p s s w hs h0 h45 rfl hno
  · have e : s = ⟨#[]⟩ := by
      apply ByteArray.ext
      exact Array.eq_empty_of_size_eq_zero (by have : s.data.size = s.size := rfl
                                               omega)
    subst e
    rw [parR_no (fun v hv => by have := am_size hv; exact absurd this (by decide))]
    exact (rparse_none w).mono fun e w' ⟨he, hw⟩ => ⟨he, hw ▸ Below.refl _ _⟩
end Go.Proofs.YtjjhdbodjcffaaaDoor
