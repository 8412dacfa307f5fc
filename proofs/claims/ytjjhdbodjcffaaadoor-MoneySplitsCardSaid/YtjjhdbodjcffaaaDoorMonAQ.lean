/-
  Split and the reference's, whatever comes in.
-/
import Derived.Test.YtjjhdbodjcffaaaDoorMonAP
import Derived.Test.YtjjhdbodjcffaaaDoorMonAK
namespace Go.Proofs.YtjjhdbodjcffaaaDoor
open Go.RowKit
open IntWalk
set_option linter.unusedVariables false

/-- What Split returns. -/
def spE (a : Int) (l : List Int) : Int :=
  if 512 < l.length then 3 else if a < -1099511627776 ∨ 1099511627776 < a then 2 else if ∀ x ∈ l, 0 ≤ x ∧ x ≤ 1099511627776 then (if l.sum = 0 then 1 else 0) else 2
def spL (a : Int) (l : List Int) : List Int := if spE a l = 0 then parts a l else []
theorem spE_lim {a : Int} {l : List Int} (h : 512 < l.length) : spE a l = 3 := if_pos h
theorem spE_rng {a : Int} {l : List Int} (h : ¬ 512 < l.length) (ha : a < -1099511627776 ∨ 1099511627776 < a) : spE a l = 2 := by unfold spE; rw [if_neg h, if_pos ha]
theorem spE_bad {a : Int} {l : List Int} (h : ¬ 512 < l.length) (ha : ¬ (a < -1099511627776 ∨ 1099511627776 < a)) (hb : ¬ ∀ x ∈ l, 0 ≤ x ∧ x ≤ 1099511627776) : spE a l = 2 := by unfold spE; rw [if_neg h, if_neg ha, if_neg hb]
theorem spE_zero {a : Int} {l : List Int} (h : ¬ 512 < l.length) (ha : ¬ (a < -1099511627776 ∨ 1099511627776 < a)) (hb : ∀ x ∈ l, 0 ≤ x ∧ x ≤ 1099511627776) (hz : l.sum = 0) : spE a l = 1 := by unfold spE; rw [if_neg h, if_neg ha, if_pos hb, if_pos hz]
theorem spE_ok {a : Int} {l : List Int} (h : ¬ 512 < l.length) (ha : ¬ (a < -1099511627776 ∨ 1099511627776 < a)) (hb : ∀ x ∈ l, 0 ≤ x ∧ x ≤ 1099511627776) (hz : ¬ l.sum = 0) : spE a l = 0 := by unfold spE; rw [if_neg h, if_neg ha, if_pos hb, if_neg hz]
theorem wts_of {a : Int} {l : List Int} (h : ¬ 512 < l.length) (ha : ¬ (a < -1099511627776 ∨ 1099511627776 < a)) (hb : ∀ x ∈ l, 0 ≤ x ∧ x ≤ 1099511627776) (hz : ¬ l.sum = 0) : Wts (ab a) l.sum l := by
  have h0 := (sum_in l hb).1
  refine ⟨?_, ?_, ?_, by omega, hb, rfl, by omega⟩
  · have := ab_cases a; omega
  · have := ab_cases a; omega
  · cases l with
    | nil => exact absurd rfl hz
    | cons a l => simp
/-- A list and an error come back. -/
def GivesS (w : World) (l : List Int) (E : Int) (e : Ending) (w' : World) : Prop := ∃ v, e = .returned (.tuple #[v, .int .i64 E]) ∧ RdI w' v l ∧ Below w.heap.size w w'
theorem gives_none {w : World} {a : Int} {l : List Int} {k : Int} (hk : spE a l = k) (h0 : k ≠ 0) {e : Ending} {w' : World} (h : e = .returned (.tuple #[.slice none 0 0, .int .i64 k]) ∧ w' = w) : GivesS w (spL a l) (spE a l) e w' := by
  obtain ⟨rfl, rfl⟩ := h
  unfold spL
  rw [hk, if_neg h0]
  exact ⟨_, rfl, ⟨none, 0, rfl, Nat.le_refl _, Nat.zero_le _, fun h => absurd rfl h⟩, Below.refl _ _⟩
theorem rd_cells {w : World} {p : Option Addr} {c : Nat} {l : List Int} (h : RdI w (.slice p l.length c) l) : c ≤ maxLen ∧ (l ≠ [] → ∃ b o, p = some ⟨b, o, none⟩ ∧ At1 w b o l) := by
  obtain ⟨p', c', e, _, hc, hh⟩ := h
  injection e with e1 _ e2
  subst e1; subst e2
  exact ⟨hc, hh⟩
theorem split_any (a : Int) (v : Value) (l : List Int) (w : World) (hR : RdI w v l) : Calls Tryd.prog 18 #[.int .i64 a, v] w (GivesS w (spL a l) (spE a l)) := by
  have hR' := hR
  obtain ⟨p, c, rfl, _, _, _⟩ := hR
  obtain ⟨hcm, hc⟩ := rd_cells hR'
  by_cases h : 512 < l.length
  · exact (split_lim a l p c w h).mono fun e w' x => gives_none (spE_lim h) (by decide) x
  · by_cases ha : a < -1099511627776 ∨ 1099511627776 < a
    · exact (split_rng a l p c w h ha).mono fun e w' x => gives_none (spE_rng h ha) (by decide) x
    · by_cases hb : ∀ x ∈ l, 0 ≤ x ∧ x ≤ 1099511627776
      · by_cases hz : l.sum = 0
        · exact (split_zero a l p c w h (by omega) (by omega) hcm hc hb hz).mono fun e w' x => gives_none (spE_zero h ha hb hz) (by decide) x
        · have V := wts_of h ha hb hz
          obtain ⟨b, o, rfl, hat⟩ := hc (fun e => hz (by rw [e]; rfl))
          refine (split_ok a l b o c l.length w (by omega) (by omega) V (by omega) rfl hat (sorts_any l.length V.n1 (by omega) _)).mono ?_
          rintro e w' ⟨g, rfl, hg, hrow, hbel⟩
          unfold spL
          rw [spE_ok h ha hb hz, if_pos rfl]
          exact ⟨_, rfl, row_rdi hrow rfl (by rw [parts_len]; omega), hbel⟩
      · exact (split_bad a l p c w h (by omega) (by omega) hcm hc hb).mono fun e w' x => gives_none (spE_bad h ha hb) (by decide) x
theorem rsplit_any (a : Int) (v : Value) (l : List Int) (w : World) (hR : RdI w v l) : Calls Tryd.prog 19 #[.int .i64 a, v] w (GivesS w (spL a l) (spE a l)) := by
  have hR' := hR
  obtain ⟨p, c, rfl, _, _, _⟩ := hR
  obtain ⟨hcm, hc⟩ := rd_cells hR'
  by_cases h : 512 < l.length
  · exact (rsplit_lim a l p c w h).mono fun e w' x => gives_none (spE_lim h) (by decide) x
  · by_cases ha : a < -1099511627776 ∨ 1099511627776 < a
    · exact (rsplit_rng a l p c w h ha).mono fun e w' x => gives_none (spE_rng h ha) (by decide) x
    · by_cases hb : ∀ x ∈ l, 0 ≤ x ∧ x ≤ 1099511627776
      · by_cases hz : l.sum = 0
        · exact (rsplit_zero a l p c w h (by omega) (by omega) hcm hc hb hz).mono fun e w' x => gives_none (spE_zero h ha hb hz) (by decide) x
        · have V := wts_of h ha hb hz
          obtain ⟨b, o, rfl, hat⟩ := hc (fun e => hz (by rw [e]; rfl))
          refine (rsplit_ok a l b o c w (by omega) (by omega) V (by omega) hat).mono ?_
          rintro e w' ⟨v, rfl, hr, hbel⟩
          unfold spL
          rw [spE_ok h ha hb hz, if_pos rfl]
          exact ⟨_, rfl, hr, hbel⟩
      · exact (rsplit_bad a l p c w h (by omega) (by omega) hcm hc hb).mono fun e w' x => gives_none (spE_bad h ha hb) (by decide) x
theorem spL_len (a : Int) (l : List Int) : (spL a l).length ≤ 2000000 := by
  unfold spL
  split
  · rename_i h
    rw [parts_len]
    unfold spE at h
    split at h
    · exact absurd h (by decide)
    · omega
  · simp
end Go.Proofs.YtjjhdbodjcffaaaDoor
