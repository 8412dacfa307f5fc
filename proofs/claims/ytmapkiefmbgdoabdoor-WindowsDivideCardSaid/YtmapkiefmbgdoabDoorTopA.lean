/-
  Plain facts: the energy of a series within the spans of a window and between them.
-/
import Derived.Test.YtmapkiefmbgdoabDoorWinV
import Derived.Test.YtmapkiefmbgdoabDoorSerAll
namespace Go.Proofs.YtmapkiefmbgdoabDoor
open Go.RowKit
set_option linter.unusedVariables false

open S.Ser in
theorem en_bd {l : List St} (ol : Ok l) (f : Int) : ∀ n : Nat, -(1099511627776 * (n : Int)) ≤ enR f (f + n) l ∧ enR f (f + n) l ≤ 1099511627776 * (n : Int)
  | 0 => by rw [enR_zero f _ (by omega)]; omega
  | n + 1 => by
    have ih := en_bd ol f n
    have e := enR_succ f (f + n) (by omega) l _ ol.asc
    rw [show f + ((n + 1 : Nat) : Int) = f + n + 1 by omega, e]
    have := atL_bd l (f + n) ol.all
    omega
open S.Ser in
theorem en_fit {l : List St} (ol : Ok l) {a b : Int} (h0 : 0 ≤ a) (h1 : a ≤ b) (h2 : b - a ≤ 5000) (h3 : b ≤ 268435456) :
    S.enE l a b = 0 ∧ S.enV l a b = enR a b l ∧ -5497558138880000 ≤ enR a b l ∧ enR a b l ≤ 5497558138880000 := by
  have hb := en_bd ol a (b - a).toNat
  rw [show a + ((b - a).toNat : Int) = b by omega] at hb
  have hc : S.cE l a b = 0 := by
    unfold S.cE
    rw [if_pos ((ok_iff l).2 ol), if_pos (by unfold S.spB; simp; omega)]
  have hf : S.fitB (enR a b l) = true := by unfold S.fitB; exact decide_eq_true (by omega)
  refine ⟨?_, ?_, by omega, by omega⟩
  · unfold S.enE; rw [if_pos hc, if_pos hf]
  · unfold S.enV; rw [if_pos hc, if_pos hf]
open S.Ser in
theorem en_join {l : List St} (ol : Ok l) {f m t : Int} (h1 : f ≤ m) (h2 : m ≤ t) : enR f t l = enR f m l + enR m t l := by
  have := enR_split l ol.asc f m h1 (t - m).toNat
  rwa [show m + ((t - m).toNat : Int) = t by omega] at this

/-- The spans, and behind them the end. -/
def tl (T : Int) (l : List (Int × Int)) : List (Int × Int) := l ++ [(T, T)]
/-- Where the k-th span may begin. -/
def atP (F : Int) (R : List (Int × Int)) : Nat → Int
  | 0 => F
  | k + 1 => (R.getD k (F, F)).2
theorem atP_succ (F : Int) (R : List (Int × Int)) (k : Nat) (h : k < R.length) : atP F R (k + 1) = (R[k]'h).2 := by
  unfold atP; simp [h]
theorem tl_len (T : Int) (l : List (Int × Int)) : (tl T l).length = l.length + 1 := by simp [tl]
theorem tl_lt (T : Int) (l : List (Int × Int)) (k : Nat) (hk : k < (tl T l).length) (c : k < l.length) : (tl T l)[k]'hk = l[k]'c := List.getElem_append_left c
theorem tl_last (T : Int) (l : List (Int × Int)) (k : Nat) (hk : k < (tl T l).length) (c : k = l.length) : (tl T l)[k]'hk = (T, T) := by
  subst c
  exact (List.getElem_append_right (Nat.le_refl _)).trans (by simp)
theorem tl_bd {H : Int → Bool} {F T : Int} {l : List (Int × Int)} (h : Runs H F T l) (hFT : F ≤ T) : ∀ k (hk : k < (tl T l).length), F ≤ atP F (tl T l) k ∧ atP F (tl T l) k ≤ ((tl T l)[k]'hk).1 ∧ ((tl T l)[k]'hk).1 ≤ ((tl T l)[k]'hk).2 ∧ ((tl T l)[k]'hk).2 ≤ T := by
  have key : ∀ k (hk : k < (tl T l).length), (k < l.length ∧ ∃ hz : k < l.length, (tl T l)[k]'hk = l[k]'hz) ∨ (k = l.length ∧ (tl T l)[k]'hk = (T, T)) := by
    intro k hk
    rw [tl_len] at hk
    by_cases c : k < l.length
    · exact .inl ⟨c, c, tl_lt T l k _ c⟩
    · exact .inr ⟨by omega, tl_last T l k _ (by omega)⟩
  intro k hk
  have bdk : F ≤ ((tl T l)[k]'hk).1 ∧ ((tl T l)[k]'hk).1 ≤ ((tl T l)[k]'hk).2 ∧ ((tl T l)[k]'hk).2 ≤ T := by
    rcases key k hk with ⟨c, c', e⟩ | ⟨c, e⟩
    · rw [e]; have := h.bd _ (List.getElem_mem c'); omega
    · rw [e]; exact ⟨hFT, Int.le_refl _, Int.le_refl _⟩
  cases k with
  | zero => exact ⟨Int.le_refl _, bdk.1, bdk.2.1, bdk.2.2⟩
  | succ j =>
    have hj : j < (tl T l).length := by omega
    rw [atP_succ F _ j hj]
    rcases key j hj with ⟨c, c', e⟩ | ⟨c, e⟩
    · rw [e]
      have b1 := h.bd _ (List.getElem_mem c')
      refine ⟨by omega, ?_, bdk.2⟩
      rcases key (j + 1) hk with ⟨d, d', e2⟩ | ⟨d, e2⟩
      · rw [e2]
        have := List.pairwise_iff_getElem.1 h.gap j (j + 1) c' d' (by omega)
        omega
      · rw [e2]; show _ ≤ T; omega
    · rw [tl_len] at hk; omega
theorem tl_all {H : Int → Bool} {F T : Int} {l : List (Int × Int)} (h : Runs H F T l) (k : Nat) (hk : k < (tl T l).length) (t : Int) (h1 : ((tl T l)[k]'hk).1 ≤ t) (h2 : t < ((tl T l)[k]'hk).2) : H t = true := by
  rw [tl_len] at hk
  by_cases c : k < l.length
  · have e : (tl T l)[k]'(by rw [tl_len]; exact hk) = l[k] := tl_lt T l k _ c
    rw [e] at h1 h2
    have := h.bd _ (List.getElem_mem c)
    exact (h.all t (by omega) (by omega)).2 ⟨l[k], List.getElem_mem c, h1, h2⟩
  · have e : (tl T l)[k]'(by rw [tl_len]; exact hk) = (T, T) := tl_last T l k _ (by omega)
    rw [e] at h1 h2
    have h1' : T ≤ t := h1
    have h2' : t < T := h2
    omega
theorem tl_end (F T : Int) (l : List (Int × Int)) : atP F (tl T l) (tl T l).length = T := by
  have hl : l.length < (tl T l).length := by rw [tl_len]; omega
  rw [tl_len, atP_succ F _ _ hl, tl_last T l _ _ rfl]
theorem sp_runs {d s e f u o : Int} {sm : Bool} {F T : Int} (h : 0 ≤ F ∧ F ≤ T ∧ T ≤ 268435456) (hE : spE d s e f u o sm F T = 0) : Runs (hol d s e f u o sm) F T (spR d s e f u o sm F T) := by
  unfold spE at hE
  by_cases hk : OkW d s e f u ∧ -840 ≤ o ∧ o ≤ 840
  · rw [if_pos hk, if_pos h] at hE
    unfold spR
    rw [if_pos hk, if_pos h]
    have e2 : hol d s e f u o sm = hB d s e f u o sm := funext fun v => hol_yes hk
    rw [e2]
    unfold limC at hE
    by_cases hl : (runsL (hB d s e f u o sm) F T).length ≤ 512
    · unfold limP; rw [if_pos hl]; exact runsL_ok (spans_runs hk.1 hk.2.1 hk.2.2 h.1 h.2.1 h.2.2)
    · rw [if_neg hl] at hE; exact absurd hE (by decide)
  · rw [if_neg hk] at hE; exact absurd hE (by decide)
end Go.Proofs.YtmapkiefmbgdoabDoor
