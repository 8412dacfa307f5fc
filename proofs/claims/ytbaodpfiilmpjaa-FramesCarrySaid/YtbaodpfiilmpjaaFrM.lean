/-
  What the reference's Feed returns.
-/
import Derived.Test.YtbaodpfiilmpjaaFrL
namespace Go.Proofs.Ytbaodpfiilmpjaa.F
open Go.RowKit
open IntWalk

theorem drop_succ (S : List UInt8) (k : Nat) (h : k < S.length) : S.drop k = S[k] :: S.drop (k + 1) := List.drop_eq_getElem_cons h
/-- Where the reference's Feed stands: no mark yet. -/
def NoMark (S : List UInt8) (k : Nat) (ls : List (List UInt8)) : Prop := after S = after (S.drop k) ∧ ls = []
/-- .. or the last mark at m. -/
def MarkAt (S : List UInt8) (k m : Nat) (ls : List (List UInt8)) : Prop :=
  ∃ x t0, m < k ∧ S.drop m = 192 :: (x ++ S.drop k) ∧ x.length + m + 1 = k ∧ after S = some t0 ∧ pay [] t0 = ls ++ pay x (S.drop k) ∧ lst [] t0 = lst x (S.drop k)
theorem noMark_step {S : List UInt8} {k : Nat} {ls : List (List UInt8)} (h : NoMark S k ls) (hk : k < S.length) (hc : S[k] ≠ 192) : NoMark S (k + 1) ls := by
  refine ⟨?_, h.2⟩
  rw [h.1, drop_succ S k hk, after, if_neg hc]
theorem noMark_mark {S : List UInt8} {k : Nat} {ls : List (List UInt8)} (h : NoMark S k ls) (hk : k < S.length) (hc : S[k] = 192) : MarkAt S (k + 1) k ls := by
  refine ⟨[], S.drop (k + 1), by omega, ?_, by simp, ?_, ?_, rfl⟩
  · rw [drop_succ S k hk, hc]; rfl
  · rw [h.1, drop_succ S k hk, after, if_pos hc]
  · rw [h.2]; rfl
theorem markAt_step {S : List UInt8} {k m : Nat} {ls : List (List UInt8)} (h : MarkAt S k m ls) (hk : k < S.length) (hc : S[k] ≠ 192) : MarkAt S (k + 1) m ls := by
  obtain ⟨x, t0, h1, h2, h3, h4, h5, h6⟩ := h
  refine ⟨x ++ [S[k]], t0, by omega, ?_, by simp; omega, h4, ?_, ?_⟩
  · rw [h2, drop_succ S k hk]; simp
  · rw [h5, drop_succ S k hk, pay, if_neg hc]
  · rw [h6, drop_succ S k hk, lst, if_neg hc]
theorem markAt_mark {S : List UInt8} {k m : Nat} {ls : List (List UInt8)} (h : MarkAt S k m ls) (hk : k < S.length) (hc : S[k] = 192) : ∃ x, x.length + m + 1 = k ∧ (S.drop m).take (k + 1 - m) = 192 :: (x ++ [192]) ∧ MarkAt S (k + 1) k (ls ++ upk x) := by
  obtain ⟨x, t0, h1, h2, h3, h4, h5, h6⟩ := h
  refine ⟨x, h3, ?_, [], t0, by omega, ?_, by simp, h4, ?_, ?_⟩
  · rw [h2, drop_succ S k hk, hc, show k + 1 - m = (x ++ [192]).length + 1 by simp; omega, List.take_succ_cons, show x ++ 192 :: S.drop (k + 1) = (x ++ [192]) ++ S.drop (k + 1) by simp, List.take_left]
  · rw [drop_succ S k hk, hc]; rfl
  · rw [h5, drop_succ S k hk, pay, if_pos hc, List.append_assoc]
  · rw [h6, drop_succ S k hk, lst, if_pos hc]
theorem markAt_end {S : List UInt8} {m : Nat} {ls : List (List UInt8)} (h : MarkAt S S.length m ls) : feedP S = ls ∧ (feedR S = if S.length - m ≤ 8198 then S.drop m else []) := by
  obtain ⟨x, t0, h1, h2, h3, h4, h5, h6⟩ := h
  rw [List.drop_length] at h2 h5 h6
  unfold feedP feedR
  rw [h4]
  refine ⟨?_, ?_⟩
  · show pay [] t0 = ls
    rw [h5]; simp [pay]
  · show (if (lst [] t0).length + 1 ≤ 8198 then 192 :: lst [] t0 else []) = _
    rw [h6, h2, List.append_nil]
    show (if x.length + 1 ≤ 8198 then 192 :: x else []) = _
    have : S.length - m = x.length + 1 := by omega
    rw [this]
theorem noMark_end {S : List UInt8} {ls : List (List UInt8)} (h : NoMark S S.length ls) : feedP S = [] ∧ feedR S = [] ∧ ls = [] := by
  unfold feedP feedR
  rw [h.1, List.drop_length]
  exact ⟨rfl, rfl, h.2⟩

end Go.Proofs.Ytbaodpfiilmpjaa.F
