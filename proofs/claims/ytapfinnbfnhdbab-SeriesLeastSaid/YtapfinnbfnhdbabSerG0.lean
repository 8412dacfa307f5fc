/-
  What combine of the package series returns.
-/
import Derived.Test.YtapfinnbfnhdbabSerF
namespace Go.Proofs.Ytapfinnbfnhdbab
open Go.RowKit
open Ser
set_option linter.unusedVariables false

/-- All values lie between two bounds. -/
def Bd (lo hi : Int) (l : List St) : Prop := ∀ s ∈ l, lo ≤ s.2 ∧ s.2 ≤ hi
theorem Bd.head {lo hi : Int} {s : St} {l : List St} (h : Bd lo hi (s :: l)) : lo ≤ s.2 ∧ s.2 ≤ hi := h s List.mem_cons_self
theorem Bd.tail {lo hi : Int} {s : St} {l : List St} (h : Bd lo hi (s :: l)) : Bd lo hi l := fun x hx => h x (List.mem_cons_of_mem _ hx)
theorem mergeV_len (f : Int → Int → Int) : ∀ (n : Nat) (a b : List St) (x y : Int), a.length + b.length ≤ n → (mergeV f x y a b).length ≤ n
  | _, [], [], x, y, _ => by rw [mergeV_nil]; exact Nat.zero_le _
  | 0, _ :: _, _, _, _, h => absurd h (by simp)
  | 0, [], _ :: _, _, _, h => absurd h (by simp)
  | n + 1, s :: a, [], x, y, h => by
    rw [mergeV_left, List.length_cons]
    have := mergeV_len f n a [] s.2 y (by simp at h ⊢; omega)
    omega
  | n + 1, [], u :: b, x, y, h => by
    rw [mergeV_right, List.length_cons]
    have := mergeV_len f n [] b x u.2 (by simp at h ⊢; omega)
    omega
  | n + 1, s :: a, u :: b, x, y, h => by
    simp only [List.length_cons] at h
    by_cases c1 : s.1 < u.1
    · rw [mergeV_lt _ _ _ _ _ _ _ c1, List.length_cons]
      have := mergeV_len f n a (u :: b) s.2 y (by simp; omega)
      omega
    · by_cases c2 : u.1 < s.1
      · rw [mergeV_gt _ _ _ _ _ _ _ c2, List.length_cons]
        have := mergeV_len f n (s :: a) b x u.2 (by simp; omega)
        omega
      · rw [mergeV_eq _ _ _ _ _ _ _ (by omega), List.length_cons]
        have := mergeV_len f n a b s.2 u.2 (by omega)
        omega
/-- Where the loop stands. -/
def Mid (f : Int → Int → Int) (la lb a b : List St) (x y : Int) (al : List St) : Prop := al ++ mergeV f x y a b = mergeV f 0 0 la lb
theorem Mid.len {f : Int → Int → Int} {la lb a b : List St} {x y : Int} {al : List St} (h : Mid f la lb a b x y al) : al.length ≤ la.length + lb.length := by
  have h1 := congrArg List.length h
  rw [List.length_append] at h1
  have := mergeV_len f _ la lb 0 0 (Nat.le_refl _)
  omega
theorem Mid.left {f : Int → Int → Int} {la lb a : List St} {x y s1 s2 : Int} {al : List St} (h : Mid f la lb ((s1, s2) :: a) [] x y al) : Mid f la lb a [] s2 y (al ++ [(s1, f s2 y)]) := by
  unfold Mid at h ⊢; rw [mergeV_left] at h; rw [List.append_assoc]; exact h
theorem Mid.right {f : Int → Int → Int} {la lb b : List St} {x y u1 u2 : Int} {al : List St} (h : Mid f la lb [] ((u1, u2) :: b) x y al) : Mid f la lb [] b x u2 (al ++ [(u1, f x u2)]) := by
  unfold Mid at h ⊢; rw [mergeV_right] at h; rw [List.append_assoc]; exact h
theorem Mid.lt {f : Int → Int → Int} {la lb a b : List St} {x y s1 s2 u1 u2 : Int} {al : List St} (h : Mid f la lb ((s1, s2) :: a) ((u1, u2) :: b) x y al) (c : s1 < u1) : Mid f la lb a ((u1, u2) :: b) s2 y (al ++ [(s1, f s2 y)]) := by
  unfold Mid at h ⊢; rw [mergeV_lt _ _ _ _ _ _ _ c] at h; rw [List.append_assoc]; exact h
theorem Mid.gt {f : Int → Int → Int} {la lb a b : List St} {x y s1 s2 u1 u2 : Int} {al : List St} (h : Mid f la lb ((s1, s2) :: a) ((u1, u2) :: b) x y al) (c : u1 < s1) : Mid f la lb ((s1, s2) :: a) b x u2 (al ++ [(u1, f x u2)]) := by
  unfold Mid at h ⊢; rw [mergeV_gt _ _ _ _ _ _ _ c] at h; rw [List.append_assoc]; exact h
theorem Mid.eq {f : Int → Int → Int} {la lb a b : List St} {x y s1 s2 u2 : Int} {al : List St} (h : Mid f la lb ((s1, s2) :: a) ((s1, u2) :: b) x y al) : Mid f la lb a b s2 u2 (al ++ [(s1, f s2 u2)]) := by
  unfold Mid at h ⊢; rw [mergeV_eq f x y (s1, s2) (s1, u2) a b rfl] at h; rw [List.append_assoc]; exact h
theorem Mid.done {f : Int → Int → Int} {la lb : List St} {x y : Int} {al : List St} (h : Mid f la lb [] [] x y al) : nL 0 al = combL f la lb := by
  unfold Mid at h; rw [mergeV_nil, List.append_nil] at h; rw [h]; rfl
theorem own_dN {w : World} {B n : Nat} {v : Value} {xs : List Value} (h : w.ownsRow B 30 2 v n xs) (k : Nat) : (w.drewN k).ownsRow B 30 2 v n xs := h
/-- The rest of a series, behind its first step. -/
theorem rd_tail {w : World} {b o c : Nat} {s : St} {a : List St} (h : At w b o (s :: a)) (hn : a.length + 1 ≤ c) (hm : c ≤ maxLen) : Rd w (.slice (some ⟨b, o + 2, none⟩) a.length (c - 1)) a := by
  refine ⟨_, _, rfl, by omega, by omega, fun _ => ⟨b, o + 2, rfl, h.1, fun i hi => ?_⟩⟩
  have := h.2 (i + 1) (by simp; omega)
  rw [show o + (i + 1) * 2 = o + 2 + i * 2 by omega] at this
  simpa using this
theorem rd_end {w : World} {p : Option Addr} {a : List St} {c : Nat} (h : c = 1) (hn : a.length + 1 ≤ c) : Rd w (.slice p a.length 0) a := by
  have : a = [] := List.length_eq_zero_iff.1 (by omega)
  subst this
  exact ⟨p, 0, rfl, Nat.le_refl _, Nat.zero_le _, fun h => absurd rfl h⟩
end Go.Proofs.Ytapfinnbfnhdbab
