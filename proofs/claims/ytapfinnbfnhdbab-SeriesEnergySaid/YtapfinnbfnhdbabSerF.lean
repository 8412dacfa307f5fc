/-
  What firstTime, limited and the closures of the package series return, and the reference's limited and Normal.
-/
import Derived.Test.YtapfinnbfnhdbabSerE
namespace Go.Proofs.Ytapfinnbfnhdbab
open Go.RowKit
open Ser
set_option linter.unusedVariables false

set_option maxHeartbeats 400000 in
theorem ft_left (p : Option Addr) (c b o n c' : Nat) (u : Int) (w : World) (h1 : w.cell? ⟨b, o, none⟩ = some (.int .i64 u)) (hn : 0 < n) :
    Calls Try.prog 46 #[.slice p 0 c, .slice (some ⟨b, o, none⟩) n c'] w fun e w' => e = .returned (.int .i64 u) ∧ w = w' := by
  have hz : (0 : Int) < (n : Int) := by omega
  go_enter Try.func46, Try.ntmps46
  go_wp2
  go_ret
  exact ⟨rfl, rfl⟩
set_option maxHeartbeats 400000 in
theorem ft_right (p : Option Addr) (c b o n c' : Nat) (u : Int) (w : World) (h1 : w.cell? ⟨b, o, none⟩ = some (.int .i64 u)) (hn : 0 < n) (hm : n ≤ 2000000) :
    Calls Try.prog 46 #[.slice (some ⟨b, o, none⟩) n c', .slice p 0 c] w fun e w' => e = .returned (.int .i64 u) ∧ w = w' := by
  have hz : (0 : Int) < (n : Int) := by omega
  have hz2 : ((n : Int) == 0) = false := by simp; omega
  go_enter Try.func46, Try.ntmps46
  go_wp2
  go_ret
  exact ⟨rfl, rfl⟩
set_option maxHeartbeats 1600000 in
set_option maxRecDepth 1000000 in
theorem ft_le (b o n c b' o' n' c' : Nat) (s u : Int) (w : World) (h1 : w.cell? ⟨b, o, none⟩ = some (.int .i64 s)) (h2 : w.cell? ⟨b', o', none⟩ = some (.int .i64 u)) (hn : 0 < n) (hm : n ≤ 2000000) (hn' : 0 < n') (hm' : n' ≤ 2000000) (hsu : s ≤ u) :
    Calls Try.prog 46 #[.slice (some ⟨b, o, none⟩) n c, .slice (some ⟨b', o', none⟩) n' c'] w fun e w' => e = .returned (.int .i64 s) ∧ ∃ q, w' = w.drewN q := by
  have hz : (0 : Int) < (n : Int) := by omega
  have hz2 : ((n : Int) == 0) = false := by simp; omega
  have hz' : (0 : Int) < (n' : Int) := by omega
  have hz2' : ((n' : Int) == 0) = false := by simp; omega
  go_enter Try.func46, Try.ntmps46
  go_wp2_with fail
  go_quiet (fail)
  go_wp2_with fail
  go_ret
  exact ⟨rfl, _, rfl⟩
set_option maxHeartbeats 1600000 in
set_option maxRecDepth 1000000 in
theorem ft_gt (b o n c b' o' n' c' : Nat) (s u : Int) (w : World) (h1 : w.cell? ⟨b, o, none⟩ = some (.int .i64 s)) (h2 : w.cell? ⟨b', o', none⟩ = some (.int .i64 u)) (hn : 0 < n) (hm : n ≤ 2000000) (hn' : 0 < n') (hm' : n' ≤ 2000000) (hsu : u < s) :
    Calls Try.prog 46 #[.slice (some ⟨b, o, none⟩) n c, .slice (some ⟨b', o', none⟩) n' c'] w fun e w' => e = .returned (.int .i64 u) ∧ ∃ q, w' = w.drewN q := by
  have hz : (0 : Int) < (n : Int) := by omega
  have hz2 : ((n : Int) == 0) = false := by simp; omega
  have hz' : (0 : Int) < (n' : Int) := by omega
  have hz2' : ((n' : Int) == 0) = false := by simp; omega
  go_enter Try.func46, Try.ntmps46
  go_wp2_with fail
  go_quiet (fail)
  go_wp2_with fail
  go_ret
  exact ⟨rfl, _, rfl⟩

set_option maxHeartbeats 400000 in
theorem addC_any (x y : Int) (w : World) (hx : -1099511627776 ≤ x) (hx' : x ≤ 1099511627776) (hy : -1099511627776 ≤ y) (hy' : y ≤ 1099511627776) :
    Calls Try.prog 37 #[.int .i64 x, .int .i64 y] w fun e w' => e = .returned (.int .i64 (cf true x y)) ∧ w = w' := by
  have Hv := Lib.hid (cf_sum x y)
  go_enter Try.func37, Try.ntmps37
  go_wp2
  go_ret
  exact ⟨ret_int Hv.out.symm, rfl⟩
set_option maxHeartbeats 400000 in
theorem leastC_any (x y : Int) (w : World) : Calls Try.prog 40 #[.int .i64 x, .int .i64 y] w fun e w' => e = .returned (.int .i64 (cf false x y)) ∧ w = w' := by
  by_cases h : x ≤ y
  · have Hv := Lib.hid (cf_le x y h)
    go_enter Try.func40, Try.ntmps40
    go_wp2
    go_ret
    exact ⟨ret_int Hv.out.symm, rfl⟩
  · have Hv := Lib.hid (cf_gt x y h)
    go_enter Try.func40, Try.ntmps40
    go_wp2
    go_ret
    exact ⟨ret_int Hv.out.symm, rfl⟩
def fMul (x y : Int) : Int := x * y
set_option maxHeartbeats 400000 in
theorem clipC_any (x y : Int) (w : World) (hx : -1099511627776 ≤ x) (hx' : x ≤ 1099511627776) (hy : 0 ≤ y) (hy' : y ≤ 1) :
    Calls Try.prog 42 #[.int .i64 x, .int .i64 y] w fun e w' => e = .returned (.int .i64 (fMul x y)) ∧ w = w' := by
  by_cases h : y = 0
  · subst h
    have Hv := Lib.hid (show fMul x 0 = 0 from Int.mul_zero x)
    go_enter Try.func42, Try.ntmps42
    go_wp2
    go_ret
    exact ⟨ret_int Hv.out.symm, rfl⟩
  · obtain rfl : y = 1 := by omega
    have Hv := Lib.hid (show fMul x 1 = x from Int.mul_one x)
    go_enter Try.func42, Try.ntmps42
    go_wp2
    go_ret
    exact ⟨ret_int Hv.out.symm, rfl⟩

/-- What a call returns that makes a series or refuses it. -/
def GivesE (w : World) (l : List St) (err : Int) (e : Ending) (w' : World) : Prop := ∃ v, e = .returned (.tuple #[v, .int .i64 err]) ∧ Rd w' v l ∧ Below w.heap.size w w'
theorem ret_e {v : Value} {a b : Int} (h : a = b) : Ending.returned (.tuple #[v, .int .i64 a]) = .returned (.tuple #[v, .int .i64 b]) := by rw [h]
def limL (l : List St) : List St := if 512 < l.length then [] else l
def limE (l : List St) : Int := if 512 < l.length then 3 else 0
set_option maxHeartbeats 400000 in
theorem limited_any (v : Value) (l : List St) (w : World) (hl : l.length ≤ 2000000) (hR : Rd w v l) : Calls Try.prog 38 #[v] w (GivesE w (limL l) (limE l)) := by
  have HR := Lib.hid hR
  obtain ⟨p, c, rfl, _, _, _⟩ := hR
  by_cases h : 512 < l.length
  · have Hv := Lib.hid (show limL l = [] from if_pos h)
    have He := Lib.hid (show limE l = 3 from if_pos h)
    go_enter Try.func38, Try.ntmps38
    go_wp2
    go_ret2
    exact ⟨.slice none 0 0, ret_e He.out.symm, by rw [Hv.out]; exact Rd.nil _, Below.refl _ _⟩
  · have Hv := Lib.hid (show limL l = l from if_neg h)
    have He := Lib.hid (show limE l = 0 from if_neg h)
    go_enter Try.func38, Try.ntmps38
    go_wp2
    go_ret2
    exact ⟨.slice p l.length c, ret_e He.out.symm, by rw [Hv.out]; exact HR.out, Below.refl _ _⟩
set_option maxHeartbeats 400000 in
theorem refLimited_any (v : Value) (l : List St) (w : World) (hl : l.length ≤ 2000000) (hR : Rd w v l) : Calls Try.prog 39 #[v] w (GivesE w (limL l) (limE l)) := by
  have HR := Lib.hid hR
  obtain ⟨p, c, rfl, _, _, _⟩ := hR
  by_cases h : 512 < l.length
  · have Hv := Lib.hid (show limL l = [] from if_pos h)
    have He := Lib.hid (show limE l = 3 from if_pos h)
    go_enter Try.func39, Try.ntmps39
    go_wp2
    go_ret2
    exact ⟨.slice none 0 0, ret_e He.out.symm, by rw [Hv.out]; exact Rd.nil _, Below.refl _ _⟩
  · have Hv := Lib.hid (show limL l = l from if_neg h)
    have He := Lib.hid (show limE l = 0 from if_neg h)
    go_enter Try.func39, Try.ntmps39
    go_wp2
    go_ret2
    exact ⟨.slice p l.length c, ret_e He.out.symm, by rw [Hv.out]; exact HR.out, Below.refl _ _⟩
theorem ok_nil : Ok [] := ⟨Nat.zero_le _, fun s hs => (by cases hs), trivial⟩
theorem combL_nil (l : List St) (h : Ok l) : combL (cf true) l [] = nL 0 l := by
  refine Fin.unique (F := atL l) ?_ (nL_fin l h.asc)
  have := combL_fin (cf true) (cf_00 true) l [] h.asc trivial
  exact ⟨this.asc, this.nrm, fun t => by rw [this.at_ t]; show atL l t + 0 = atL l t; omega⟩
set_option maxHeartbeats 400000 in
theorem refNormal_any (v : Value) (l : List St) (w : World) (ol : Ok l) (hR : Rd w v l) : Calls Try.prog 18 #[v] w (GivesL w (nL 0 l)) := by
  have C := Lib.hid (refCombine_any v (.slice none 0 0) l [] true w ol ok_nil hR (Rd.nil w))
  have E := Lib.hid (combL_nil l ol)
  clear hR
  go_enter Try.func18, Try.ntmps18
  go_wp2_with fail
  refine C.out.mono ?_
  rintro e w1 ⟨v', rfl, ho, hb⟩
  go_wp2_with fail
  go_ret
  exact ⟨_, rfl, by rw [← E.out]; exact Rd.own ho, hb⟩
end Go.Proofs.Ytapfinnbfnhdbab
