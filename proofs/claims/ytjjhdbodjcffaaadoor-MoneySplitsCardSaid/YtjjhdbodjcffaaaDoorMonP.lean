/-
  The comparison of Split: cmp.Compare.
-/
import Derived.Test.YtjjhdbodjcffaaaDoorMonO
namespace Go.Proofs.YtjjhdbodjcffaaaDoor
open Go.RowKit
open IntWalk

theorem ne_self (a : Int) : (a != a) = false := by simp
/-- The order of two numbers. -/
def cmpI (x y : Int) : Int := if x < y then -1 else if y < x then 1 else 0
theorem nan_run (x : Int) (w : World) : Calls Tryd.prog 51 #[.int .u64 x] w fun e w' => e = .returned (.bool false) ∧ w = w' := by
  have h := ne_self x
  go_enter Tryd.func51, Tryd.ntmps51
  go_wp2
  go_ret
  exact ⟨rfl, rfl⟩
set_option maxHeartbeats 1000000 in
theorem cmp_run (x y : Int) (w : World) : Calls Tryd.prog 45 #[.int .u64 x, .int .u64 y] w fun e w' => e = .returned (.int .i64 (cmpI x y)) ∧ w = w' := by
  by_cases h : x < y
  · have e : Hid (-1 = cmpI x y) := Lib.hid (by unfold cmpI; rw [if_pos h])
    go_enter Tryd.func45, Tryd.ntmps45
    go_wp2_with (go_at_call 51; refine (nan_run _ _).mono ?_; rintro e w1 ⟨rfl, rfl⟩)
    go_ret
    exact ⟨one_is e.out, rfl⟩
  · by_cases h2 : y < x
    · have e : Hid (1 = cmpI x y) := Lib.hid (by unfold cmpI; rw [if_neg h, if_pos h2])
      go_enter Tryd.func45, Tryd.ntmps45
      go_wp2_with (go_at_call 51; refine (nan_run _ _).mono ?_; rintro e w1 ⟨rfl, rfl⟩)
      go_ret
      exact ⟨one_is e.out, rfl⟩
    · have e : Hid (0 = cmpI x y) := Lib.hid (by unfold cmpI; rw [if_neg h, if_neg h2])
      go_enter Tryd.func45, Tryd.ntmps45
      go_wp2_with (go_at_call 51; refine (nan_run _ _).mono ?_; rintro e w1 ⟨rfl, rfl⟩)
      go_ret
      exact ⟨one_is e.out, rfl⟩

theorem quiet_same {P : Program} {f : FuncId} {args : Array Value} {w : World} {n : Nat} {v : Value}
    (h : Calls P f args (w.drewN n) fun e w' => e = .returned v ∧ w.drewN n = w') : Calls P f args (w.drewN n) fun e w'' => e = .returned v ∧ ∃ m, w'' = w.drewN m :=
  h.mono fun _ _ ⟨he, hm⟩ => ⟨he, n, hm.symm⟩
/-- The cells of a place read as a list of uint64. -/
def AtU (w : World) (b o : Nat) (l : List Int) : Prop := b < w.heap.size ∧ ∀ i (h : i < l.length), w.cell? ⟨b, o + i, none⟩ = some (.int .u64 (l[i]'h))
theorem AtU.below {w w' : World} {b o : Nat} {l : List Int} (h : AtU w b o l) (hb : Below w.heap.size w w') : AtU w' b o l :=
  ⟨Nat.lt_of_lt_of_le h.1 hb.size, fun i hi => (hb.cell (p := ⟨b, o + i, none⟩) h.1).trans (h.2 i hi)⟩

set_option maxHeartbeats 1000000 in
set_option maxRecDepth 10000 in
theorem less_run (pb rb ro c : Nat) (rems : List Int) (i j : Nat) (w : World) (hi : i < rems.length) (hj : j < rems.length)
    (hp : w.cell? ⟨pb, 0, none⟩ = some (.slice (some ⟨rb, ro, none⟩) rems.length c)) (hR : AtU w rb ro rems) :
    Calls Tryd.prog 44 #[.int .i64 i, .int .i64 j, .pointer (some ⟨pb, 0, none⟩)] w fun e w' => e = .returned (.int .i64 (cmpI (rems[j]'hj) (rems[i]'hi))) ∧ ∃ q, w' = w.drewN q := by
  have ci := hR.2 i hi
  have cj := hR.2 j hj
  obtain ⟨x, hx⟩ : ∃ x, x = rems[i] := ⟨_, rfl⟩
  obtain ⟨y, hy⟩ : ∃ y, y = rems[j] := ⟨_, rfl⟩
  rw [← hx] at ci ⊢
  rw [← hy] at cj ⊢
  clear hx hy hR
  have CC := Lib.hid (fun W : World => cmp_run y x W)
  go_enter Tryd.func44, Tryd.ntmps44
  go_wp2
  go_quiet ((go_at_call 45; exact quiet_same (CC.out _)))
  go_wp2
  go_ret
  exact ⟨rfl, _, rfl⟩
end Go.Proofs.YtjjhdbodjcffaaaDoor
