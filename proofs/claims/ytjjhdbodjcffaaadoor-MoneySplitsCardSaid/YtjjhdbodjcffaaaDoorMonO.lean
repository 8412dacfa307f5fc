/-
  Sum at every list, also an empty one.
-/
import Derived.Test.YtjjhdbodjcffaaaDoorMonI
namespace Go.Proofs.YtjjhdbodjcffaaaDoor
open Go.RowKit
open IntWalk

set_option maxHeartbeats 1000000 in
set_option maxRecDepth 10000 in
theorem sum_none (p : Option Addr) (c : Nat) (w : World) :
    Calls Tryd.prog 16 #[.slice p 0 c] w fun e w' => e = .returned (.tuple #[.int .i64 0, .int .i64 0]) ∧ w = w' := by
  go_enter Tryd.func16, Tryd.ntmps16
  go_wp2
  refine wp_loop_rounds 1 ?_
  rw [rounds_succ]
  go_wp2
  go_ret2
  exact ⟨rfl, rfl⟩
set_option maxHeartbeats 1000000 in
set_option maxRecDepth 10000 in
theorem rsum_none (p : Option Addr) (c : Nat) (w : World) :
    Calls Tryd.prog 17 #[.slice p 0 c] w fun e w' => e = .returned (.tuple #[.int .i64 0, .int .i64 0]) ∧ w = w' := by
  go_enter Tryd.func17, Tryd.ntmps17
  go_wp2
  refine wp_loop_rounds 1 ?_
  rw [rounds_succ]
  go_wp2
  go_ret2
  exact ⟨rfl, rfl⟩
theorem sum_run (v : Value) (l : List Int) (w : World) (hl : l.length ≤ 2000000) (hI : ∀ x ∈ l, I64 x) (hR : RdI w v l) :
    Calls Tryd.prog 16 #[v] w fun e w' => e = .returned (.tuple #[.int .i64 (sumV l), .int .i64 (sumE l)]) ∧ w = w' := by
  obtain ⟨p, c, rfl, _, _, h⟩ := hR
  by_cases hn : l = []
  · subst hn; exact sum_none p c w
  · obtain ⟨b, o, rfl, ha⟩ := h hn
    exact sum_some b o c l w hl hI ha
theorem rsum_run (v : Value) (l : List Int) (w : World) (hl : l.length ≤ 2000000) (hI : ∀ x ∈ l, I64 x) (hR : RdI w v l) :
    Calls Tryd.prog 17 #[v] w fun e w' => e = .returned (.tuple #[.int .i64 (sumV l), .int .i64 (sumE l)]) ∧ w = w' := by
  obtain ⟨p, c, rfl, _, _, h⟩ := hR
  by_cases hn : l = []
  · subst hn; exact rsum_none p c w
  · obtain ⟨b, o, rfl, ha⟩ := h hn
    exact rsum_some b o c l w hl hI ha
theorem sum_back (l : List Int) : sumV l.reverse = sumV l ∧ sumE l.reverse = sumE l := by
  unfold sumV sumE; rw [List.sum_reverse]; exact ⟨rfl, rfl⟩
end Go.Proofs.YtjjhdbodjcffaaaDoor
