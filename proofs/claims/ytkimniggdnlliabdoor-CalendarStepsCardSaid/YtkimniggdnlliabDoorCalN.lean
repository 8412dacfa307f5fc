/-
  What exampleHolds returns: the examples of the chapter hold.
-/
import Derived.Test.YtkimniggdnlliabDoorCalM
namespace Go.Proofs.YtkimniggdnlliabDoor
open Go.RowKit
open Cal

/-- A call with these values returns this, in whatever memory that holds the table. -/
def Gives (f : FuncId) (args : Array Value) (r : Value) : Prop := ∀ W, Tab W → Calls Tryd.prog f args W fun e w' => e = .returned r ∧ Below W.heap.size W w'

theorem dateV_of {m y k : Int} (h : IsC (m / 1440) y k) : dateV m = .agg #[.int .i64 y, .int .i64 k, .int .i64 (m / 1440 - ys y - cum y k + 1), .int .i64 (wd (m / 1440)), .int .i64 (m % 1440)] := by
  unfold dateV dateOf dy; rw [(civ_of h).1, (civ_of h).2]
theorem ex_date : Gives 9 #[.int .i64 0] (.tuple #[.agg #[.int .i64 2000, .int .i64 1, .int .i64 1, .int .i64 6, .int .i64 0], .int .i64 0]) := fun W hT => by
  have h := date_yes 0 W hT (by decide) (by decide)
  rw [dateV_of (m := 0) (y := 2000) (k := 1) (by unfold IsC; decide)] at h
  exact h
theorem ex_time : Gives 15 #[.agg #[.int .i64 2000, .int .i64 2, .int .i64 29, .int .i64 0, .int .i64 5]] (.tuple #[.int .i64 84965, .int .i64 0]) := fun W hT => by
  have h := time_yes 2000 2 29 0 5 W hT (by unfold Right Ex; decide)
  rw [show dayN 2000 2 29 * 1440 + 5 = 84965 by decide] at h
  exact h
theorem ex_local : Gives 6 #[.agg #[.int .i64 (-60), .bool false], .int .i64 0] (.tuple #[.agg #[.int .i64 1999, .int .i64 12, .int .i64 31, .int .i64 5, .int .i64 1380], .int .i64 0]) := fun W hT => by
  have h := local_yes (-60) false 0 W hT (by decide) (by decide) (by decide) (by decide)
  rw [show offI (-60) false 0 = -60 by rw [offI_false _ _ (by decide) (by decide)], dateV_of (m := 0 + -60) (y := 1999) (k := 12) (by unfold IsC; decide)] at h
  exact h
theorem ex_next : Gives 10 #[.agg #[.int .i64 0, .bool false], .int .i64 0, .int .i64 32, .int .i64 5] (.tuple #[.int .i64 5, .int .i64 0]) := fun W hT => by
  have h := next_valid 0 false 0 32 5 W hT (by decide) (by decide) (by decide) (by decide) (by decide) (by decide) (by decide) (by decide)
  have hf : First 0 false 32 5 0 5 := by
    refine ⟨⟨by decide, by decide, by decide, ?_, ?_⟩, fun v hv hc => ?_⟩
    · rw [offI_false _ _ (by decide) (by decide)]; decide
    · rw [offI_false _ _ (by decide) (by decide)]; decide
    · obtain ⟨h1, _, _, h2, _⟩ := hc
      rw [offI_false _ _ (by decide) (by decide)] at h2; omega
  rw [next_some hf] at h
  exact h
theorem yr85 : yr (122459 / 1440) = 2000 ∧ yr (122460 / 1440) = 2000 := ⟨(civ_of (y := 2000) (m := 3) (by unfold IsC; decide)).1, (civ_of (y := 2000) (m := 3) (by unfold IsC; decide)).1⟩
theorem sum_no : summerB 122459 = false := by unfold summerB; rw [yr85.1]; decide
theorem sum_yes : summerB 122460 = true := by unfold summerB; rw [yr85.2]; decide
theorem ex_sum0 : ∀ W, Tab W → Calls Tryd.prog 16 #[.int .i64 122459] W fun e w' => e = .returned (.bool false) ∧ W = w' := fun W hT => by
  have h := summer_any 122459 W hT; rw [sum_no] at h; exact h
theorem ex_sum1 : ∀ W, Tab W → Calls Tryd.prog 16 #[.int .i64 122460] W fun e w' => e = .returned (.bool true) ∧ W = w' := fun W hT => by
  have h := summer_any 122460 W hT; rw [sum_yes] at h; exact h
theorem ex_off : Gives 8 #[.agg #[.int .i64 60, .bool true], .int .i64 122460] (.int .i64 120) := fun W hT => by
  have h := offset_any 60 true 122460 W hT
  rw [show offI 60 true 122460 = 120 by unfold offI; rw [sum_yes]; decide] at h
  exact h

set_option maxRecDepth 100000 in
set_option maxHeartbeats 1000000 in
theorem example_any : Gives 7 #[] (.bool true) := fun w hT => by
  have HT := Lib.hid hT
  clear hT
  go_enter Tryd.func7, Tryd.ntmps7
  go_wp2_with fail
  refine (ex_date _ HT.out).mono ?_
  rintro e w1 ⟨rfl, g1⟩
  have G1 := Lib.hid g1
  clear g1
  go_wp2_with fail
  refine (ex_time _ (HT.out.below (b2 G1.out (b_new _ _)))).mono ?_
  rintro e w2 ⟨rfl, g2⟩
  obtain ⟨hc2, hf2⟩ := bcell g2
  have hz2 : w1.heap.size < w2.heap.size := by have := g2.size; simp at this; omega
  have G2 := Lib.hid (b2 (b2 G1.out (b_new _ _)) g2)
  clear g2
  go_wp2_with fail
  refine (ex_local _ (HT.out.below G2.out)).mono ?_
  rintro e w3 ⟨rfl, g3⟩
  obtain ⟨hc3, hf3⟩ := bcell g3
  have hz3 : w1.heap.size < w3.heap.size := by have := g3.size; omega
  have G3 := Lib.hid (b2 G2.out g3)
  clear g3
  go_wp2_with fail
  refine (ex_next _ (HT.out.below (b2 G3.out (b_new _ _)))).mono ?_
  rintro e w4 ⟨rfl, g4⟩
  obtain ⟨hc4, hf4⟩ := bcell g4
  have hz4 : w1.heap.size < w4.heap.size := by have := g4.size; simp at this; omega
  have hz5 : w3.heap.size < w4.heap.size := by have := g4.size; simp at this; omega
  have G4 := Lib.hid (b2 (b2 G3.out (b_new _ _)) g4)
  clear g4
  go_wp2_with fail
  refine (ex_sum0 _ (HT.out.below G4.out)).mono ?_
  rintro e w5 ⟨rfl, rfl⟩
  go_wp2_with fail
  refine (ex_sum1 _ (HT.out.below G4.out)).mono ?_
  rintro e w5 ⟨rfl, rfl⟩
  go_wp2_with fail
  refine (ex_off _ (HT.out.below G4.out)).mono ?_
  rintro e w5 ⟨rfl, g5⟩
  have G5 := Lib.hid (b2 G4.out g5)
  clear g5
  go_wp2_with fail
  go_ret
  exact ⟨rfl, G5.out⟩
end Go.Proofs.YtkimniggdnlliabDoor
