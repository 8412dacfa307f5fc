/-
  What Offset and Local return, in the package calendar and in its reference.
-/
import Derived.Test.YtmapkiefmbgdoabDoorCalE
namespace Go.Proofs.YtmapkiefmbgdoabDoor
open Go.RowKit
open Cal

/-- The minutes by which local time is ahead. -/
noncomputable def offI (o : Int) (sm : Bool) (t : Int) : Int := if -840 ≤ o ∧ o ≤ 840 then (if sm && summerB t then o + 60 else o) else 0
theorem offI_out (o : Int) (sm : Bool) (t : Int) (h : o < -840 ∨ 840 < o) : offI o sm t = 0 := by unfold offI; rw [if_neg (by omega)]
theorem offI_bd (o : Int) (sm : Bool) (t : Int) : -840 ≤ offI o sm t ∧ offI o sm t ≤ 900 := by unfold offI; split <;> (try split) <;> omega

theorem zone_yes (o : Int) (sm : Bool) (w : World) (h0 : -840 ≤ o) (h1 : o ≤ 840) :
    Calls Tryd.prog 46 #[.agg #[.int .i64 o, .bool sm]] w fun e w' => e = .returned (.bool true) ∧ Below w.heap.size w w' := by
  go_enter Tryd.func46, Tryd.ntmps46
  go_wp2_with fail
  go_ret
  exact ⟨rfl, b_new _ _⟩
theorem zone_no (o : Int) (sm : Bool) (w : World) (h : o < -840 ∨ 840 < o) :
    Calls Tryd.prog 46 #[.agg #[.int .i64 o, .bool sm]] w fun e w' => e = .returned (.bool false) ∧ Below w.heap.size w w' := by
  by_cases h0 : -840 ≤ o
  · have h1 : 840 < o := by omega
    have hD : Hid (decide (o ≤ 840) = false) := Lib.hid (decide_eq_false (by omega))
    clear h
    go_enter Tryd.func46, Tryd.ntmps46
    go_wp2_with fail
    go_ret
    exact ⟨ret_bool hD.out, b_new _ _⟩
  · have h1 : o < -840 := by omega
    clear h h0
    go_enter Tryd.func46, Tryd.ntmps46
    go_wp2_with fail
    go_ret
    exact ⟨rfl, b_new _ _⟩

set_option maxHeartbeats 1000000 in
theorem offset_in (o : Int) (sm : Bool) (t : Int) (w : World) (hT : Tab w) (h0 : -840 ≤ o) (h1 : o ≤ 840) :
    Calls Tryd.prog 49 #[.agg #[.int .i64 o, .bool sm], .int .i64 t] w fun e w' => e = .returned (.int .i64 (offI o sm t)) ∧ Below w.heap.size w w' := by
  cases sm with
  | false =>
    have Ho : Hid (offI o false t = o) := Lib.hid (by unfold offI; rw [if_pos ⟨h0, h1⟩]; rfl)
    go_enter Tryd.func49, Tryd.ntmps49
    go_wp2_with fail
    refine (zone_yes o false _ h0 h1).mono ?_
    rintro e w1 ⟨rfl, hb⟩
    obtain ⟨hc, hf⟩ := bcell hb
    have hz : w.heap.size < w1.heap.size := by have := hb.size; simp at this; omega
    have Hb := Lib.hid hb
    have hT1 := Lib.hid ((hT.below (b_new w _)).below hb)
    clear hb
    go_wp2_with fail
    go_ret
    exact ⟨ret_int Ho.out.symm, b2 (b_new _ _) Hb.out⟩
  | true =>
    cases hs : summerB t with
    | false =>
      have Ho : Hid (offI o true t = o) := Lib.hid (by unfold offI; rw [if_pos ⟨h0, h1⟩, hs]; rfl)
      go_enter Tryd.func49, Tryd.ntmps49
      go_wp2_with fail
      refine (zone_yes o true _ h0 h1).mono ?_
      rintro e w1 ⟨rfl, hb⟩
      obtain ⟨hc, hf⟩ := bcell hb
      have hz : w.heap.size < w1.heap.size := by have := hb.size; simp at this; omega
      have Hb := Lib.hid hb
      have hT1 := Lib.hid ((hT.below (b_new w _)).below hb)
      clear hb
      go_wp2_with fail
      refine (summer_any t _ hT1.out).mono ?_
      rintro e w2 ⟨rfl, rfl⟩
      go_wp2_with fail
      go_ret
      exact ⟨ret_int Ho.out.symm, b2 (b_new _ _) Hb.out⟩
    | true =>
      have Ho : Hid (offI o true t = o + 60) := Lib.hid (by unfold offI; rw [if_pos ⟨h0, h1⟩, hs]; rfl)
      go_enter Tryd.func49, Tryd.ntmps49
      go_wp2_with fail
      refine (zone_yes o true _ h0 h1).mono ?_
      rintro e w1 ⟨rfl, hb⟩
      obtain ⟨hc, hf⟩ := bcell hb
      have hz : w.heap.size < w1.heap.size := by have := hb.size; simp at this; omega
      have Hb := Lib.hid hb
      have hT1 := Lib.hid ((hT.below (b_new w _)).below hb)
      clear hb
      go_wp2_with fail
      refine (summer_any t _ hT1.out).mono ?_
      rintro e w2 ⟨rfl, rfl⟩
      go_wp2_with fail
      go_ret
      exact ⟨ret_int Ho.out.symm, b2 (b_new _ _) Hb.out⟩

theorem offset_out (o : Int) (sm : Bool) (t : Int) (w : World) (h : o < -840 ∨ 840 < o) :
    Calls Tryd.prog 49 #[.agg #[.int .i64 o, .bool sm], .int .i64 t] w fun e w' => e = .returned (.int .i64 (offI o sm t)) ∧ Below w.heap.size w w' := by
  have Ho := Lib.hid (offI_out o sm t h)
  have Hz := Lib.hid (fun W => zone_no o sm W h)
  clear h
  go_enter Tryd.func49, Tryd.ntmps49
  go_wp2_with fail
  refine (Hz.out _).mono ?_
  rintro e w1 ⟨rfl, hb⟩
  go_wp2_with fail
  go_ret
  exact ⟨ret_int Ho.out.symm, b2 (b_new _ _) hb⟩
theorem offset_any (o : Int) (sm : Bool) (t : Int) (w : World) (hT : Tab w) :
    Calls Tryd.prog 49 #[.agg #[.int .i64 o, .bool sm], .int .i64 t] w fun e w' => e = .returned (.int .i64 (offI o sm t)) ∧ Below w.heap.size w w' := by
  by_cases h : o < -840 ∨ 840 < o
  · exact offset_out o sm t w h
  · exact offset_in o sm t w hT (by omega) (by omega)

set_option maxHeartbeats 1000000 in
theorem local_yes (o : Int) (sm : Bool) (t : Int) (w : World) (hT : Tab w) (h0 : -840 ≤ o) (h1 : o ≤ 840) (t0 : 0 ≤ t) (t1 : t ≤ 268435456) :
    Calls Tryd.prog 29 #[.agg #[.int .i64 o, .bool sm], .int .i64 t] w fun e w' => e = .returned (.tuple #[dateV (t + offI o sm t), .int .i64 0]) ∧ Below w.heap.size w w' := by
  obtain ⟨b1, b3⟩ := offI_bd o sm t
  obtain ⟨F, hF⟩ : ∃ F, F = offI o sm t := ⟨_, rfl⟩
  rw [← hF] at b1 b3
  rw [← hF]
  obtain ⟨Y, M, D, W, N, hV⟩ := dateV_agg (t + F)
  have Hf : Hid (∀ X, Tab X → Calls Tryd.prog 49 #[.agg #[.int .i64 o, .bool sm], .int .i64 t] X fun e w' => e = .returned (.int .i64 F) ∧ Below X.heap.size X w') := Lib.hid (fun X hX => by rw [hF]; exact offset_any o sm t X hX )
  have Hc : Hid (∀ X, Tab X → Calls Tryd.prog 48 #[.int .i64 (t + F)] X fun e w' => e = .returned (.agg #[.int .i64 Y, .int .i64 M, .int .i64 D, .int .i64 W, .int .i64 N]) ∧ Below X.heap.size X w') := Lib.hid (fun X hX => by
    have := civil_any (t + F) X hX (by omega) (by omega)
    rw [hV] at this; exact this)
  have HV := Lib.hid hV
  clear hV hF
  go_enter Tryd.func29, Tryd.ntmps29
  go_wp2_with fail
  refine (zone_yes o sm _ h0 h1).mono ?_
  rintro e w1 ⟨rfl, g1⟩
  obtain ⟨hc1, hf1⟩ := bcell g1
  have hz1 : w.heap.size + 1 < w1.heap.size := by have := g1.size; simp at this; omega
  have G1 := Lib.hid (b2 (b2 (b_new w _) (b_new _ _)) g1)
  clear g1
  go_wp2_with fail
  refine (isTime_yes t _ t0 t1).mono ?_
  rintro e w2 ⟨rfl, rfl⟩
  go_wp2_with fail
  refine (Hf.out _ (hT.below G1.out)).mono ?_
  rintro e w2 ⟨rfl, g2⟩
  obtain ⟨hc2, hf2⟩ := bcell g2
  have hz2 : w.heap.size + 1 < w2.heap.size := by have := g2.size; omega
  have G2 := Lib.hid (b2 G1.out g2)
  clear g2
  go_wp2_with fail
  refine (Hc.out _ (hT.below G2.out)).mono ?_
  rintro e w3 ⟨rfl, g3⟩
  obtain ⟨hc3, hf3⟩ := bcell g3
  have hz3 : w.heap.size + 1 < w3.heap.size := by have := g3.size; omega
  have G3 := Lib.hid (b2 G2.out g3)
  clear g3
  go_wp2_with fail
  refine bodyPost_ret (v := .tuple #[.agg #[.int .i64 Y, .int .i64 M, .int .i64 D, .int .i64 W, .int .i64 N], .int .i64 0]) (by simp [results, Tryd.results29, go_sem, hc1, hc2, hc3, hz1, hz2]) rfl ⟨by rw [HV.out], ?_⟩
  exact b_five G3.out (Nat.le_succ _) _ _ _ _ _
set_option maxHeartbeats 1000000 in
theorem local_zone (o : Int) (sm : Bool) (t : Int) (w : World) (h : o < -840 ∨ 840 < o) :
    Calls Tryd.prog 29 #[.agg #[.int .i64 o, .bool sm], .int .i64 t] w fun e w' => e = .returned (.tuple #[zeroV, .int .i64 1]) ∧ Below w.heap.size w w' := by
  have Hz := Lib.hid (fun W => zone_no o sm W h)
  clear h
  go_enter Tryd.func29, Tryd.ntmps29
  go_wp2_with fail
  refine (Hz.out _).mono ?_
  rintro e w1 ⟨rfl, g1⟩
  obtain ⟨hc1, hf1⟩ := bcell g1
  have hz1 : w.heap.size + 1 < w1.heap.size := by have := g1.size; simp at this; omega
  have G1 := Lib.hid (b2 (b2 (b_new w _) (b_new _ _)) g1)
  clear g1
  go_wp2_with fail
  refine bodyPost_ret (v := .tuple #[.agg #[.int .i64 0, .int .i64 0, .int .i64 0, .int .i64 0, .int .i64 0], .int .i64 1]) (by simp [results, Tryd.results29, go_sem, hc1]) rfl ⟨rfl, ?_⟩
  exact b_five G1.out (Nat.le_succ _) _ _ _ _ _
set_option maxHeartbeats 1000000 in
theorem local_range (o : Int) (sm : Bool) (t : Int) (w : World) (h0 : -840 ≤ o) (h1 : o ≤ 840) (h : t < 0 ∨ 268435456 < t) :
    Calls Tryd.prog 29 #[.agg #[.int .i64 o, .bool sm], .int .i64 t] w fun e w' => e = .returned (.tuple #[zeroV, .int .i64 2]) ∧ Below w.heap.size w w' := by
  have Ht := Lib.hid (fun W => isTime_no t W h)
  clear h
  go_enter Tryd.func29, Tryd.ntmps29
  go_wp2_with fail
  refine (zone_yes o sm _ h0 h1).mono ?_
  rintro e w1 ⟨rfl, g1⟩
  obtain ⟨hc1, hf1⟩ := bcell g1
  have hz1 : w.heap.size + 1 < w1.heap.size := by have := g1.size; simp at this; omega
  have G1 := Lib.hid (b2 (b2 (b_new w _) (b_new _ _)) g1)
  clear g1
  go_wp2_with fail
  refine (Ht.out _).mono ?_
  rintro e w2 ⟨rfl, rfl⟩
  go_wp2_with fail
  refine bodyPost_ret (v := .tuple #[.agg #[.int .i64 0, .int .i64 0, .int .i64 0, .int .i64 0, .int .i64 0], .int .i64 2]) (by simp [results, Tryd.results29, go_sem, hc1]) rfl ⟨rfl, ?_⟩
  exact b_five G1.out (Nat.le_succ _) _ _ _ _ _

end Go.Proofs.YtmapkiefmbgdoabDoor
