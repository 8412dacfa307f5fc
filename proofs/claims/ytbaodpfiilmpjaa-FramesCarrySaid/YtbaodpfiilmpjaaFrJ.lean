/-
  What stands behind a stream: Concat, IndexByte, Clone.
-/
import Derived.Test.YtbaodpfiilmpjaaFrI
import Derived.Test.YtbaodpfiilmpjaaShelf
namespace Go.Proofs.Ytbaodpfiilmpjaa.F
open Go.RowKit
open IntWalk

/-! The place of a mark. -/
/-- The place of the first mark, or -1. -/
def idx (l : List UInt8) : Int := Lib.indexByte l 192
theorem idx_none (l : List UInt8) (h : (192 : UInt8) ∉ l) : idx l = -1 := by
  unfold idx
  induction l with
  | nil => rfl
  | cons c l ih =>
    have hc : c ≠ 192 := fun e => h (by rw [e]; exact List.mem_cons_self ..)
    have := ih (fun hm => h (List.mem_cons_of_mem _ hm))
    unfold Lib.indexByte
    rw [this]
    simp [hc]
theorem idx_some (x t : List UInt8) (h : (192 : UInt8) ∉ x) : idx (x ++ 192 :: t) = x.length := by
  unfold idx
  induction x with
  | nil => unfold Lib.indexByte; simp
  | cons c x ih =>
    have hc : c ≠ 192 := fun e => h (by rw [e]; exact List.mem_cons_self ..)
    have := ih (fun hm => h (List.mem_cons_of_mem _ hm))
    rw [List.cons_append]
    unfold Lib.indexByte
    rw [this]
    simp [hc]
theorem nums_back (l : List UInt8) : Lib.bytesOf (l.map (fun c => (c.toNat : Int))) = l := by
  unfold Lib.bytesOf
  rw [List.map_map]
  conv => rhs; rw [← List.map_id l]
  apply List.map_congr_left
  intro c _
  simp
theorem index_run (v : Value) (l : List UInt8) (w : World) (h : RdB w v l) (hnil : v = .slice none 0 0 ∨ ∃ a n c, v = .slice (some a) n c) :
    Calls Try.prog 17 #[v, .int .u8 192] w fun e w' => e = .returned (.int .i64 (idx l)) ∧ w = w' := by
  obtain ⟨p, c, rfl, h2, h3, h4⟩ := h
  cases p with
  | none =>
    have hl : l = [] := by
      by_cases hn : l = []
      · exact hn
      · obtain ⟨_, _, e, _⟩ := h4 hn; cases e
    subst hl
    rcases hnil with e | ⟨a, n, c', e⟩
    · injection e with e1 e2 e3
      subst e3
      refine (Try.bytes_IndexByte_nil 192 w).mono ?_
      rintro e w' ⟨he, hw⟩
      exact ⟨he, hw.symm⟩
    · cases e
  | some a =>
    refine (Try.bytes_IndexByte_at a l.length c (l.map (fun c => (c.toNat : Int))) 192 w (by simp) ?_).mono ?_
    · intro i hi
      obtain ⟨b, o, e, ha⟩ := h4 (fun e => by rw [e] at hi; exact absurd hi (by simp))
      injection e with e
      subst e
      rw [Addr.add_lit, ha.2 i hi]
      simp [bv, hi]
    · rintro e w' ⟨he, hw⟩
      refine ⟨he.trans ?_, hw.symm⟩
      rw [nums_back]; rfl
theorem clone_run (v : Value) (l : List UInt8) (w : World) (h : RdB w v l) (hl : l.length ≤ 2000000) (hn : l ≠ []) :
    Calls Try.prog 19 #[v] w fun e w' => (∃ v', e = .returned v' ∧ OwnB w' w.heap.size v' l) ∧ Below w.heap.size w w' := by
  obtain ⟨p, c, rfl, h2, h3, h4⟩ := h
  obtain ⟨b, o, rfl, ha⟩ := h4 hn
  refine (Try.bytes_Clone_at ⟨b, o, none⟩ l.length c (l.map (fun c => (c.toNat : Int))) w (by simp) (by omega) ?_).mono ?_
  · intro i hi
    rw [Addr.add_lit, ha.2 i hi]
    simp [bv, hi]
  · rintro e w' ⟨v', he, ho, _, hb⟩
    refine ⟨⟨v', he, ?_, hb.size⟩, hb⟩
    rw [List.map_map] at ho
    exact ho
theorem grow_run (n : Nat) (w : World) (hn : n ≤ 2000000) :
    Calls Try.prog 27 #[.slice none 0 0, .int .i64 n] w fun e w' => (∃ v, e = .returned v ∧ OwnB w' w.heap.size v []) ∧ Below w.heap.size w w' := by
  by_cases h0 : n = 0
  · subst h0
    refine (Try.slices_Grow_room none 0 0 0 w (by omega) (by omega) (by omega) (by omega)).mono ?_
    rintro e w' ⟨he, rfl⟩
    exact ⟨⟨_, he, OwnB.none_ _ _ (Nat.le_refl _)⟩, Below.refl _ _⟩
  · obtain ⟨i0, hi, hz0, hz1, hz2⟩ := info_parts Try.byteInfo
    refine (Any8.slices_Grow_grow Try.lays8n4 i0 (.int .u8 0) hi hz0 (by omega) none 0 0 n [] w (by omega) (by omega) (by rw [hz2]; omega) (by omega) (by simp) (fun _ => rfl) (fun a h => by cases h)).mono ?_
    rintro e w' ⟨he, rfl⟩
    refine ⟨⟨_, he, ⟨?_, ?_⟩⟩, (Below.refl _ w).drew.alloc (Nat.le_refl _) _⟩
    · have hge := grownCap_ge w (0 + n) 0 5
      refine World.ownsRow_made w.drew _ _ (Nat.le_refl _) (grownCap_le_maxLen w (0 + n) 0 5 (by unfold maxLen; omega)) ?_
      rw [Array.size_append, Array.size_append, size_zeroCells, size_zeroCells]
      have ht : Try.lays8n4_ren.t 25 = 5 := rfl
      rw [ht]
      simp [Value.cells] at hge ⊢
      omega
    · simp

set_option maxHeartbeats 4000000 in
set_option maxRecDepth 10000 in
theorem concat_run (q : Nat) (u v : Value) (x y : List UInt8) (w : World) (hu : RdB w u x) (hv : RdB w v y) (hx : x.length ≤ 1000000) (hy : y.length ≤ 1000000) (hq : w.heap[q]? = some (.cells #[u, v] 23 (0, 0))) :
    Calls Try.prog 16 #[.slice (some ⟨q, 0, none⟩) 2 2] w fun e w' => (∃ r, e = .returned r ∧ OwnB w' w.heap.size r (x ++ y)) ∧ Below w.heap.size w w' := by
  have HU := Lib.hid hu
  have HV := Lib.hid hv
  have hql : q < w.heap.size := by
    rcases Nat.lt_or_ge q w.heap.size with hl | hl
    · exact hl
    · rw [Array.getElem?_eq_none hl] at hq; cases hq
  have HC : Hid (∀ w', Below w.heap.size w w' → w'.cell? ⟨q, 0, none⟩ = some u ∧ w'.cell? ⟨q, 1, none⟩ = some v) := Lib.hid (fun w' hb => by
    have hh := (hb.block q hql).trans hq
    exact ⟨cell_of_row w' q 0 _ _ (0, 0) hh, cell_of_row w' q 1 _ _ (0, 0) hh⟩)
  obtain ⟨c0, c1⟩ := HC.out w (Below.refl _ _)
  obtain ⟨p, c, rfl, _, hcm, _⟩ := hu
  obtain ⟨p2, d, rfl, _, hdm, _⟩ := hv
  unfold maxLen at hcm hdm
  clear hq
  go_enter Try.func16, Try.ntmps16
  go_wp2
  refine wp_loop_rounds 3 ?_
  rw [rounds_succ]
  go_wp2
  rw [rounds_succ]
  go_wp2
  rw [rounds_succ]
  go_wp2_with fail
  have EN : (x.length : Int) + y.length = ((x.length + y.length : Nat) : Int) := by omega
  rw [EN]
  clear EN
  refine (grow_run (x.length + y.length) w (by omega)).mono ?_
  rintro e w1 ⟨⟨r1, rfl, o1⟩, b1⟩
  have B1 := Lib.hid b1
  have O1 := Lib.hid o1
  obtain ⟨c2, c3⟩ := HC.out w1 B1.out
  clear b1 o1 c0 c1
  go_wp2
  refine wp_loop_rounds 3 ?_
  rw [rounds_succ]
  go_wp2_with (at_builtin; refine wp_app rfl _ _ rfl w.heap.size _ _ [] x rfl rfl O1.out (HU.out.below B1.out) (by simp) (by omega) ?_; intro r2 w2 o2 g2 _)
  have B2 := Lib.hid (B1.out.trans (grown_below O1.out g2))
  have O2 := Lib.hid o2
  obtain ⟨c4, c5⟩ := HC.out w2 B2.out
  clear o2 g2 c2 c3
  rw [rounds_succ]
  go_wp2_with (at_builtin; refine wp_app rfl _ _ rfl w.heap.size _ _ ([] ++ x) y rfl rfl O2.out (HV.out.below B2.out) (by simp; omega) (by omega) ?_; intro r3 w3 o3 g3 _)
  have B3 := Lib.hid (B2.out.trans (grown_below O2.out g3))
  have O3 := Lib.hid o3
  clear o3 g3 c4 c5
  rw [rounds_succ]
  go_wp2
  go_ret
  exact ⟨⟨_, rfl, O3.out⟩, B3.out⟩
end Go.Proofs.Ytbaodpfiilmpjaa.F
