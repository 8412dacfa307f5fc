/-
  What Parse returns.
-/
import Derived.Test.YtjjhdbodjcffaaaDoorMonR
import Derived.Test.YtjjhdbodjcffaaaDoorMonN
namespace Go.Proofs.YtjjhdbodjcffaaaDoor
open Go.RowKit
open IntWalk

set_option maxHeartbeats 1000000 in
set_option maxRecDepth 10000 in
theorem parse_short (s : ByteArray) (w : World) (h : s.size < 8) :
    Calls Tryd.prog 23 #[.string s] w fun e w' => e = .returned (.tuple #[.int .i64 0, .string ⟨#[]⟩, .int .i64 5]) ∧ w = w' := by
  go_enter Tryd.func23, Tryd.ntmps23
  go_wp2
  go_ret3
  exact ⟨rfl, rfl⟩

/-- The error variables of strconv lie. -/
def TabE (w : World) : Prop := (∃ t p, w.var? Tryd.prog "strconv.ErrSyntax" = some #[.iface t p]) ∧ (∃ t p, w.var? Tryd.prog "strconv.ErrRange" = some #[.iface t p])
theorem below_bytes (w : World) (t : ByteArray) (T : TypeId) : Below w.heap.size w (Lib.bytesWorld w T t) := by
  exact Lib.bytesWorld_below w T t
theorem atoi_ok (D : ByteArray) (v : Int) (w : World) (hs : D.size ≤ 2000000) (h : Lib.atoiAll D.data.toList = .ok v) :
    Calls Tryd.prog 41 #[.string D] w fun e w' => e = .returned (.tuple #[.int .i64 v, .nilIface]) ∧ Below w.heap.size w w' := by
  refine (Tryd.strconv_Atoi_ok D (by omega) v h w).mono ?_
  rintro e w' ⟨he, hw⟩
  refine ⟨he, ?_⟩
  rcases hw with rfl | ⟨t, rfl⟩
  · exact Below.refl _ _
  · exact below_bytes _ _ _
theorem atoi_bad (D : ByteArray) (w : World) (hs : D.size ≤ 2000000) (hE : TabE w) (h : ∀ v, Lib.atoiAll D.data.toList ≠ .ok v) :
    Calls Tryd.prog 41 #[.string D] w fun e w' => (∃ v N, e = .returned (.tuple #[.int .i64 v, .iface 84 (.pointer (some ⟨N, 0, none⟩))])) ∧ Below w.heap.size w w' := by
  obtain ⟨⟨t, p, h1⟩, ⟨t2, p2, h2⟩⟩ := hE
  cases hc : Lib.atoiAll D.data.toList with
  | ok v => exact absurd hc (h v)
  | range =>
    refine (Tryd.strconv_Atoi_range_var D (by omega) hc t2 p2 w h2).mono ?_
    rintro e w' ⟨N, he, _, _, hb⟩
    exact ⟨⟨_, N, he⟩, hb⟩
  | _ =>
    refine (Tryd.strconv_Atoi_syntax_var D (by omega) hc t p w h1).mono ?_
    rintro e w' ⟨N, he, _, _, hb⟩
    exact ⟨⟨0, N, he⟩, hb⟩

theorem ba_ne {a b : ByteArray} (h : ¬ a = b) : (a.toList == b.toList) = false := by
  rw [beq_eq_false_iff_ne]
  intro e
  rw [ByteArray.toList_eq, ByteArray.toList_eq] at e
  exact h (ByteArray.ext (by rw [← Array.toList_inj]; exact e))
theorem below_draws (w : World) (n : Nat) : Below w.heap.size w (w.drewN n) := by
  induction n with
  | zero => exact Below.refl _ _
  | succ n ih => exact ih.drew
def parD (s : ByteArray) : ByteArray := s.extract 0 (s.size - 8) ++ s.extract (s.size - 8 + 1) (s.size - 8 + 1 + 3)
def parC (s : ByteArray) : ByteArray := s.extract (s.size - 3) s.size
/-- What Parse hands back where it fails. -/
def parBad : Ending := .returned (.tuple #[.int .i64 0, .string ⟨#[]⟩, .int .i64 5])

set_option maxHeartbeats 1000000 in
set_option maxRecDepth 10000 in
theorem parse_nan (s : ByteArray) (w : World) (h : 8 ≤ s.size) (hs : s.size ≤ 2000000)
    (HA : Hid (∀ W, Below w.heap.size w W → Calls Tryd.prog 41 #[.string (parD s)] W fun e w' => (∃ v N, e = .returned (.tuple #[.int .i64 v, .iface 84 (.pointer (some ⟨N, 0, none⟩))])) ∧ Below W.heap.size W w')) :
    Calls Tryd.prog 23 #[.string s] w fun e w' => e = parBad ∧ Below w.heap.size w w' := by
  have ED : Hid (s.extract 0 (s.size - 8) ++ s.extract (s.size - 8 + 1) (s.size - 8 + 1 + 3) = parD s) := Lib.hid rfl
  go_enter Tryd.func23, Tryd.ntmps23
  go_upto_region 4 with fail
  go_quiet (fail)
  go_upto_region 6 with fail
  rw [ED.out]
  go_wp2_with fail
  refine (HA.out _ (below_draws w _)).mono ?_
  rintro e w5 ⟨⟨v, N, rfl⟩, g5⟩
  have G5 := Lib.hid ((below_draws w _).trans (g5.mono (below_draws w _).size))
  clear g5
  go_wp2
  go_ret3
  exact ⟨rfl, G5.out⟩

set_option maxHeartbeats 1000000 in
set_option maxRecDepth 10000 in
theorem parse_cur (s : ByteArray) (v : Int) (w : World) (h : 8 ≤ s.size) (hs : s.size ≤ 2000000)
    (HA : Hid (∀ W, Below w.heap.size w W → Calls Tryd.prog 41 #[.string (parD s)] W fun e w' => e = .returned (.tuple #[.int .i64 v, .nilIface]) ∧ Below W.heap.size W w'))
    (HF : Hid (∀ W, Below w.heap.size w W → Calls Tryd.prog 21 #[.int .i64 v, .string (parC s)] W fun e w' => e = .returned (.tuple #[.string ⟨#[]⟩, .int .i64 21]) ∧ Below W.heap.size W w')) :
    Calls Tryd.prog 23 #[.string s] w fun e w' => e = parBad ∧ Below w.heap.size w w' := by
  have ED : Hid (s.extract 0 (s.size - 8) ++ s.extract (s.size - 8 + 1) (s.size - 8 + 1 + 3) = parD s) := Lib.hid rfl
  have EC : Hid (s.extract (s.size - 3) s.size = parC s) := Lib.hid rfl
  go_enter Tryd.func23, Tryd.ntmps23
  go_upto_region 4 with fail
  go_quiet (fail)
  go_upto_region 6 with fail
  rw [ED.out, EC.out]
  go_wp2_with fail
  refine (HA.out _ (below_draws w _)).mono ?_
  rintro e w5 ⟨rfl, g5⟩
  have G5 := Lib.hid ((below_draws w _).trans (g5.mono (below_draws w _).size))
  clear g5
  go_wp2_with fail
  refine (HF.out _ G5.out).mono ?_
  rintro e w6 ⟨rfl, g6⟩
  have G6 := Lib.hid (G5.out.trans (g6.mono G5.out.size))
  clear g6
  go_wp2
  go_ret3
  exact ⟨rfl, G6.out⟩

set_option maxHeartbeats 1000000 in
set_option maxRecDepth 10000 in
theorem parse_form (s F : ByteArray) (v : Int) (w : World) (h : 8 ≤ s.size) (hs : s.size ≤ 2000000)
    (HA : Hid (∀ W, Below w.heap.size w W → Calls Tryd.prog 41 #[.string (parD s)] W fun e w' => e = .returned (.tuple #[.int .i64 v, .nilIface]) ∧ Below W.heap.size W w'))
    (HF : Hid (∀ W, Below w.heap.size w W → Calls Tryd.prog 21 #[.int .i64 v, .string (parC s)] W fun e w' => e = .returned (.tuple #[.string F, .int .i64 0]) ∧ Below W.heap.size W w')) :
    Calls Tryd.prog 23 #[.string s] w fun e w' => e = (if F = s then .returned (.tuple #[.int .i64 v, .string (parC s), .int .i64 0]) else parBad) ∧ Below w.heap.size w w' := by
  have ED : Hid (s.extract 0 (s.size - 8) ++ s.extract (s.size - 8 + 1) (s.size - 8 + 1 + 3) = parD s) := Lib.hid rfl
  have EC : Hid (s.extract (s.size - 3) s.size = parC s) := Lib.hid rfl
  by_cases hf : F = s
  · rw [if_pos hf]
    subst hf
    go_enter Tryd.func23, Tryd.ntmps23
    go_upto_region 4 with fail
    go_quiet (fail)
    go_upto_region 6 with fail
    rw [ED.out, EC.out]
    go_wp2_with fail
    refine (HA.out _ (below_draws w _)).mono ?_
    rintro e w5 ⟨rfl, g5⟩
    have G5 := Lib.hid ((below_draws w _).trans (g5.mono (below_draws w _).size))
    clear g5
    go_wp2_with fail
    refine (HF.out _ G5.out).mono ?_
    rintro e w6 ⟨rfl, g6⟩
    have G6 := Lib.hid (G5.out.trans (g6.mono G5.out.size))
    clear g6
    go_wp2
    go_ret3
    exact ⟨rfl, G6.out⟩
  · rw [if_neg hf]
    have hz : (F.toList == s.toList) = false := ba_ne hf
    clear hf
    go_enter Tryd.func23, Tryd.ntmps23
    go_upto_region 4 with fail
    go_quiet (fail)
    go_upto_region 6 with fail
    rw [ED.out, EC.out]
    go_wp2_with fail
    refine (HA.out _ (below_draws w _)).mono ?_
    rintro e w5 ⟨rfl, g5⟩
    have G5 := Lib.hid ((below_draws w _).trans (g5.mono (below_draws w _).size))
    clear g5
    go_wp2_with fail
    refine (HF.out _ G5.out).mono ?_
    rintro e w6 ⟨rfl, g6⟩
    have G6 := Lib.hid (G5.out.trans (g6.mono G5.out.size))
    clear g6
    go_wp2
    go_ret3
    exact ⟨rfl, G6.out⟩
end Go.Proofs.YtjjhdbodjcffaaaDoor
