/-
  What At returns, in the package series and in its reference.
-/
import Derived.Test.YtapfinnbfnhdbabSerW
import Derived.Deep.LoopGhost
import Derived.Shelf.Abstract
namespace Go.Proofs.Ytapfinnbfnhdbab
open Go.RowKit
open Ser
set_option linter.unusedVariables false

/-- Does the step at a place lie behind a time. -/
def lateB (l : List St) (t : Int) (i : Nat) : Bool := decide (t < (l.getD i (0, 0)).1)

set_option maxHeartbeats 1600000 in
set_option maxRecDepth 1000000 in
theorem atC_any (B1 B2 b o c i n : Nat) (x t : Int) (W : World) (hi : i < n) (hn : n ≤ 2000000) (h1 : W.cell? ⟨B1, 0, none⟩ = some (.slice (some ⟨b, o, none⟩) n c)) (h2 : W.cell? ⟨B2, 0, none⟩ = some (.int .i64 t))
    (hc : W.cell? ⟨b, o + i * 2, none⟩ = some (.int .i64 x)) :
    Calls Try.prog 31 #[.int .i64 i, .pointer (some ⟨B1, 0, none⟩), .pointer (some ⟨B2, 0, none⟩)] W fun e w' => e = .returned (.bool (decide (t < x))) ∧ ∃ q, w' = W.drewN q := by
  have hiz : (i : Int) < (n : Int) := by omega
  go_enter Try.func31, Try.ntmps31
  go_wp2_with fail
  go_quiet (fail)
  go_wp2_with fail
  go_ret
  exact ⟨rfl, _, rfl⟩

set_option maxHeartbeats 4000000 in
set_option maxRecDepth 1000000 in
theorem search_any (B1 B2 b o c : Nat) (l : List St) (t : Int) (w : World) (hn : l.length ≤ 2000000) (h1 : w.cell? ⟨B1, 0, none⟩ = some (.slice (some ⟨b, o, none⟩) l.length c)) (h2 : w.cell? ⟨B2, 0, none⟩ = some (.int .i64 t))
    (hR : At w b o l) :
    Calls Try.prog 30 #[.int .i64 l.length, .func (.func 31) #[] #[.pointer (some ⟨B1, 0, none⟩), .pointer (some ⟨B2, 0, none⟩)]] w fun e w' =>
      ∃ r q : Nat, e = .returned (.int .i64 r) ∧ Hid (r ≤ l.length ∧ (∀ k, k + 1 = r → lateB l t k = false) ∧ (r < l.length → lateB l t r = true)) ∧ w' = w.drewN q := by
  have hf : ∀ q i, (hi : i < l.length) → Calls Try.prog 31 (#[.int .i64 i] ++ #[.pointer (some ⟨B1, 0, none⟩), .pointer (some ⟨B2, 0, none⟩)]) (w.drewN q) fun e w' => e = .returned (.bool (lateB l t i)) ∧ ∃ q', w' = (w.drewN q).drewN q' := fun q i hi => by
    have := atC_any B1 B2 b o c i l.length l[i].1 t (w.drewN q) hi hn h1 h2 (hR.2 i hi).1
    unfold lateB
    rw [show (l.getD i (0, 0)) = l[i] by simp [hi]]
    exact this
  have HF := Lib.hid hf
  clear hf h1 h2 hR
  go_enter Try.func30, Try.ntmps30
  go_wp2
  go_loopg [5, 6] l.length (fun g s5 s6 wr => ∃ (lo hi q : Nat), s5 = .int .i64 lo ∧ s6 = .int .i64 hi ∧ lo ≤ hi ∧ hi ≤ l.length ∧ hi - lo ≤ g ∧ wr = w.drewN q ∧
    Hid ((∀ k, k + 1 = lo → lateB l t k = false) ∧ (hi < l.length → lateB l t hi = true)))
  case atStart => exact ⟨0, l.length, 0, rfl, rfl, Nat.zero_le _, Nat.le_refl _, by omega, rfl, Lib.hid ⟨fun k hk => by omega, fun h => by omega⟩⟩
  case round =>
    obtain ⟨lo, hi, q, rfl, rfl, hlh, hin, hg, rfl, I⟩ := hrel
    by_cases hlt : lo < hi
    · have hc := HF.out q ((lo + hi) / 2) (by omega)
      rw [show (((lo + hi) / 2 : Nat) : Int) = ((lo : Int) + (hi : Int)) / 2 by omega] at hc
      cases hp : lateB l t ((lo + hi) / 2) <;> rw [hp] at hc
      · have HP := Lib.hid hp
        have HC := Lib.hid hc
        clear hp hc
        go_wp2_with fail
        refine HC.out.mono ?_
        rintro e w' ⟨rfl, nq, rfl⟩
        go_wp2_with fail
        go_roundg (hi - ((lo + hi) / 2 + 1))
        case measure => omega
        case rel =>
          exact ⟨(lo + hi) / 2 + 1, hi, q + nq, by rw [show ((lo : Int) + (hi : Int)) / 2 + 1 = (((lo + hi) / 2 + 1 : Nat) : Int) by omega], rfl, by omega, hin, Nat.le_refl _, rfl,
            Lib.hid ⟨fun k hk => by rw [show k = (lo + hi) / 2 by omega]; exact HP.out, I.out.2⟩⟩
      · have HP := Lib.hid hp
        have HC := Lib.hid hc
        clear hp hc
        go_wp2_with fail
        refine HC.out.mono ?_
        rintro e w' ⟨rfl, nq, rfl⟩
        go_wp2_with fail
        go_roundg ((lo + hi) / 2 - lo)
        case measure => omega
        case rel =>
          exact ⟨lo, (lo + hi) / 2, q + nq, rfl, by rw [show ((lo : Int) + (hi : Int)) / 2 = (((lo + hi) / 2 : Nat) : Int) by omega], by omega, by omega, Nat.le_refl _, rfl,
            Lib.hid ⟨I.out.1, fun _ => HP.out⟩⟩
    · obtain rfl : hi = lo := by omega
      go_wp2
      go_ret
      exact ⟨hi, q, rfl, Lib.hid ⟨hin, I.out.1, I.out.2⟩, rfl⟩

/-- What At returns: for a series that ascends, its value. -/
def GivesAt (w : World) (l : List St) (t : Int) (e : Ending) (w' : World) : Prop := ∃ x, e = .returned (.int .i64 x) ∧ (Asc (-1) l → x = atL l t) ∧ Below w.heap.size w w'

set_option maxHeartbeats 4000000 in
set_option maxRecDepth 1000000 in
theorem at_some (b o c : Nat) (l : List St) (t : Int) (w : World) (hl : l.length ≤ 2000000) (hR : At w b o l) :
    Calls Try.prog 13 #[.slice (some ⟨b, o, none⟩) l.length c, .int .i64 t] w (GivesAt w l t) := by
  have hmf : ∀ (fn : Fn) (first cap : Array Value) (w : World), (Instr.makeFunc fn first cap).run Try.prog w = .ok (.func fn first cap) w := fun _ _ _ _ => rfl
  have hb2 : Below w.heap.size w ((w.alloc (.cells #[.slice (some ⟨b, o, none⟩) l.length c] 22)).alloc (.cells #[.int .i64 t] 3)) := ((Below.refl _ _).alloc (Nat.le_refl _) _).alloc (by simp) _
  have hS := search_any w.heap.size (w.heap.size + 1) b o c l t ((w.alloc (.cells #[.slice (some ⟨b, o, none⟩) l.length c] 22)).alloc (.cells #[.int .i64 t] 3)) hl
    (by rw [World.cell?_alloc_past _ _ _ (by simp), World.cell?_alloc_at _ _ _ _ rfl]; rfl) (by rw [World.cell?_alloc_at _ _ _ _ (by simp)]; rfl) (hR.below hb2)
  have HS := Lib.hid hS
  have HB := Lib.hid hb2
  have HR := Lib.hid hR
  have hc1 : ((w.alloc (.cells #[.slice (some ⟨b, o, none⟩) l.length c] 22)).alloc (.cells #[.int .i64 t] 3)).cell? ⟨w.heap.size, 0, none⟩ = some (.slice (some ⟨b, o, none⟩) l.length c) := by
    rw [World.cell?_alloc_past _ _ _ (by simp), World.cell?_alloc_at _ _ _ _ rfl]; rfl
  clear hS hb2 hR
  go_enter Try.func13, Try.ntmps13
  go_wp2_with fail
  refine HS.out.mono ?_
  rintro e w1 ⟨r, q, rfl, HI, rfl⟩
  obtain ⟨hr, _⟩ := HI.out
  match r, hr, HI with
  | 0, hr, HI =>
    go_wp2
    go_ret
    refine ⟨0, rfl, fun ha => ?_, (dNb HB.out _)⟩
    rw [atL_of l (-1) t 0 ha (by omega) (fun k hk h => by omega) (fun hk => ?_)]
    · rfl
    · have := HI.out.2.2 hk
      unfold lateB at this
      simpa [hk] using this
  | k + 1, hr, HI =>
    have hk : k < l.length := by omega
    obtain ⟨g1, g2⟩ := HR.out.get HB.out k hk
    obtain ⟨x, ex⟩ : ∃ x, x = l[k].2 := ⟨_, rfl⟩
    rw [← ex] at g2
    have EX := Lib.hid ex
    have hw1 : IntKind.i64.wrap (((k + 1 : Nat) : Int) - 1) = (k : Int) := by rw [IntKind.wrap_i64]; omega
    have hz : (((k + 1 : Nat) : Int) == 0) = false := by simp; omega
    clear g1 ex
    go_wp2
    go_ret
    refine ⟨x, rfl, fun ha => ?_, (dNb HB.out _)⟩
    rw [atL_of l (-1) t (k + 1) ha hr (fun j hj h => ?_) (fun hk => ?_), atR_succ l k hk, EX.out]
    · obtain rfl : j = k := by omega
      have := HI.out.2.1 j rfl
      unfold lateB at this
      simpa [hj] using this
    · have := HI.out.2.2 hk
      unfold lateB at this
      simpa [hk] using this

set_option maxHeartbeats 4000000 in
set_option maxRecDepth 1000000 in
theorem at_nil (p : Option Addr) (c : Nat) (t : Int) (w : World) : Calls Try.prog 13 #[.slice p 0 c, .int .i64 t] w (GivesAt w [] t) := by
  have hmf : ∀ (fn : Fn) (first cap : Array Value) (w : World), (Instr.makeFunc fn first cap).run Try.prog w = .ok (.func fn first cap) w := fun _ _ _ _ => rfl
  have hb2 : Below w.heap.size w ((w.alloc (.cells #[.slice p 0 c] 22)).alloc (.cells #[.int .i64 t] 3)) := ((Below.refl _ _).alloc (Nat.le_refl _) _).alloc (by simp) _
  have HB := Lib.hid hb2
  have hS : ∀ W, Calls Try.prog 30 #[.int .i64 0, .func (.func 31) #[] #[.pointer (some ⟨w.heap.size, 0, none⟩), .pointer (some ⟨w.heap.size + 1, 0, none⟩)]] W fun e w' => e = .returned (.int .i64 0) ∧ W = w' := fun W => by
    go_enter Try.func30, Try.ntmps30
    go_wp2
    refine wp_loop_rounds 1 ?_
    rw [rounds_succ]
    go_wp2
    go_ret
    exact ⟨rfl, rfl⟩
  have HS := Lib.hid hS
  clear hb2 hS
  go_enter Try.func13, Try.ntmps13
  go_wp2_with fail
  refine (HS.out _).mono ?_
  rintro e w1 ⟨rfl, rfl⟩
  go_wp2
  go_ret
  exact ⟨0, rfl, fun _ => rfl, HB.out⟩
theorem at_any (v : Value) (l : List St) (t : Int) (w : World) (hl : l.length ≤ 2000000) (hR : Rd w v l) : Calls Try.prog 13 #[v, .int .i64 t] w (GivesAt w l t) := by
  obtain ⟨p, c, rfl, h2, h3, h4⟩ := hR
  by_cases e : l = []
  · subst e; exact at_nil p c t w
  · obtain ⟨b, o, rfl, ha⟩ := h4 e; exact at_some b o c l t w hl ha

theorem atL_take (l : List St) (k : Nat) (t : Int) (h : k < l.length) : atL (l.take (k + 1)) t = if l[k].1 ≤ t then l[k].2 else atL (l.take k) t := by
  rw [take_snoc l k h, atL_snoc]
set_option maxHeartbeats 4000000 in
set_option maxRecDepth 1000000 in
theorem refAt_some (b o c : Nat) (l : List St) (t : Int) (w : World) (hl : l.length ≤ 2000000) (hR : At w b o l) :
    Calls Try.prog 16 #[.slice (some ⟨b, o, none⟩) l.length c, .int .i64 t] w fun e w' => e = .returned (.int .i64 (atL l t)) ∧ w = w' := by
  have HR := Lib.hid hR
  clear hR
  go_enter Try.func16, Try.ntmps16
  go_wp2
  go_loop [5, 6] (fun v i => ∃ k : Nat, k ≤ l.length ∧ i = .int .i64 k ∧ v = .int .i64 (atL (l.take k) t)) (fun _ i => l.length - (intOf i).toNat)
  case atStart => exact ⟨0, Nat.zero_le _, rfl, rfl⟩
  case round =>
    obtain ⟨k, hk, rfl, rfl⟩ := hrel
    by_cases hlt : k < l.length
    · obtain ⟨h1, h2⟩ := HR.out.2 k hlt
      have hs := atL_take l k t hlt
      obtain ⟨x1, e1⟩ : ∃ x, x = l[k].1 := ⟨_, rfl⟩
      obtain ⟨x2, e2⟩ : ∃ x, x = l[k].2 := ⟨_, rfl⟩
      rw [← e1, ← e2] at hs
      rw [← e1] at h1
      rw [← e2] at h2
      have HS := Lib.hid hs
      clear e1 e2 hs
      by_cases ht : x1 ≤ t
      · go_wp2
        go_round
        case rel => exact ⟨k + 1, by omega, by go_num, by rw [HS.out, if_pos ht]⟩
        case measure => simp [intOf]; omega
      · go_wp2
        go_round
        case rel => exact ⟨k + 1, by omega, by go_num, by rw [HS.out, if_neg ht]⟩
        case measure => simp [intOf]; omega
    · go_wp2
      go_ret
      exact ⟨ret_int (by rw [List.take_of_length_le (by omega)]), rfl⟩
set_option maxHeartbeats 400000 in
theorem refAt_nil (p : Option Addr) (c : Nat) (t : Int) (w : World) : Calls Try.prog 16 #[.slice p 0 c, .int .i64 t] w fun e w' => e = .returned (.int .i64 (atL [] t)) ∧ w = w' := by
  have Hv := Lib.hid (show atL [] t = 0 from rfl)
  go_enter Try.func16, Try.ntmps16
  go_wp2
  refine wp_loop_rounds 1 ?_
  rw [rounds_succ]
  go_wp2
  go_ret
  exact ⟨ret_int Hv.out.symm, rfl⟩
theorem refAt_any (v : Value) (l : List St) (t : Int) (w : World) (hl : l.length ≤ 2000000) (hR : Rd w v l) : Calls Try.prog 16 #[v, .int .i64 t] w fun e w' => e = .returned (.int .i64 (atL l t)) ∧ w = w' := by
  obtain ⟨p, c, rfl, h2, h3, h4⟩ := hR
  by_cases e : l = []
  · subst e; exact refAt_nil p c t w
  · obtain ⟨b, o, rfl, ha⟩ := h4 e; exact refAt_some b o c l t w hl ha
end Go.Proofs.Ytapfinnbfnhdbab
