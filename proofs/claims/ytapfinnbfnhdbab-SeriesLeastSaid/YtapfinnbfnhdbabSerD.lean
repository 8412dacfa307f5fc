/-
  What the reference's put, combine and Normal return.
-/
import Derived.Test.YtapfinnbfnhdbabSerC
namespace Go.Proofs.Ytapfinnbfnhdbab
open Go.RowKit
open Ser
set_option linter.unusedVariables false

/-- What a call returns that has put a step behind an own series. -/
def GivesOwn (B : Nat) (w : World) (l : List St) (e : Ending) (w' : World) : Prop := ∃ v, e = .returned v ∧ w'.ownsRow B 30 2 v l.length (stV l) ∧ Below B w w'

set_option maxHeartbeats 4000000 in
set_option maxRecDepth 1000000 in
theorem put_nil (B : Nat) (p : Option Addr) (c : Nat) (t x : Int) (w : World) (hB : B ≤ w.heap.size) (hown : w.ownsRow B 30 2 (.slice p 0 c) 0 []) :
    Calls Try.prog 44 #[.slice p 0 c, .int .i64 t, .int .i64 x] w (GivesOwn B w (putL [] t x)) := by
  obtain ⟨i0, hi, hz0, hz1, hz2⟩ := info_parts info_step
  have HO := Lib.hid hown
  by_cases hx : x = 0
  · have hp : putL [] t x = [] := if_pos hx
    have hx' : (x == 0) = true := by simpa using hx
    have HP := Lib.hid hp
    clear hx hp hown
    go_enter Try.func44, Try.ntmps44
    go_wp2
    go_ret
    exact ⟨_, rfl, by rw [HP.out]; exact HO.out, Below.refl _ _⟩
  · have hp : putL [] t x = [] ++ [(t, x)] := if_neg hx
    have hx' : (x == 0) = false := by simpa using hx
    have HP := Lib.hid hp
    clear hx hp
    go_enter Try.func44, Try.ntmps44
    go_wp2_with (at_builtin; refine wpList_append_own _ rfl _ _ 22 rfl B 30 i0 (.agg #[.int .i64 0, .int .i64 0]) 2 16 Try.underlying22 hi hz0 hz1 hz2 rfl (by decide) _ _ _ rfl (hown.alloc _) ⟨w.heap.size, 0, none⟩ 1 1 [.int .i64 t, .int .i64 x] rfl rfl (news_at _ _ _ _ _ rfl) (news_one _ _) ?c3 ?c4 ?c5 ?_)
    case c3 => unfold maxLen; omega
    case c4 => omega
    case c5 => simp; omega
    intro v' w1 hown' hgrow _
    have R := own_app1 (l := []) hB HO.out (Below.refl _ _) hown' hgrow
    clear hown hown' hgrow
    go_wp2
    go_ret
    exact ⟨_, rfl, by rw [HP.out]; exact R.1, R.2⟩

theorem lastV_get : ∀ (l : List St) (w : Int) (h : 0 < l.length), lastV w l = (l[l.length - 1]'(by omega)).2
  | [s], _, _ => rfl
  | s :: u :: l, w, _ => by
    have := lastV_get (u :: l) s.2 (by simp)
    show lastV s.2 (u :: l) = _
    rw [this]; rfl

set_option maxHeartbeats 4000000 in
set_option maxRecDepth 1000000 in
theorem put_some (B g c : Nat) (l : List St) (n : Nat) (hn : l.length = n + 1) (t x : Int) (w : World) (hB : B ≤ w.heap.size) (hl : n ≤ 2000000) (hown : w.ownsRow B 30 2 (.slice (some ⟨g, 0, none⟩) l.length c) l.length (stV l)) :
    Calls Try.prog 44 #[.slice (some ⟨g, 0, none⟩) l.length c, .int .i64 t, .int .i64 x] w (GivesOwn B w (putL l t x)) := by
  obtain ⟨i0, hi, hz0, hz1, hz2⟩ := info_parts info_step
  have HO := Lib.hid hown
  obtain ⟨p, c', hv, _, _, h4⟩ := Rd.own hown
  obtain ⟨b, o, hp, hat⟩ := h4 (by intro h; rw [h] at hn; simp at hn)
  simp only [Value.slice.injEq] at hv
  obtain ⟨rfl, _, _⟩ := hv
  simp only [Option.some.injEq, Addr.mk.injEq, and_true] at hp
  obtain ⟨rfl, rfl⟩ := hp
  have h1 := (hat.2 n (by omega)).2
  have hlv := lastV_get l 0 (by omega)
  simp only [hn, Nat.add_sub_cancel] at hlv
  rw [← hlv] at h1
  obtain ⟨y, hy⟩ : ∃ y, lastV 0 l = y := ⟨_, rfl⟩
  rw [hy] at h1
  have HY := Lib.hid hy
  have hw1 : IntKind.i64.wrap ((l.length : Int) - 1) = (n : Int) := by rw [IntKind.wrap_i64]; omega
  have hw2 : (l.length : Int) - 1 = (n : Int) := by omega
  have hlen : n < l.length := by omega
  have hlen2 : l.length ≤ 2000001 := by omega
  have h0 : 0 < l.length := by omega
  simp only [Nat.zero_add] at h1
  clear hlv hy hat h4 hn
  by_cases hx : x = y
  · have hp : putL l t x = l := by unfold putL; rw [HY.out, if_pos hx]
    have hx' : (x == y) = true := by simpa using hx
    have HP := Lib.hid hp
    clear hx hp hown
    go_enter Try.func44, Try.ntmps44
    go_wp2
    go_ret
    exact ⟨_, rfl, by rw [HP.out]; exact HO.out, Below.refl _ _⟩
  · have hp : putL l t x = l ++ [(t, x)] := by unfold putL; rw [HY.out, if_neg hx]
    have hx' : (x == y) = false := by simpa using hx
    have HP := Lib.hid hp
    clear hx hp
    go_enter Try.func44, Try.ntmps44
    go_wp2_with (at_builtin; refine wpList_append_own _ rfl _ _ 22 rfl B 30 i0 (.agg #[.int .i64 0, .int .i64 0]) 2 16 Try.underlying22 hi hz0 hz1 hz2 rfl (by decide) _ _ _ rfl (hown.alloc _) ⟨w.heap.size, 0, none⟩ 1 1 [.int .i64 t, .int .i64 x] rfl rfl (news_at _ _ _ _ _ rfl) (news_one _ _) ?c3 ?c4 ?c5 ?_)
    case c3 => unfold maxLen; omega
    case c4 => omega
    case c5 => simp; omega
    intro v' w1 hown' hgrow _
    have R := own_app1 (l := l) hB HO.out (Below.refl _ _) hown' hgrow
    clear hown hown' hgrow
    go_wp2
    go_ret
    exact ⟨_, rfl, by rw [HP.out]; exact R.1, R.2⟩
theorem put_any (B : Nat) (v : Value) (l : List St) (t x : Int) (w : World) (hB : B ≤ w.heap.size) (hl : l.length ≤ 2000000) (hown : w.ownsRow B 30 2 v l.length (stV l)) :
    Calls Try.prog 44 #[v, .int .i64 t, .int .i64 x] w (GivesOwn B w (putL l t x)) := by
  by_cases e : l = []
  · subst e
    rcases hown.2 with ⟨rfl, h0⟩ | ⟨g, cap, cur, rfl, hb, hg, hn, hm, hs, hx⟩
    · exact put_nil B none 0 t x w hB hown
    · exact put_nil B _ cap t x w hB hown
  · have hpos := List.length_pos_iff.2 e
    rcases hown.2 with ⟨rfl, h0⟩ | ⟨g, cap, cur, rfl, hb, hg, hn, hm, hs, hx⟩
    · omega
    · exact put_some B g cap l (l.length - 1) (by omega) t x w hB (by omega) hown
end Go.Proofs.Ytapfinnbfnhdbab
