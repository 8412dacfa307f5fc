/-
  Are two lists of integers the same?
-/
import Derived.Test.YtjjhdbodjcffaaaDoorMonP
namespace Go.Proofs.YtjjhdbodjcffaaaDoor
open Go.RowKit
open IntWalk

set_option maxHeartbeats 1000000 in
set_option maxRecDepth 10000 in
theorem same_len (p q : Option Addr) (c d : Nat) (m n : Nat) (w : World) (h : m ≠ n) :
    Calls Tryd.prog 20 #[.slice p m c, .slice q n d] w fun e w' => e = .returned (.bool false) ∧ ∃ k, w' = w.drewN k := by
  have hz : ((m : Int) != (n : Int)) = true := by rw [bne_iff_ne]; omega
  go_enter Tryd.func20, Tryd.ntmps20
  go_wp2
  go_ret
  exact ⟨rfl, 0, rfl⟩
set_option maxHeartbeats 1000000 in
set_option maxRecDepth 10000 in
theorem same_none (p q : Option Addr) (c d : Nat) (w : World) :
    Calls Tryd.prog 20 #[.slice p 0 c, .slice q 0 d] w fun e w' => e = .returned (.bool true) ∧ ∃ k, w' = w.drewN k := by
  go_enter Tryd.func20, Tryd.ntmps20
  go_wp2
  refine wp_loop_rounds 1 ?_
  rw [rounds_succ]
  go_wp2
  go_ret
  exact ⟨rfl, 0, rfl⟩
set_option maxHeartbeats 1000000 in
set_option maxRecDepth 10000 in
theorem same_some (b1 o1 c1 b2 o2 c2 : Nat) (l m : List Int) (w : World) (hl : l.length ≤ 2000000) (hlm : m.length = l.length) (h1 : At1 w b1 o1 l) (h2 : At1 w b2 o2 m) :
    Calls Tryd.prog 20 #[.slice (some ⟨b1, o1, none⟩) l.length c1, .slice (some ⟨b2, o2, none⟩) l.length c2] w fun e w' => e = .returned (.bool (decide (l = m))) ∧ ∃ k, w' = w.drewN k := by
  have R1 := Lib.hid h1
  have R2 := Lib.hid h2
  have HL := Lib.hid hlm
  clear h1 h2 hlm
  go_enter Tryd.func20, Tryd.ntmps20
  go_wp2
  go_loopw [5] (fun i wr => ∃ k q : Nat, k ≤ l.length ∧ i = .int .i64 k ∧ wr = w.drewN q ∧ Hid (∀ j (h : j < l.length), j < k → l[j] = m[j]'(by have := HL.out; omega))) (fun i _ => l.length - (intOf i).toNat)
  case atStart => exact ⟨0, 0, Nat.zero_le _, rfl, rfl, Lib.hid (fun j _ h => absurd h (by omega))⟩
  case round =>
    obtain ⟨k, q, hk, rfl, rfl, HP⟩ := hrel
    by_cases hlt : k < l.length
    · have e1 : w.cell? ⟨b1, o1 + k, none⟩ = some (.int .i64 l[k]) := R1.out.2 k hlt
      have e2 : w.cell? ⟨b2, o2 + k, none⟩ = some (.int .i64 (m[k]'(by have := HL.out; omega))) := R2.out.2 k (by have := HL.out; omega)
      obtain ⟨x, hx⟩ : ∃ x, x = l[k] := ⟨_, rfl⟩
      obtain ⟨y, hy⟩ : ∃ y, y = m[k]'(by have := HL.out; omega) := ⟨_, rfl⟩
      rw [← hx] at e1
      rw [← hy] at e2
      by_cases hxy : x = y
      · have HN : Hid (∀ j (h : j < l.length), j < k + 1 → l[j] = m[j]'(by have := HL.out; omega)) := Lib.hid (fun j h hj => by
          by_cases e : j = k
          · subst e; rw [← hx, ← hy]; exact hxy
          · exact HP.out j h (by omega))
        clear hx hy
        subst hxy
        go_wp2
        go_quiet (fail)
        go_wp2
        go_roundw
        case rel => exact ⟨k + 1, _, by omega, rfl, rfl, HN⟩
        case measure => simp [intOf]; omega
      · have HN : Hid (false = decide (l = m)) := Lib.hid (by
          symm; rw [decide_eq_false_iff_not]
          intro e
          subst e
          exact hxy (hx.trans hy.symm))
        have hz : (x != y) = true := by rw [bne_iff_ne]; exact hxy
        clear hx hy
        go_wp2
        go_quiet (fail)
        go_wp2
        go_ret
        exact ⟨bool_is HN.out, _, World.drewN_drewN _ _ _⟩
    · have HN : Hid (true = decide (l = m)) := Lib.hid (by
        symm; rw [decide_eq_true_iff]
        exact List.ext_getElem HL.out.symm (fun j h h' => HP.out j h (by omega)))
      go_wp2
      go_ret
      exact ⟨bool_is HN.out, _, rfl⟩

theorem same_run (u v : Value) (l m : List Int) (w : World) (hl : l.length ≤ 2000000) (h1 : RdI w u l) (h2 : RdI w v m) :
    Calls Tryd.prog 20 #[u, v] w fun e w' => e = .returned (.bool (decide (l = m))) ∧ ∃ k, w' = w.drewN k := by
  obtain ⟨p, c, rfl, _, _, g1⟩ := h1
  obtain ⟨q, d, rfl, _, _, g2⟩ := h2
  by_cases he : l.length = m.length
  · by_cases hn : l = []
    · subst hn
      have hm0 : m = [] := List.length_eq_zero_iff.1 he.symm
      subst hm0
      exact same_none p q c d w
    · obtain ⟨b1, o1, rfl, a1⟩ := g1 hn
      obtain ⟨b2, o2, rfl, a2⟩ := g2 (fun e => hn (List.length_eq_zero_iff.1 (by rw [he, e]; rfl)))
      rw [← he]
      exact same_some b1 o1 c b2 o2 d l m w hl he.symm a1 a2
  · have e : decide (l = m) = false := by rw [decide_eq_false_iff_not]; intro e; exact he (by rw [e])
    rw [e]
    exact same_len p q c d l.length m.length w he
end Go.Proofs.YtjjhdbodjcffaaaDoor
