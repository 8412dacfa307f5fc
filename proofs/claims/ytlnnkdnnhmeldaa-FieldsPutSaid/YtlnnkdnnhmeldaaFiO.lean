/-
  Lists and records compared.
-/
import Derived.Test.YtlnnkdnnhmeldaaFiN
namespace Go.Proofs.Ytlnnkdnnhmeldaa
open Go.RowKit
open IntWalk
set_option linter.unusedVariables false

theorem equal_run (u v : Value) (l m : List UInt8) (w : World) (h1 : RdB w u l) (h2 : RdB w v m) :
    Calls Try.prog 14 #[u, v] w fun e w' => e = .returned (.bool (decide (l = m))) ∧ w = w' := by
  have c1 := str_of w u l h1
  have c2 := str_of w v m h2
  clear h1 h2
  by_cases h : l = m
  · subst h
    rw [decide_eq_true rfl]
    go_enter Try.func14, Try.ntmps14
    go_wp2
    go_ret
    exact ⟨rfl, rfl⟩
  · rw [decide_eq_false h]
    have hz : (l == m) = false := by simpa using h
    clear h
    go_enter Try.func14, Try.ntmps14
    go_wp2
    go_ret
    exact ⟨rfl, rfl⟩
set_option maxHeartbeats 2000000 in
set_option maxRecDepth 10000 in
theorem sameLists_len (p q : Option Addr) (c d m n : Nat) (w : World) (h : m ≠ n) :
    Calls Try.prog 31 #[.slice p m c, .slice q n d] w fun e w' => e = .returned (.bool false) ∧ ∃ k, w' = w.drewN k := by
  have hz : ((m : Int) != (n : Int)) = true := by rw [bne_iff_ne]; omega
  have hz2 : ((m : Int) == (n : Int)) = false := by rw [beq_eq_false_iff_ne]; omega
  go_enter Try.func31, Try.ntmps31
  go_wp2
  go_ret
  exact ⟨rfl, 0, rfl⟩
set_option maxHeartbeats 1000000 in
theorem sameLists_none (p q : Option Addr) (c d : Nat) (w : World) :
    Calls Try.prog 31 #[.slice p 0 c, .slice q 0 d] w fun e w' => e = .returned (.bool true) ∧ ∃ k, w' = w.drewN k := by
  go_enter Try.func31, Try.ntmps31
  go_wp2
  refine wp_loop_rounds 1 ?_
  rw [rounds_succ]
  go_wp2
  go_ret
  exact ⟨rfl, 0, rfl⟩
set_option maxHeartbeats 2000000 in
set_option maxRecDepth 10000 in
theorem sameLists_some (b1 o1 c1 b2 o2 c2 n : Nat) (ls ms : List (List UInt8)) (vs us : List Value) (w : World) (hn : n ≤ 2000000) (hl : ls.length = n) (hm : ms.length = n) (hv : vs.length = n) (hu : us.length = n)
    (r1 : ∀ i (h : i < vs.length) (hzz : i < ls.length), RdB w (vs[i]'h) (ls[i]'hzz)) (r2 : ∀ i (h : i < us.length) (hzz : i < ms.length), RdB w (us[i]'h) (ms[i]'hzz))
    (k1 : ∀ i (h : i < vs.length), w.cell? ⟨b1, o1 + i, none⟩ = some (vs[i]'h)) (k2 : ∀ i (h : i < us.length), w.cell? ⟨b2, o2 + i, none⟩ = some (us[i]'h)) :
    Calls Try.prog 31 #[.slice (some ⟨b1, o1, none⟩) n c1, .slice (some ⟨b2, o2, none⟩) n c2] w fun e w' => e = .returned (.bool (decide (ls = ms))) ∧ ∃ k, w' = w.drewN k := by
  have R1 := Lib.hid r1
  have R2 := Lib.hid r2
  have K1 := Lib.hid k1
  have K2 := Lib.hid k2
  have HL := Lib.hid (And.intro hl (And.intro hm (And.intro hv hu)))
  clear r1 r2 k1 k2 hl hm hv hu
  go_enter Try.func31, Try.ntmps31
  go_wp2
  go_loopw [13] (fun i wr => ∃ k q : Nat, k ≤ n ∧ i = .int .i64 k ∧ wr = w.drewN q ∧ Hid (∀ j (h : j < ls.length) (hzz : j < ms.length), j < k → ls[j] = ms[j])) (fun i _ => n - (intOf i).toNat)
  case atStart => exact ⟨0, 0, Nat.zero_le _, rfl, rfl, Lib.hid (fun j _ _ h => absurd h (by omega))⟩
  case round =>
    obtain ⟨k, q, hk, rfl, rfl, HP⟩ := hrel
    by_cases hlt : k < n
    · have e1 := K1.out k (by rw [HL.out.2.2.1]; exact hlt)
      have e2 := K2.out k (by rw [HL.out.2.2.2]; exact hlt)
      have a1 := R1.out k (by rw [HL.out.2.2.1]; exact hlt) (by rw [HL.out.1]; exact hlt)
      have a2 := R2.out k (by rw [HL.out.2.2.2]; exact hlt) (by rw [HL.out.2.1]; exact hlt)
      obtain ⟨V, hV⟩ : ∃ V, V = vs[k]'(by rw [HL.out.2.2.1]; exact hlt) := ⟨_, rfl⟩
      obtain ⟨U, hU⟩ : ∃ U, U = us[k]'(by rw [HL.out.2.2.2]; exact hlt) := ⟨_, rfl⟩
      obtain ⟨X, hX⟩ : ∃ X, X = ls[k]'(by rw [HL.out.1]; exact hlt) := ⟨_, rfl⟩
      obtain ⟨Y, hY⟩ : ∃ Y, Y = ms[k]'(by rw [HL.out.2.1]; exact hlt) := ⟨_, rfl⟩
      rw [← hV] at e1 a1
      rw [← hU] at e2 a2
      rw [← hX] at a1
      rw [← hY] at a2
      have CS := Lib.hid (fun j => equal_run V U X Y (w.drewN j) (a1.draws j) (a2.draws j))
      clear hV hU a1 a2
      by_cases hxy : X = Y
      · have HN : Hid (∀ j (h : j < ls.length) (hzz : j < ms.length), j < k + 1 → ls[j] = ms[j]) := Lib.hid (fun j h hzz hj => by
          by_cases e : j = k
          · subst e; rw [← hX, ← hY]; exact hxy
          · exact HP.out j h hzz (by omega))
        rw [decide_eq_true hxy] at CS
        clear hX hY hxy
        go_wp2
        go_quiet ((go_at_call 14; exact quiet_more (CS.out _)))
        go_wp2
        go_roundw
        case rel => exact ⟨k + 1, _, by omega, rfl, rfl, HN⟩
        case measure => simp [intOf]; omega
      · have HN : Hid (false = decide (ls = ms)) := Lib.hid (by
          symm; rw [decide_eq_false_iff_not]
          intro e
          subst e
          exact hxy (hX.trans hY.symm))
        rw [decide_eq_false hxy] at CS
        clear hX hY hxy
        go_wp2
        go_quiet ((go_at_call 14; exact quiet_more (CS.out _)))
        go_wp2
        go_ret
        exact ⟨bool_is HN.out, _, World.drewN_drewN _ _ _⟩
    · have HN : Hid (true = decide (ls = ms)) := Lib.hid (by
        symm; rw [decide_eq_true_iff]
        exact List.ext_getElem (by rw [HL.out.1, HL.out.2.1]) (fun j h hzz => HP.out j h hzz (by have := HL.out.1; omega)))
      go_wp2
      go_ret
      exact ⟨bool_is HN.out, _, rfl⟩
theorem sameLists_run (u v : Value) (ls ms : List (List UInt8)) (w : World) (hl : ls.length ≤ 2000000) (h1 : RdP w u ls) (h2 : RdP w v ms) :
    Calls Try.prog 31 #[u, v] w fun e w' => e = .returned (.bool (decide (ls = ms))) ∧ ∃ k, w' = w.drewN k := by
  obtain ⟨p, c, vs, rfl, _, _, hv, g1, g3⟩ := h1
  obtain ⟨q, d, us, rfl, _, _, hu, g2, g4⟩ := h2
  by_cases he : ls.length = ms.length
  · by_cases hn : ls = []
    · subst hn
      have hm0 : ms = [] := List.length_eq_zero_iff.1 he.symm
      subst hm0
      exact sameLists_none p q c d w
    · obtain ⟨b1, o1, rfl, _, a1⟩ := g3 hn
      obtain ⟨b2, o2, rfl, _, a2⟩ := g4 (fun e => hn (List.length_eq_zero_iff.1 (by rw [he, e]; rfl)))
      rw [← he]
      exact sameLists_some b1 o1 c b2 o2 d ls.length ls ms vs us w hl rfl he.symm hv (by rw [hu, he]) g1 g2 a1 a2
  · have e : decide (ls = ms) = false := by rw [decide_eq_false_iff_not]; intro e; exact he (by rw [e])
    rw [e]
    exact sameLists_len p q c d ls.length ms.length w he


theorem sameFields_len (p q : Option Addr) (c d m n : Nat) (w : World) (h : m ≠ n) :
    Calls Try.prog 24 #[.slice p m c, .slice q n d] w fun e w' => e = .returned (.bool false) ∧ ∃ k, w' = w.drewN k := by
  have hz : (((m : Nat) : Int) != (n : Nat)) = true := by rw [bne_iff_ne]; omega
  go_enter Try.func24, Try.ntmps24
  go_wp2
  go_ret
  exact ⟨rfl, 0, rfl⟩
theorem sameFields_none (p q : Option Addr) (c d : Nat) (w : World) :
    Calls Try.prog 24 #[.slice p 0 c, .slice q 0 d] w fun e w' => e = .returned (.bool true) ∧ ∃ k, w' = w.drewN k := by
  go_enter Try.func24, Try.ntmps24
  go_wp2
  refine wp_loop_rounds 1 ?_
  rw [rounds_succ]
  go_wp2
  go_ret
  exact ⟨rfl, 0, rfl⟩
set_option maxHeartbeats 4000000 in
set_option maxRecDepth 10000 in
theorem sameFields_some (b1 o1 c1 b2 o2 c2 n : Nat) (ls ms : List Fd) (vs us : List (Int × Value)) (w : World) (hn : n ≤ 2000000) (hl : ls.length = n) (hm : ms.length = n) (hv : vs.length = n) (hu : us.length = n)
    (r1 : ∀ i (h : i < vs.length) (hzz : i < ls.length), (vs[i]'h).1 = (ls[i]'hzz).1 ∧ RdB w (vs[i]'h).2 (ls[i]'hzz).2) (r2 : ∀ i (h : i < us.length) (hzz : i < ms.length), (us[i]'h).1 = (ms[i]'hzz).1 ∧ RdB w (us[i]'h).2 (ms[i]'hzz).2)
    (k1 : ∀ i (h : i < vs.length), w.cell? ⟨b1, o1 + i * 2, none⟩ = some (.int .i64 (vs[i]'h).1) ∧ w.cell? ⟨b1, o1 + i * 2 + 1, none⟩ = some (vs[i]'h).2) (k2 : ∀ i (h : i < us.length), w.cell? ⟨b2, o2 + i * 2, none⟩ = some (.int .i64 (us[i]'h).1) ∧ w.cell? ⟨b2, o2 + i * 2 + 1, none⟩ = some (us[i]'h).2) :
    Calls Try.prog 24 #[.slice (some ⟨b1, o1, none⟩) n c1, .slice (some ⟨b2, o2, none⟩) n c2] w fun e w' => e = .returned (.bool (decide (ls = ms))) ∧ ∃ k, w' = w.drewN k := by
  have R1 := Lib.hid r1
  have R2 := Lib.hid r2
  have K1 := Lib.hid k1
  have K2 := Lib.hid k2
  have HL := Lib.hid (And.intro hl (And.intro hm (And.intro hv hu)))
  clear r1 r2 k1 k2 hl hm hv hu
  go_enter Try.func24, Try.ntmps24
  go_wp2
  go_loopw [13] (fun i wr => ∃ k q : Nat, k ≤ n ∧ i = .int .i64 k ∧ wr = w.drewN q ∧ Hid (∀ j (h : j < ls.length) (hzz : j < ms.length), j < k → ls[j] = ms[j])) (fun i _ => n - (intOf i).toNat)
  case atStart => exact ⟨0, 0, Nat.zero_le _, rfl, rfl, Lib.hid (fun j _ _ h => absurd h (by omega))⟩
  case round =>
    obtain ⟨k, q, hk, rfl, rfl, HP⟩ := hrel
    by_cases hlt : k < n
    · have e1 := K1.out k (by rw [HL.out.2.2.1]; exact hlt)
      have e2 := K2.out k (by rw [HL.out.2.2.2]; exact hlt)
      have a1 := R1.out k (by rw [HL.out.2.2.1]; exact hlt) (by rw [HL.out.1]; exact hlt)
      have a2 := R2.out k (by rw [HL.out.2.2.2]; exact hlt) (by rw [HL.out.2.1]; exact hlt)
      obtain ⟨V, hV⟩ : ∃ V, V = (vs[k]'(by rw [HL.out.2.2.1]; exact hlt)).2 := ⟨_, rfl⟩
      obtain ⟨U, hU⟩ : ∃ U, U = (us[k]'(by rw [HL.out.2.2.2]; exact hlt)).2 := ⟨_, rfl⟩
      obtain ⟨X, hX⟩ : ∃ X, X = ls[k]'(by rw [HL.out.1]; exact hlt) := ⟨_, rfl⟩
      obtain ⟨Y, hY⟩ : ∃ Y, Y = ms[k]'(by rw [HL.out.2.1]; exact hlt) := ⟨_, rfl⟩
      rw [a1.1] at e1
      rw [a2.1] at e2
      rw [← hX] at a1 e1
      rw [← hY] at a2 e2
      rw [← hV] at e1 a1
      rw [← hU] at e2 a2
      obtain ⟨e3, e4⟩ := e1
      obtain ⟨e5, e6⟩ := e2
      obtain ⟨x, xd⟩ := X
      obtain ⟨y, yd⟩ := Y
      dsimp only at e3 e5 a1 a2
      have CS := Lib.hid (fun j => equal_run V U xd yd (w.drewN j) (a1.2.draws j) (a2.2.draws j))
      clear hV hU a1 a2
      by_cases hxy : x = y
      · subst hxy
        have hxx : (x != x) = false := by simp
        by_cases hd : xd = yd
        · have HN : Hid (∀ j (h : j < ls.length) (hzz : j < ms.length), j < k + 1 → ls[j] = ms[j]) := Lib.hid (fun j h hzz hj => by
            by_cases e : j = k
            · subst e; rw [← hX, ← hY, hd]
            · exact HP.out j h hzz (by omega))
          rw [decide_eq_true hd] at CS
          clear hX hY hd
          go_wp2
          go_quiet ((go_at_call 14; exact quiet_more (CS.out _)))
          go_wp2
          go_roundw
          case rel => exact ⟨k + 1, _, by omega, rfl, rfl, HN⟩
          case measure => simp [intOf]; omega
        · have HN : Hid (false = decide (ls = ms)) := Lib.hid (by
            symm; rw [decide_eq_false_iff_not]
            intro e
            subst e
            rw [← hY] at hX
            injection hX with _ hX
            exact hd hX)
          rw [decide_eq_false hd] at CS
          clear hX hY hd
          go_wp2
          go_quiet ((go_at_call 14; exact quiet_more (CS.out _)))
          go_wp2
          go_ret
          exact ⟨bool_is HN.out, _, World.drewN_drewN _ _ _⟩
      · have HN : Hid (false = decide (ls = ms)) := Lib.hid (by
          symm; rw [decide_eq_false_iff_not]
          intro e
          subst e
          rw [← hY] at hX
          injection hX with hX _
          exact hxy hX)
        have hxx : (x != y) = true := by simpa using hxy
        clear hX hY hxy CS
        go_wp2
        go_quiet (fail)
        go_wp2
        go_ret
        exact ⟨bool_is HN.out, _, World.drewN_drewN _ _ _⟩
    · have HN : Hid (true = decide (ls = ms)) := Lib.hid (by
        symm; rw [decide_eq_true_iff]
        exact List.ext_getElem (by rw [HL.out.1, HL.out.2.1]) (fun j h hzz => HP.out j h hzz (by have := HL.out.1; omega)))
      go_wp2
      go_ret
      exact ⟨bool_is HN.out, _, rfl⟩
theorem sameFields_run (u v : Value) (ls ms : List Fd) (w : World) (hl : ls.length ≤ 2000000) (h1 : RdF w u ls) (h2 : RdF w v ms) :
    Calls Try.prog 24 #[u, v] w fun e w' => e = .returned (.bool (decide (ls = ms))) ∧ ∃ k, w' = w.drewN k := by
  obtain ⟨p, c, vs, rfl, _, _, hv, g1, g3⟩ := h1
  obtain ⟨q, d, us, rfl, _, _, hu, g2, g4⟩ := h2
  by_cases he : ls.length = ms.length
  · by_cases hn : ls = []
    · subst hn
      have hm0 : ms = [] := List.length_eq_zero_iff.1 he.symm
      subst hm0
      exact sameFields_none p q c d w
    · obtain ⟨b1, o1, rfl, _, a1⟩ := g3 hn
      obtain ⟨b2, o2, rfl, _, a2⟩ := g4 (fun e => hn (List.length_eq_zero_iff.1 (by rw [he, e]; rfl)))
      rw [← he]
      exact sameFields_some b1 o1 c b2 o2 d ls.length ls ms vs us w hl rfl he.symm hv (by rw [hu, he]) g1 g2 a1 a2
  · have e : decide (ls = ms) = false := by rw [decide_eq_false_iff_not]; intro e; exact he (by rw [e])
    rw [e]
    exact sameFields_len p q c d ls.length ms.length w he
end Go.Proofs.Ytlnnkdnnhmeldaa
