/-
  What slices.Equal returns for two series, and what the law's function normal returns.
-/
import Derived.Test.YtapfinnbfnhdbabSerX
import Derived.Laws.StructEq
import Derived.Tactics2
namespace Go.Proofs.Ytapfinnbfnhdbab
open Go.RowKit
open Ser
set_option linter.unusedVariables false

theorem eq_step (a b c d : Int) (w : World) : (Op.equalIn 10000 30 (.agg #[.int .i64 a, .int .i64 b]) (.agg #[.int .i64 c, .int .i64 d])).run Try.prog w = .ok (a == c && b == d) w := by
  have u3 := Try.underlying3
  have hS : Try.prog.underlying 30 = some (.struct (Try.prog.fieldsOf 30)) := by kernel_rfl
  have hp : Try.prog.stoodInHeld 30 = false := by kernel_rfl
  rw [show (10000 : Nat) = 9999 + 1 from rfl, run_equalIn_agg w 9999 30 _ _ hS hp]
  simp only [Program.fieldsOf, Try.underlying30]
  go_simp
  by_cases h1 : a = c <;> by_cases h2 : b = d <;> simp [h1, h2]
theorem guard_step (op : BinOp) (x y : Operand) (a b : Array Value) (w : World) : (eqGuard op 30 x y (.agg a) (.agg b)).run Try.prog w = .ok () w := by
  have h : Try.prog.eqGuardType Try.prog.depth 30 = false := by kernel_rfl
  unfold eqGuard
  cases op <;> simp [h] <;> rfl

theorem list_ne {l m : List St} (k : Nat) (h1 : k < l.length) (h2 : k < m.length) (h : l[k] ≠ m[k]) : decide (l = m) = false := by
  refine decide_eq_false fun e => h ?_
  subst e; rfl
set_option maxHeartbeats 4000000 in
set_option maxRecDepth 1000000 in
theorem equal_some (b o c b' o' c' : Nat) (l m : List St) (w : World) (hl : l.length ≤ 2000000) (hlm : l.length = m.length) (hA : At w b o l) (hB : At w b' o' m) :
    Calls Try.prog 17 #[.slice (some ⟨b, o, none⟩) l.length c, .slice (some ⟨b', o', none⟩) m.length c'] w fun e w' => e = .returned (.bool (decide (l = m))) ∧ ∃ q, w' = w.drewN q := by
  have hq := eq_step
  have hg := guard_step
  have HA := Lib.hid hA
  have HB := Lib.hid hB
  rw [← hlm]
  have HL := Lib.hid hlm
  clear hA hB hlm
  go_enter Try.func17, Try.ntmps17
  go_wp2_with fail
  go_loopw [13] (fun i wr => ∃ k q : Nat, k ≤ l.length ∧ i = .int .i64 k ∧ wr = w.drewN q ∧ Hid (∀ j (h1 : j < l.length) (h2 : j < m.length), j < k → (l[j]'h1) = (m[j]'h2))) (fun i _ => l.length - (intOf i).toNat)
  case atStart => exact ⟨0, 0, Nat.zero_le _, rfl, rfl, Lib.hid (fun j _ _ h => by omega)⟩
  case round =>
    obtain ⟨k, q, hk, rfl, rfl, HI⟩ := hrel
    by_cases hlt : k < l.length
    · obtain ⟨g1, g2⟩ := HA.out.2 k hlt
      obtain ⟨g3, g4⟩ := HB.out.2 k (by rw [← HL.out]; exact hlt)
      have hlt2 : k < m.length := by rw [← HL.out]; exact hlt
      obtain ⟨x1, e1⟩ : ∃ x, l[k].1 = x := ⟨_, rfl⟩
      obtain ⟨x2, e2⟩ : ∃ x, l[k].2 = x := ⟨_, rfl⟩
      obtain ⟨y1, e3⟩ : ∃ x, m[k].1 = x := ⟨_, rfl⟩
      obtain ⟨y2, e4⟩ : ∃ x, m[k].2 = x := ⟨_, rfl⟩
      rw [e1] at g1
      rw [e2] at g2
      rw [e3] at g3
      rw [e4] at g4
      have EL : Hid (l[k] = (x1, x2)) := Lib.hid (Prod.ext e1 e2)
      have EM : Hid (m[k] = (y1, y2)) := Lib.hid (Prod.ext e3 e4)
      have g1' : (w.drewN q).cell? ⟨b, o + k * 2, none⟩ = some (.int .i64 x1) := g1
      have g2' : (w.drewN q).cell? ⟨b, o + k * 2 + 1, none⟩ = some (.int .i64 x2) := g2
      have g3' : (w.drewN q).cell? ⟨b', o' + k * 2, none⟩ = some (.int .i64 y1) := g3
      have g4' : (w.drewN q).cell? ⟨b', o' + k * 2 + 1, none⟩ = some (.int .i64 y2) := g4
      clear e1 e2 e3 e4 g1 g2 g3 g4
      obtain ⟨W, hW⟩ : ∃ W, w.drewN q = W := ⟨_, rfl⟩
      rw [hW] at g1' g2' g3' g4' ⊢
      have HW := Lib.hid hW
      clear hW
      by_cases c1 : x1 = y1
      · by_cases c2 : x2 = y2
        · subst c1 c2
          have HI2 : Hid (∀ j (h1 : j < l.length) (h2 : j < m.length), j < k + 1 → (l[j]'h1) = (m[j]'h2)) := Lib.hid fun j h1 h2 h => by
            by_cases c : j < k
            · exact HI.out j h1 h2 c
            · obtain rfl : j = k := by omega
              rw [EL.out, EM.out]
          go_wp2_with fail
          go_quiet (fail)
          go_wp2_with fail
          go_roundw
          case rel => exact ⟨k + 1, q + nq, by omega, by go_num, by rw [← HW.out, World.drewN_drewN], HI2⟩
          case measure => simp [intOf]; omega
        · have c2' : (x2 == y2) = false := by simpa using c2
          have HN := Lib.hid (list_ne k hlt hlt2 (by rw [EL.out, EM.out]; intro h; exact c2 (Prod.mk.inj h).2))
          subst c1
          clear c2
          go_wp2_with fail
          go_quiet (fail)
          go_wp2_with fail
          go_ret
          exact ⟨ret_bool HN.out.symm, q + nq, by rw [← HW.out, World.drewN_drewN]⟩
      · have c1' : (x1 == y1) = false := by simpa using c1
        have HN := Lib.hid (list_ne k hlt hlt2 (by rw [EL.out, EM.out]; intro h; exact c1 (Prod.mk.inj h).1))
        clear c1
        go_wp2_with fail
        go_quiet (fail)
        go_wp2_with fail
        go_ret
        exact ⟨ret_bool HN.out.symm, q + nq, by rw [← HW.out, World.drewN_drewN]⟩
    · have e : decide (l = m) = true := decide_eq_true (List.ext_getElem HL.out fun j h1 h2 => HI.out j h1 h2 (by omega))
      have HE := Lib.hid e
      clear e
      go_wp2_with fail
      go_ret
      exact ⟨ret_bool HE.out.symm, q, rfl⟩
set_option maxHeartbeats 400000 in
theorem equal_nil (p p' : Option Addr) (c c' : Nat) (w : World) : Calls Try.prog 17 #[.slice p 0 c, .slice p' 0 c'] w fun e w' => e = .returned (.bool true) ∧ ∃ q, w' = w.drewN q := by
  go_enter Try.func17, Try.ntmps17
  go_wp2
  refine wp_loop_rounds 1 ?_
  rw [rounds_succ]
  go_wp2
  go_ret
  exact ⟨rfl, 0, rfl⟩
set_option maxHeartbeats 400000 in
theorem equal_len (p p' : Option Addr) (n n' c c' : Nat) (w : World) (h : n ≠ n') : Calls Try.prog 17 #[.slice p n c, .slice p' n' c'] w fun e w' => e = .returned (.bool false) ∧ ∃ q, w' = w.drewN q := by
  have h' : ((n : Int) == (n' : Int)) = false := by simp; omega
  have h2 : (n == n') = false := by simpa using h
  clear h
  go_enter Try.func17, Try.ntmps17
  go_wp2
  go_ret
  exact ⟨rfl, 0, rfl⟩
theorem equal_any (v v' : Value) (l m : List St) (w : World) (hl : l.length ≤ 2000000) (h1 : Rd w v l) (h2 : Rd w v' m) :
    Calls Try.prog 17 #[v, v'] w fun e w' => e = .returned (.bool (decide (l = m))) ∧ Below w.heap.size w w' := by
  obtain ⟨p, c, rfl, _, _, hp⟩ := h1
  obtain ⟨p', c', rfl, _, _, hp'⟩ := h2
  by_cases e : l.length = m.length
  · by_cases en : l = []
    · subst en
      have : m = [] := List.length_eq_zero_iff.1 e.symm
      subst this
      exact (equal_nil p p' c c' w).mono fun _ _ ⟨he, q, hw⟩ => ⟨he, hw ▸ (dNb (Below.refl _ _) q)⟩
    · have em : m ≠ [] := fun h => en (List.length_eq_zero_iff.1 (by rw [e, h]; rfl))
      obtain ⟨b, o, rfl, ha⟩ := hp en
      obtain ⟨b', o', rfl, hb⟩ := hp' em
      exact (equal_some b o c b' o' c' l m w hl e ha hb).mono fun _ _ ⟨he, q, hw⟩ => ⟨he, hw ▸ (dNb (Below.refl _ _) q)⟩
  · have hd : decide (l = m) = false := decide_eq_false fun h => e (by rw [h])
    rw [hd]
    exact (equal_len p p' l.length m.length c c' w e).mono fun _ _ ⟨he, q, hw⟩ => ⟨he, hw ▸ (dNb (Below.refl _ _) q)⟩

/-- Is a series normal and valid. -/
def nrmB (w0 : Int) : List St → Bool
  | [] => true
  | s :: l => !(s.2 == w0) && nrmB s.2 l
theorem nrmB_iff : ∀ (l : List St) (w : Int), nrmB w l = true ↔ Nrm w l
  | [], _ => by simp [nrmB, Nrm]
  | s :: l, w => by unfold nrmB Nrm; simp [nrmB_iff l s.2]
theorem nrmB_drop (l : List St) (w : Int) (k : Nat) (h : k < l.length) : nrmB w (l.drop k) = (!(l[k].2 == w) && nrmB l[k].2 (l.drop (k + 1))) := by
  rw [List.drop_eq_getElem_cons h]; rfl
def normB (l : List St) : Bool := nrmB 0 l && (validE l == 0)
set_option maxHeartbeats 4000000 in
set_option maxRecDepth 1000000 in
theorem normalL_some (b o c : Nat) (l : List St) (w : World) (hl : l.length ≤ 2000000) (hA : At w b o l) (hR : Rd w (.slice (some ⟨b, o, none⟩) l.length c) l) :
    Calls Try.prog 29 #[.slice (some ⟨b, o, none⟩) l.length c] w fun e w' => e = .returned (.bool (normB l)) ∧ Below w.heap.size w w' := by
  have HA := Lib.hid hA
  have V := Lib.hid (valid_any _ l w hl hR)
  clear hA hR
  go_enter Try.func29, Try.ntmps29
  go_wp2_with fail
  go_loop [3, 7] (fun v i => ∃ (k : Nat) (x : Int), k ≤ l.length ∧ i = .int .i64 k ∧ v = .int .i64 x ∧ Hid (nrmB x (l.drop k) = nrmB 0 l)) (fun _ i => l.length - (intOf i).toNat)
  case atStart => exact ⟨0, 0, Nat.zero_le _, rfl, rfl, Lib.hid rfl⟩
  case round =>
    obtain ⟨k, x, hk, rfl, rfl, HI⟩ := hrel
    by_cases hlt : k < l.length
    · obtain ⟨_, g2⟩ := HA.out.2 k hlt
      have hd := nrmB_drop l x k hlt
      rw [HI.out] at hd
      obtain ⟨x2, e2⟩ : ∃ x, l[k].2 = x := ⟨_, rfl⟩
      rw [e2] at g2 hd
      clear e2
      by_cases c : x2 = x
      · have c' : (x2 == x) = true := by simpa using c
        have HN := Lib.hid (show normB l = false by unfold normB; rw [hd, c']; rfl)
        clear c hd
        go_wp2_with fail
        go_ret
        exact ⟨ret_bool HN.out.symm, Below.refl _ _⟩
      · have c' : (x2 == x) = false := by simpa using c
        have HN := Lib.hid (show nrmB x2 (l.drop (k + 1)) = nrmB 0 l by rw [hd, c']; simp)
        clear c hd
        go_wp2_with fail
        go_round
        case rel => exact ⟨k + 1, x2, by omega, by go_num, rfl, HN⟩
        case measure => simp [intOf]; omega
    · have e : nrmB 0 l = true := by rw [← HI.out, List.drop_eq_nil_of_le (by omega)]; rfl
      have HN := Lib.hid (show normB l = (validE l == 0) by unfold normB; rw [e]; rfl)
      clear e
      go_wp2_with fail
      refine V.out.mono ?_
      rintro e w1 ⟨rfl, h1⟩
      go_wp2_with fail
      go_ret
      exact ⟨ret_bool HN.out.symm, h1⟩
set_option maxHeartbeats 400000 in
theorem normalL_nil (p : Option Addr) (c : Nat) (w : World) (hR : Rd w (.slice p 0 c) []) : Calls Try.prog 29 #[.slice p 0 c] w fun e w' => e = .returned (.bool (normB [])) ∧ Below w.heap.size w w' := by
  have V := Lib.hid (valid_any _ [] w (Nat.zero_le _) hR)
  have HN := Lib.hid (show normB [] = (validE [] == 0) from rfl)
  clear hR
  go_enter Try.func29, Try.ntmps29
  go_wp2
  refine wp_loop_rounds 1 ?_
  rw [rounds_succ]
  go_wp2_with fail
  refine V.out.mono ?_
  rintro e w1 ⟨rfl, h1⟩
  go_wp2_with fail
  go_ret
  exact ⟨ret_bool HN.out.symm, h1⟩
theorem normalL_any (v : Value) (l : List St) (w : World) (hl : l.length ≤ 2000000) (hR : Rd w v l) : Calls Try.prog 29 #[v] w fun e w' => e = .returned (.bool (normB l)) ∧ Below w.heap.size w w' := by
  have hR' := hR
  obtain ⟨p, c, rfl, h2, h3, h4⟩ := hR
  by_cases en : l = []
  · subst en; exact normalL_nil p c w hR'
  · obtain ⟨b, o, rfl, ha⟩ := h4 en; exact normalL_some b o c l w hl ha hR'
end Go.Proofs.Ytapfinnbfnhdbab
