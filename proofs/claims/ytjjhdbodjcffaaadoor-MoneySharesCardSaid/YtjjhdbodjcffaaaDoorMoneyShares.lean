/-
  The law MoneyShares holds: for every input it returns true and leaves its arguments as they were, where the library's variables are as its text lays them.
-/
import Derived.Test.YtjjhdbodjcffaaaDoorMonAC
import Derived.Test.YtjjhdbodjcffaaaDoorMonAK
import Derived.Test.YtjjhdbodjcffaaaDoorMonAL
namespace Go.Proofs.YtjjhdbodjcffaaaDoor
namespace moneyShares
open Go.ChangeShapes Go.WideShapes Go.ChangeAt Go.RowKit Go.Deep
open Go.ChangeMaps (open_string shut_string)
open IntWalk
set_option linter.unusedVariables false

set_option maxHeartbeats 16000000 in
set_option maxRecDepth 1000000 in
theorem walk_out (a : Int) (v : Value) (l : List Int) (w : World) (hR : RdI w v l) (hI : ∀ x ∈ l, I64 x) (hT : Tabs w) (hq : 24 < l.length ∨ a < -1099511627776 ∨ 1099511627776 < a) :
    Calls Tryd.prog 8 #[.int .i64 a, v] w fun e w' => e = .returned (.bool true) ∧ Below w.heap.size w w' := by
  have HT := Lib.hid hT
  obtain ⟨p, c, rfl, hlc, hcm, hcell⟩ := hR
  have HC := Lib.hid hcell
  have B0 := Lib.hid (Below.refl w.heap.size w)
  clear hT hI hcell
  by_cases q1 : 24 < l.length
  · go_enter Tryd.func8, Tryd.ntmps8
    go_wp2_with fail
    refine (awake_run _ (HT.out.below B0.out)).mono ?_
    rintro e wx ⟨rfl, gx⟩
    go_wp2_with fail
    go_ret
    exact ⟨rfl, bt B0.out gx⟩
  by_cases q2 : a < -1099511627776
  · go_enter Tryd.func8, Tryd.ntmps8
    go_wp2_with fail
    refine (awake_run _ (HT.out.below B0.out)).mono ?_
    rintro e wx ⟨rfl, gx⟩
    go_wp2_with fail
    go_ret
    exact ⟨rfl, bt B0.out gx⟩
  by_cases q3 : 1099511627776 < a
  · go_enter Tryd.func8, Tryd.ntmps8
    go_wp2_with fail
    refine (awake_run _ (HT.out.below B0.out)).mono ?_
    rintro e wx ⟨rfl, gx⟩
    go_wp2_with fail
    go_ret
    exact ⟨rfl, bt B0.out gx⟩
  omega

set_option maxHeartbeats 16000000 in
set_option maxRecDepth 1000000 in
theorem walk_neg (a : Int) (v : Value) (l : List Int) (w : World) (hR : RdI w v l) (hI : ∀ x ∈ l, I64 x) (hT : Tabs w) (q1 : ¬ 24 < l.length) (q2 : ¬ a < -1099511627776) (q3 : ¬ 1099511627776 < a) (an : a < 0) :
    Calls Tryd.prog 8 #[.int .i64 a, v] w fun e w' => e = .returned (.bool true) ∧ Below w.heap.size w w' := by
  have HT := Lib.hid hT
  obtain ⟨p, c, rfl, hlc, hcm, hcell⟩ := hR
  have HC := Lib.hid hcell
  have B0 := Lib.hid (Below.refl w.heap.size w)
  clear hT hI hcell
  have a0 : -1099511627776 ≤ a := by omega
  have a1 : a ≤ 1099511627776 := by omega
  go_enter Tryd.func8, Tryd.ntmps8
  go_wp2_with fail
  go_loop [5, 6] (fun bb i => ∃ k : Nat, k ≤ l.length ∧ i = .int .i64 k ∧ bb = .bool (someB (l.take k)) ∧ Hid (∀ x ∈ l.take k, 0 ≤ x ∧ x ≤ 1099511627776)) (fun _ i => l.length - (intOf i).toNat)
  case atStart => exact ⟨0, Nat.zero_le _, rfl, rfl, Lib.hid (fun x hx => by simp at hx)⟩
  case round =>
    obtain ⟨k, hk, rfl, rfl, HW⟩ := hrel
    by_cases hlt : k < l.length
    · obtain ⟨b, o, hp, ha⟩ := HC.out (fun e => by rw [e] at hlt; exact absurd hlt (by simp))
      have hc := ha.2 k hlt
      obtain rfl : some ⟨b, o, none⟩ = p := hp.symm
      have HS := Lib.hid (someB_succ l k hlt)
      have HX := Lib.hid (show ∀ x, 0 ≤ x → x ≤ 1099511627776 → l[k] = x → ∀ y ∈ l.take (k + 1), 0 ≤ y ∧ y ≤ 1099511627776 from fun x x0 x1 e y hy => by
        rw [List.take_succ_eq_append_getElem hlt] at hy
        rcases List.mem_append.1 hy with h | h
        · exact HW.out y h
        · have : y = l[k] := by simpa using h
          omega)
      obtain ⟨x, hx⟩ : ∃ x, l[k] = x := ⟨_, rfl⟩
      have HE := Lib.hid hx
      rw [hx] at hc HS
      clear hx hp ha HW
      by_cases x0 : x < 0
      · go_wp2_with fail
        refine (awake_run _ (HT.out.below B0.out)).mono ?_
        rintro e wx ⟨rfl, gx⟩
        go_wp2_with fail
        go_ret
        exact ⟨rfl, bt B0.out gx⟩
      by_cases x1 : 1099511627776 < x
      · go_wp2_with fail
        refine (awake_run _ (HT.out.below B0.out)).mono ?_
        rintro e wx ⟨rfl, gx⟩
        go_wp2_with fail
        go_ret
        exact ⟨rfl, bt B0.out gx⟩
      obtain ⟨B, hB⟩ : ∃ B, someB (l.take k) = B := ⟨_, rfl⟩
      rw [hB] at HS ⊢
      clear hB
      cases B
      · obtain ⟨D, hD⟩ : ∃ D, decide (0 < x) = D := ⟨_, rfl⟩
        have HS2 : Hid (someB (l.take (k + 1)) = D) := Lib.hid (by rw [HS.out, hD]; rfl)
        clear HS
        go_wp2_with fail
        go_round
        case rel => exact ⟨k + 1, by omega, by go_num, by rw [HS2.out], Lib.hid (HX.out x (by omega) (by omega) HE.out)⟩
        case measure => simp [intOf]; omega
      · have HS2 : Hid (someB (l.take (k + 1)) = true) := Lib.hid (by rw [HS.out]; rfl)
        clear HS
        go_wp2_with fail
        go_round
        case rel => exact ⟨k + 1, by omega, by go_num, by rw [HS2.out], Lib.hid (HX.out x (by omega) (by omega) HE.out)⟩
        case measure => simp [intOf]; omega
    · obtain rfl : k = l.length := by omega
      rw [List.take_length] at HW
      rw [List.take_length]
      obtain ⟨B, hB⟩ : ∃ B, someB l = B := ⟨_, rfl⟩
      rw [hB]
      cases B
      · clear hB
        go_wp2_with fail
        refine (awake_run _ (HT.out.below B0.out)).mono ?_
        rintro e wx ⟨rfl, gx⟩
        go_wp2_with fail
        go_ret
        exact ⟨rfl, bt B0.out gx⟩
      · obtain ⟨s0, s1⟩ := some_pos l hB (fun x hx => (HW.out x hx).1)
        have V : Wts (ab a) l.sum l := ⟨by have := ab_cases a; omega, by have := ab_cases a; omega, s1, by omega, HW.out, rfl, s0⟩
        have HV := Lib.hid V
        obtain ⟨b, o, hp, ha⟩ := HC.out (fun e => by rw [e] at s1; exact absurd s1 (by decide))
        obtain rfl : some ⟨b, o, none⟩ = p := hp.symm
        have HA := Lib.hid ha
        have CS := Lib.hid (fun X hX => split_ok a l b o c l.length X a0 a1 V (by omega) rfl hX (sorts_any l.length s1 (by omega) _))
        have P1 := Lib.hid (fun i (hi : i < l.length) (hi' : i < (parts a l).length) => parts_one a l a0 a1 V i hi hi')
        have P2 := Lib.hid (fun i k (hi : i < l.length) (hk : k < l.length) (hi' : i < (parts a l).length) (hk' : k < (parts a l).length) => parts_two a l V i k hi hk hi' hk')
        have PS := Lib.hid (parts_sum a l a0 a1 V)
        have PL := parts_len a l
        obtain ⟨L, hL⟩ : ∃ L, L = parts a l := ⟨_, rfl⟩
        rw [← hL] at CS P1 P2 PS PL
        clear hp ha hB s0 V HW HC hL HV
        go_wp2_with fail
        refine (CS.out _ HA.out).mono ?_
        rintro e w1 ⟨g, rfl, hg, r1, b1⟩
        have R1 := Lib.hid r1
        have B1 := Lib.hid b1
        have PB := Lib.hid (pre_bd L (fun x hx => by
          obtain ⟨i, hi, rfl⟩ := List.mem_iff_getElem.1 hx
          exact (P1.out i (by omega) hi).2.2.2))
        have HZB := Lib.hid (fun i (hi : i < L.length) => (P1.out i (by omega) hi).2.2.2)
        have PA := Lib.hid (show pre L l.length = a by rw [← PL, pre_all]; exact PS.out)
        have HA1 := Lib.hid (HA.out.below b1)
        have HPL := Lib.hid PL
        rw [PL]
        clear r1 b1 CS PS HA PL hg
        go_wp2_with fail
        go_loopw [9, 10] (fun s i wr => ∃ k q : Nat, k ≤ l.length ∧ i = .int .i64 k ∧ s = .int .i64 (pre L k) ∧ wr = w1.drewN q) (fun _ i _ => l.length - (intOf i).toNat)
        case atStart => exact ⟨0, 0, Nat.zero_le _, rfl, rfl, rfl⟩
        case round =>
          obtain ⟨k, q, hk, rfl, rfl, rfl⟩ := hrel
          obtain ⟨W, hW⟩ : ∃ W, w1.drewN q = W := ⟨_, rfl⟩
          have BW := Lib.hid (show Below w.heap.size w W by rw [← hW]; exact b_draws B1.out q)
          have RW := Lib.hid (show Row W g 3 .i64 L by rw [← hW]; exact R1.out.draws q)
          have AW := Lib.hid (show At1 W b o l by rw [← hW]; exact HA1.out)
          have HWQ := Lib.hid hW
          rw [hW]
          clear hW
          by_cases hlt : k < l.length
          · have hkL : k < L.length := by have := HPL.out; omega
            obtain ⟨p1, p2, p3, p4, p5⟩ := P1.out k hlt hkL
            have c1 := RW.out.get k hkL
            have c2 := AW.out.2 k hlt
            have ps := pre_succ L k hkL
            obtain ⟨b0, b1⟩ := PB.out k (by omega)
            have PP := Lib.hid (fun j (hj : j < l.length) (hj' : j < L.length) (d : Int) hd => P2.out k j hlt hj hkL hj' d hd)
            obtain ⟨x, hx⟩ : ∃ x, L[k] = x := ⟨_, rfl⟩
            obtain ⟨y, hy⟩ : ∃ y, l[k] = y := ⟨_, rfl⟩
            rw [hx] at c1 p1 p2 p3 p4 p5 ps PP
            rw [hy] at c2 p3 PP
            obtain ⟨S, hS⟩ : ∃ S, pre L k = S := ⟨_, rfl⟩
            rw [hS] at b0 b1 ps ⊢
            have HPS := Lib.hid ps
            have wS : IntKind.i64.wrap (S + x) = S + x := by rw [IntKind.wrap_i64]; omega
            have F1 := Lib.hid (And.intro p1 (And.intro p2 p3))
            have HX5 := Lib.hid (And.intro p4 p5)
            clear ps p1 p2 p3 p4 p5 hx hy hS b0 b1
            go_upto_region 19 with fail
            go_cut [125] (fun t wx => t = .bool false ∧ wx = W)
            case first =>
              obtain ⟨p1, p2, p3⟩ := F1.out
              clear PP P1 P2 PB
              by_cases y0 : y = 0
              · have hx0 : x = 0 := p3 y0
                subst hx0 y0
                have e1 : decide (0 ≤ a) = false := decide_eq_false (by omega)
                have e2 : decide (0 < a) = false := decide_eq_false (by omega)
                clear p1 p2 p3
                go_wp2_with fail
                go_meet
                case rel => exact ⟨rfl, rfl⟩
              · have ey : (y == 0) = false := by simpa using y0
                obtain ⟨n1, n2⟩ := p2 an
                have e1 : decide (0 ≤ a) = false := decide_eq_false (by omega)
                have e3 : decide (0 < x) = false := decide_eq_false (by omega)
                have e4 : decide (x < a) = false := decide_eq_false (by omega)
                clear p1 p2 p3 n1 n2 y0
                go_wp2_with fail
                go_meet
                case rel => exact ⟨rfl, rfl⟩
            case rest =>
              obtain ⟨rfl, rfl⟩ := hcut
              clear F1 P1 PB P2
              go_wp2_with fail
              go_loopw [11] (fun i wq => ∃ j q2 : Nat, j ≤ k ∧ i = .int .i64 j ∧ wq = wc.drewN q2) (fun i _ => k - (intOf i).toNat)
              case atStart => exact ⟨0, 0, Nat.zero_le _, rfl, rfl⟩
              case round =>
                obtain ⟨j, q2, hj, rfl, rfl⟩ := hrel
                by_cases hjk : j < k
                · have hjL : j < L.length := by omega
                  have hjl : j < l.length := by omega
                  have hjl2 : (j : Int) < (l.length : Int) := by omega
                  have hjl3 : (0 : Int) ≤ (j : Int) := by omega
                  have d1 := RW.out.get j hjL
                  have d2 := AW.out.2 j (by omega)
                  have hd := PP.out j (by omega) hjL
                  obtain ⟨z, hz⟩ : ∃ z, L[j] = z := ⟨_, rfl⟩
                  obtain ⟨yj, hyj⟩ : ∃ y, l[j] = y := ⟨_, rfl⟩
                  have hzb : -1099511627776 ≤ z ∧ z ≤ 1099511627776 := by have := HZB.out j hjL; rw [hz] at this; exact this
                  rw [hz] at d1 hd
                  rw [hyj] at d2 hd
                  have c1' : (wc.drewN q2).cell? ⟨g, k, none⟩ = some (.int .i64 x) := c1
                  have c2' : (wc.drewN q2).cell? ⟨b, o + k, none⟩ = some (.int .i64 y) := c2
                  have d1' : (wc.drewN q2).cell? ⟨g, j, none⟩ = some (.int .i64 z) := d1
                  have d2' : (wc.drewN q2).cell? ⟨b, o + j, none⟩ = some (.int .i64 yj) := d2
                  obtain ⟨X, hX⟩ : ∃ X, wc.drewN q2 = X := ⟨_, rfl⟩
                  rw [hX] at c1' c2' d1' d2' ⊢
                  have HXX := Lib.hid hX
                  clear hX hz hyj d1 d2
                  have HX6 := HX5.out
                  obtain ⟨f1, f2, f3⟩ := hd (z - x) (by rw [if_pos an])
                  obtain ⟨D2, hD2⟩ : ∃ D2, D2 = x - z := ⟨_, rfl⟩
                  obtain ⟨D, hD⟩ : ∃ D, D = z - x := ⟨_, rfl⟩
                  have wd : IntKind.i64.wrap (x - z) = D2 := by rw [IntKind.wrap_i64]; omega
                  have wd2 : wrap64 (x - z) = D2 := by unfold wrap64; omega
                  have wn : IntKind.i64.wrap (-D2) = D := by rw [IntKind.wrap_i64]; omega
                  have wn2 : wrap64 (-D2) = D := by unfold wrap64; omega
                  rw [← hD] at f1 f2 f3
                  clear hd hD hD2 HX6 hzb
                  rcases Int.lt_trichotomy yj y with h | h | h
                  · have e1 : decide (yj < y) = true := decide_eq_true h
                    have e2 : decide (D < 0) = false := decide_eq_false (by have := f1 h; omega)
                    have e3 : decide (y < yj) = false := decide_eq_false (by omega)
                    have e4 : (y == yj) = false := by rw [beq_eq_false_iff_ne]; omega
                    clear f1 f2 f3 h
                    go_wp2_with fail
                    go_quiet (fail)
                    have c1'' : (X.drewN nq).cell? ⟨g, k, none⟩ = some (.int .i64 x) := c1'
                    have c2'' : (X.drewN nq).cell? ⟨b, o + k, none⟩ = some (.int .i64 y) := c2'
                    have d2'' : (X.drewN nq).cell? ⟨b, o + j, none⟩ = some (.int .i64 yj) := d2'
                    obtain ⟨Y, hY⟩ : ∃ Y, X.drewN nq = Y := ⟨_, rfl⟩
                    rw [hY] at c1'' c2'' d2'' ⊢
                    have HY := Lib.hid hY
                    clear hY c1' c2' d1' d2'
                    go_wp2_with fail
                    go_quiet (fail)
                    go_wp2_with fail
                    go_roundw
                    case rel => exact ⟨j + 1, _, by omega, by go_num, by rw [← HY.out, ← HXX.out, World.drewN_drewN, World.drewN_drewN]⟩
                    case measure => simp [intOf]; omega
                  · have e1 : decide (y < y) = false := decide_eq_false (by omega)
                    have e2 : decide (D < -1) = false := decide_eq_false (by have := f3 h.symm; omega)
                    have e3 : decide (1 < D) = false := decide_eq_false (by have := f3 h.symm; omega)
                    subst h
                    clear f1 f2 f3
                    go_wp2_with fail
                    go_quiet (fail)
                    have c1'' : (X.drewN nq).cell? ⟨g, k, none⟩ = some (.int .i64 x) := c1'
                    have c2'' : (X.drewN nq).cell? ⟨b, o + k, none⟩ = some (.int .i64 yj) := c2'
                    have d2'' : (X.drewN nq).cell? ⟨b, o + j, none⟩ = some (.int .i64 yj) := d2'
                    obtain ⟨Y, hY⟩ : ∃ Y, X.drewN nq = Y := ⟨_, rfl⟩
                    rw [hY] at c1'' c2'' d2'' ⊢
                    have HY := Lib.hid hY
                    clear hY c1' c2' d1' d2'
                    go_wp2_with fail
                    go_quiet (fail)
                    go_wp2_with fail
                    go_roundw
                    case rel => exact ⟨j + 1, _, by omega, by go_num, by rw [← HY.out, ← HXX.out, World.drewN_drewN, World.drewN_drewN]⟩
                    case measure => simp [intOf]; omega
                  · have e1 : decide (yj < y) = false := decide_eq_false (by omega)
                    have e2 : decide (0 < D) = false := decide_eq_false (by have := f2 h; omega)
                    have e3 : decide (y < yj) = true := decide_eq_true h
                    have e4 : (y == yj) = false := by rw [beq_eq_false_iff_ne]; omega
                    clear f1 f2 f3 h
                    go_wp2_with fail
                    go_quiet (fail)
                    have c1'' : (X.drewN nq).cell? ⟨g, k, none⟩ = some (.int .i64 x) := c1'
                    have c2'' : (X.drewN nq).cell? ⟨b, o + k, none⟩ = some (.int .i64 y) := c2'
                    have d2'' : (X.drewN nq).cell? ⟨b, o + j, none⟩ = some (.int .i64 yj) := d2'
                    obtain ⟨Y, hY⟩ : ∃ Y, X.drewN nq = Y := ⟨_, rfl⟩
                    rw [hY] at c1'' c2'' d2'' ⊢
                    have HY := Lib.hid hY
                    clear hY c1' c2' d1' d2'
                    go_wp2_with fail
                    go_quiet (fail)
                    go_wp2_with fail
                    go_roundw
                    case rel => exact ⟨j + 1, _, by omega, by go_num, by rw [← HY.out, ← HXX.out, World.drewN_drewN, World.drewN_drewN]⟩
                    case measure => simp [intOf]; omega
                · obtain rfl : j = k := by omega
                  have wS' := wS
                  go_wp2_with fail
                  go_roundw
                  case rel => exact ⟨j + 1, q + q2, by omega, by go_num, by rw [HPS.out], by rw [← HWQ.out, World.drewN_drewN]⟩
                  case measure => simp [intOf]; omega
          · obtain rfl : k = l.length := by omega
            rw [PA.out]
            clear P1 P2 PB
            go_wp2_with fail
            refine (awake_run _ (HT.out.below BW.out)).mono ?_
            rintro e wx ⟨rfl, gx⟩
            go_wp2_with fail
            go_ret
            exact ⟨rfl, bt BW.out gx⟩

set_option maxHeartbeats 16000000 in
set_option maxRecDepth 1000000 in
theorem walk_pos (a : Int) (v : Value) (l : List Int) (w : World) (hR : RdI w v l) (hI : ∀ x ∈ l, I64 x) (hT : Tabs w) (q1 : ¬ 24 < l.length) (q2 : ¬ a < -1099511627776) (q3 : ¬ 1099511627776 < a) (an : ¬ a < 0) :
    Calls Tryd.prog 8 #[.int .i64 a, v] w fun e w' => e = .returned (.bool true) ∧ Below w.heap.size w w' := by
  have HT := Lib.hid hT
  obtain ⟨p, c, rfl, hlc, hcm, hcell⟩ := hR
  have HC := Lib.hid hcell
  have B0 := Lib.hid (Below.refl w.heap.size w)
  clear hT hI hcell
  have a0 : -1099511627776 ≤ a := by omega
  have a1 : a ≤ 1099511627776 := by omega
  go_enter Tryd.func8, Tryd.ntmps8
  go_wp2_with fail
  go_loop [5, 6] (fun bb i => ∃ k : Nat, k ≤ l.length ∧ i = .int .i64 k ∧ bb = .bool (someB (l.take k)) ∧ Hid (∀ x ∈ l.take k, 0 ≤ x ∧ x ≤ 1099511627776)) (fun _ i => l.length - (intOf i).toNat)
  case atStart => exact ⟨0, Nat.zero_le _, rfl, rfl, Lib.hid (fun x hx => by simp at hx)⟩
  case round =>
    obtain ⟨k, hk, rfl, rfl, HW⟩ := hrel
    by_cases hlt : k < l.length
    · obtain ⟨b, o, hp, ha⟩ := HC.out (fun e => by rw [e] at hlt; exact absurd hlt (by simp))
      have hc := ha.2 k hlt
      obtain rfl : some ⟨b, o, none⟩ = p := hp.symm
      have HS := Lib.hid (someB_succ l k hlt)
      have HX := Lib.hid (show ∀ x, 0 ≤ x → x ≤ 1099511627776 → l[k] = x → ∀ y ∈ l.take (k + 1), 0 ≤ y ∧ y ≤ 1099511627776 from fun x x0 x1 e y hy => by
        rw [List.take_succ_eq_append_getElem hlt] at hy
        rcases List.mem_append.1 hy with h | h
        · exact HW.out y h
        · have : y = l[k] := by simpa using h
          omega)
      obtain ⟨x, hx⟩ : ∃ x, l[k] = x := ⟨_, rfl⟩
      have HE := Lib.hid hx
      rw [hx] at hc HS
      clear hx hp ha HW
      by_cases x0 : x < 0
      · go_wp2_with fail
        refine (awake_run _ (HT.out.below B0.out)).mono ?_
        rintro e wx ⟨rfl, gx⟩
        go_wp2_with fail
        go_ret
        exact ⟨rfl, bt B0.out gx⟩
      by_cases x1 : 1099511627776 < x
      · go_wp2_with fail
        refine (awake_run _ (HT.out.below B0.out)).mono ?_
        rintro e wx ⟨rfl, gx⟩
        go_wp2_with fail
        go_ret
        exact ⟨rfl, bt B0.out gx⟩
      obtain ⟨B, hB⟩ : ∃ B, someB (l.take k) = B := ⟨_, rfl⟩
      rw [hB] at HS ⊢
      clear hB
      cases B
      · obtain ⟨D, hD⟩ : ∃ D, decide (0 < x) = D := ⟨_, rfl⟩
        have HS2 : Hid (someB (l.take (k + 1)) = D) := Lib.hid (by rw [HS.out, hD]; rfl)
        clear HS
        go_wp2_with fail
        go_round
        case rel => exact ⟨k + 1, by omega, by go_num, by rw [HS2.out], Lib.hid (HX.out x (by omega) (by omega) HE.out)⟩
        case measure => simp [intOf]; omega
      · have HS2 : Hid (someB (l.take (k + 1)) = true) := Lib.hid (by rw [HS.out]; rfl)
        clear HS
        go_wp2_with fail
        go_round
        case rel => exact ⟨k + 1, by omega, by go_num, by rw [HS2.out], Lib.hid (HX.out x (by omega) (by omega) HE.out)⟩
        case measure => simp [intOf]; omega
    · obtain rfl : k = l.length := by omega
      rw [List.take_length] at HW
      rw [List.take_length]
      obtain ⟨B, hB⟩ : ∃ B, someB l = B := ⟨_, rfl⟩
      rw [hB]
      cases B
      · clear hB
        go_wp2_with fail
        refine (awake_run _ (HT.out.below B0.out)).mono ?_
        rintro e wx ⟨rfl, gx⟩
        go_wp2_with fail
        go_ret
        exact ⟨rfl, bt B0.out gx⟩
      · obtain ⟨s0, s1⟩ := some_pos l hB (fun x hx => (HW.out x hx).1)
        have V : Wts (ab a) l.sum l := ⟨by have := ab_cases a; omega, by have := ab_cases a; omega, s1, by omega, HW.out, rfl, s0⟩
        have HV := Lib.hid V
        obtain ⟨b, o, hp, ha⟩ := HC.out (fun e => by rw [e] at s1; exact absurd s1 (by decide))
        obtain rfl : some ⟨b, o, none⟩ = p := hp.symm
        have HA := Lib.hid ha
        have CS := Lib.hid (fun X hX => split_ok a l b o c l.length X a0 a1 V (by omega) rfl hX (sorts_any l.length s1 (by omega) _))
        have P1 := Lib.hid (fun i (hi : i < l.length) (hi' : i < (parts a l).length) => parts_one a l a0 a1 V i hi hi')
        have P2 := Lib.hid (fun i k (hi : i < l.length) (hk : k < l.length) (hi' : i < (parts a l).length) (hk' : k < (parts a l).length) => parts_two a l V i k hi hk hi' hk')
        have PS := Lib.hid (parts_sum a l a0 a1 V)
        have PL := parts_len a l
        obtain ⟨L, hL⟩ : ∃ L, L = parts a l := ⟨_, rfl⟩
        rw [← hL] at CS P1 P2 PS PL
        clear hp ha hB s0 V HW HC hL HV
        go_wp2_with fail
        refine (CS.out _ HA.out).mono ?_
        rintro e w1 ⟨g, rfl, hg, r1, b1⟩
        have R1 := Lib.hid r1
        have B1 := Lib.hid b1
        have PB := Lib.hid (pre_bd L (fun x hx => by
          obtain ⟨i, hi, rfl⟩ := List.mem_iff_getElem.1 hx
          exact (P1.out i (by omega) hi).2.2.2))
        have HZB := Lib.hid (fun i (hi : i < L.length) => (P1.out i (by omega) hi).2.2.2)
        have PA := Lib.hid (show pre L l.length = a by rw [← PL, pre_all]; exact PS.out)
        have HA1 := Lib.hid (HA.out.below b1)
        have HPL := Lib.hid PL
        rw [PL]
        clear r1 b1 CS PS HA PL hg
        go_wp2_with fail
        go_loopw [9, 10] (fun s i wr => ∃ k q : Nat, k ≤ l.length ∧ i = .int .i64 k ∧ s = .int .i64 (pre L k) ∧ wr = w1.drewN q) (fun _ i _ => l.length - (intOf i).toNat)
        case atStart => exact ⟨0, 0, Nat.zero_le _, rfl, rfl, rfl⟩
        case round =>
          obtain ⟨k, q, hk, rfl, rfl, rfl⟩ := hrel
          obtain ⟨W, hW⟩ : ∃ W, w1.drewN q = W := ⟨_, rfl⟩
          have BW := Lib.hid (show Below w.heap.size w W by rw [← hW]; exact b_draws B1.out q)
          have RW := Lib.hid (show Row W g 3 .i64 L by rw [← hW]; exact R1.out.draws q)
          have AW := Lib.hid (show At1 W b o l by rw [← hW]; exact HA1.out)
          have HWQ := Lib.hid hW
          rw [hW]
          clear hW
          by_cases hlt : k < l.length
          · have hkL : k < L.length := by have := HPL.out; omega
            obtain ⟨p1, p2, p3, p4, p5⟩ := P1.out k hlt hkL
            have c1 := RW.out.get k hkL
            have c2 := AW.out.2 k hlt
            have ps := pre_succ L k hkL
            obtain ⟨b0, b1⟩ := PB.out k (by omega)
            have PP := Lib.hid (fun j (hj : j < l.length) (hj' : j < L.length) (d : Int) hd => P2.out k j hlt hj hkL hj' d hd)
            obtain ⟨x, hx⟩ : ∃ x, L[k] = x := ⟨_, rfl⟩
            obtain ⟨y, hy⟩ : ∃ y, l[k] = y := ⟨_, rfl⟩
            rw [hx] at c1 p1 p2 p3 p4 p5 ps PP
            rw [hy] at c2 p3 PP
            obtain ⟨S, hS⟩ : ∃ S, pre L k = S := ⟨_, rfl⟩
            rw [hS] at b0 b1 ps ⊢
            have HPS := Lib.hid ps
            have wS : IntKind.i64.wrap (S + x) = S + x := by rw [IntKind.wrap_i64]; omega
            have F1 := Lib.hid (And.intro p1 (And.intro p2 p3))
            have HX5 := Lib.hid (And.intro p4 p5)
            clear ps p1 p2 p3 p4 p5 hx hy hS b0 b1
            go_upto_region 19 with fail
            go_cut [125] (fun t wx => t = .bool false ∧ wx = W)
            case first =>
              obtain ⟨p1, p2, p3⟩ := F1.out
              clear PP P1 P2 PB
              by_cases y0 : y = 0
              · have hx0 : x = 0 := p3 y0
                subst hx0 y0
                have e1 : decide (0 ≤ a) = true := decide_eq_true (by omega)
                have e2 : decide (a < 0) = false := decide_eq_false (by omega)
                clear p1 p2 p3
                go_wp2_with fail
                go_meet
                case rel => exact ⟨rfl, rfl⟩
              · have ey : (y == 0) = false := by simpa using y0
                obtain ⟨n1, n2⟩ := p1 (by omega)
                have e1 : decide (0 ≤ a) = true := decide_eq_true (by omega)
                have e2 : decide (a < 0) = false := decide_eq_false (by omega)
                have e3 : decide (x < 0) = false := decide_eq_false (by omega)
                have e4 : decide (a < x) = false := decide_eq_false (by omega)
                clear p1 p2 p3 n1 n2 y0
                go_wp2_with fail
                go_meet
                case rel => exact ⟨rfl, rfl⟩
            case rest =>
              obtain ⟨rfl, rfl⟩ := hcut
              clear F1 P1 PB P2
              go_wp2_with fail
              go_loopw [11] (fun i wq => ∃ j q2 : Nat, j ≤ k ∧ i = .int .i64 j ∧ wq = wc.drewN q2) (fun i _ => k - (intOf i).toNat)
              case atStart => exact ⟨0, 0, Nat.zero_le _, rfl, rfl⟩
              case round =>
                obtain ⟨j, q2, hj, rfl, rfl⟩ := hrel
                by_cases hjk : j < k
                · have hjL : j < L.length := by omega
                  have hjl : j < l.length := by omega
                  have hjl2 : (j : Int) < (l.length : Int) := by omega
                  have hjl3 : (0 : Int) ≤ (j : Int) := by omega
                  have d1 := RW.out.get j hjL
                  have d2 := AW.out.2 j (by omega)
                  have hd := PP.out j (by omega) hjL
                  obtain ⟨z, hz⟩ : ∃ z, L[j] = z := ⟨_, rfl⟩
                  obtain ⟨yj, hyj⟩ : ∃ y, l[j] = y := ⟨_, rfl⟩
                  have hzb : -1099511627776 ≤ z ∧ z ≤ 1099511627776 := by have := HZB.out j hjL; rw [hz] at this; exact this
                  rw [hz] at d1 hd
                  rw [hyj] at d2 hd
                  have c1' : (wc.drewN q2).cell? ⟨g, k, none⟩ = some (.int .i64 x) := c1
                  have c2' : (wc.drewN q2).cell? ⟨b, o + k, none⟩ = some (.int .i64 y) := c2
                  have d1' : (wc.drewN q2).cell? ⟨g, j, none⟩ = some (.int .i64 z) := d1
                  have d2' : (wc.drewN q2).cell? ⟨b, o + j, none⟩ = some (.int .i64 yj) := d2
                  obtain ⟨X, hX⟩ : ∃ X, wc.drewN q2 = X := ⟨_, rfl⟩
                  rw [hX] at c1' c2' d1' d2' ⊢
                  have HXX := Lib.hid hX
                  clear hX hz hyj d1 d2
                  have HX6 := HX5.out
                  obtain ⟨f1, f2, f3⟩ := hd (x - z) (by rw [if_neg (by omega)])
                  obtain ⟨D, hD⟩ : ∃ D, D = x - z := ⟨_, rfl⟩
                  have wd : IntKind.i64.wrap (x - z) = D := by rw [IntKind.wrap_i64]; omega
                  have wd2 : wrap64 (x - z) = D := by unfold wrap64; omega
                  rw [← hD] at f1 f2 f3
                  clear hd hD HX6 hzb
                  rcases Int.lt_trichotomy yj y with h | h | h
                  · have e1 : decide (yj < y) = true := decide_eq_true h
                    have e2 : decide (D < 0) = false := decide_eq_false (by have := f1 h; omega)
                    have e3 : decide (y < yj) = false := decide_eq_false (by omega)
                    have e4 : (y == yj) = false := by rw [beq_eq_false_iff_ne]; omega
                    clear f1 f2 f3 h
                    go_wp2_with fail
                    go_quiet (fail)
                    have c1'' : (X.drewN nq).cell? ⟨g, k, none⟩ = some (.int .i64 x) := c1'
                    have c2'' : (X.drewN nq).cell? ⟨b, o + k, none⟩ = some (.int .i64 y) := c2'
                    have d2'' : (X.drewN nq).cell? ⟨b, o + j, none⟩ = some (.int .i64 yj) := d2'
                    obtain ⟨Y, hY⟩ : ∃ Y, X.drewN nq = Y := ⟨_, rfl⟩
                    rw [hY] at c1'' c2'' d2'' ⊢
                    have HY := Lib.hid hY
                    clear hY c1' c2' d1' d2'
                    go_wp2_with fail
                    go_quiet (fail)
                    go_wp2_with fail
                    go_roundw
                    case rel => exact ⟨j + 1, _, by omega, by go_num, by rw [← HY.out, ← HXX.out, World.drewN_drewN, World.drewN_drewN]⟩
                    case measure => simp [intOf]; omega
                  · have e1 : decide (y < y) = false := decide_eq_false (by omega)
                    have e2 : decide (D < -1) = false := decide_eq_false (by have := f3 h.symm; omega)
                    have e3 : decide (1 < D) = false := decide_eq_false (by have := f3 h.symm; omega)
                    subst h
                    clear f1 f2 f3
                    go_wp2_with fail
                    go_quiet (fail)
                    have c1'' : (X.drewN nq).cell? ⟨g, k, none⟩ = some (.int .i64 x) := c1'
                    have c2'' : (X.drewN nq).cell? ⟨b, o + k, none⟩ = some (.int .i64 yj) := c2'
                    have d2'' : (X.drewN nq).cell? ⟨b, o + j, none⟩ = some (.int .i64 yj) := d2'
                    obtain ⟨Y, hY⟩ : ∃ Y, X.drewN nq = Y := ⟨_, rfl⟩
                    rw [hY] at c1'' c2'' d2'' ⊢
                    have HY := Lib.hid hY
                    clear hY c1' c2' d1' d2'
                    go_wp2_with fail
                    go_quiet (fail)
                    go_wp2_with fail
                    go_roundw
                    case rel => exact ⟨j + 1, _, by omega, by go_num, by rw [← HY.out, ← HXX.out, World.drewN_drewN, World.drewN_drewN]⟩
                    case measure => simp [intOf]; omega
                  · have e1 : decide (yj < y) = false := decide_eq_false (by omega)
                    have e2 : decide (0 < D) = false := decide_eq_false (by have := f2 h; omega)
                    have e3 : decide (y < yj) = true := decide_eq_true h
                    have e4 : (y == yj) = false := by rw [beq_eq_false_iff_ne]; omega
                    clear f1 f2 f3 h
                    go_wp2_with fail
                    go_quiet (fail)
                    have c1'' : (X.drewN nq).cell? ⟨g, k, none⟩ = some (.int .i64 x) := c1'
                    have c2'' : (X.drewN nq).cell? ⟨b, o + k, none⟩ = some (.int .i64 y) := c2'
                    have d2'' : (X.drewN nq).cell? ⟨b, o + j, none⟩ = some (.int .i64 yj) := d2'
                    obtain ⟨Y, hY⟩ : ∃ Y, X.drewN nq = Y := ⟨_, rfl⟩
                    rw [hY] at c1'' c2'' d2'' ⊢
                    have HY := Lib.hid hY
                    clear hY c1' c2' d1' d2'
                    go_wp2_with fail
                    go_quiet (fail)
                    go_wp2_with fail
                    go_roundw
                    case rel => exact ⟨j + 1, _, by omega, by go_num, by rw [← HY.out, ← HXX.out, World.drewN_drewN, World.drewN_drewN]⟩
                    case measure => simp [intOf]; omega
                · obtain rfl : j = k := by omega
                  have wS' := wS
                  go_wp2_with fail
                  go_roundw
                  case rel => exact ⟨j + 1, q + q2, by omega, by go_num, by rw [HPS.out], by rw [← HWQ.out, World.drewN_drewN]⟩
                  case measure => simp [intOf]; omega
          · obtain rfl : k = l.length := by omega
            rw [PA.out]
            clear P1 P2 PB
            go_wp2_with fail
            refine (awake_run _ (HT.out.below BW.out)).mono ?_
            rintro e wx ⟨rfl, gx⟩
            go_wp2_with fail
            go_ret
            exact ⟨rfl, bt BW.out gx⟩

theorem walk (a : Int) (v : Value) (l : List Int) (w : World) (hR : RdI w v l) (hI : ∀ x ∈ l, I64 x) (hT : Tabs w) :
    Calls Tryd.prog 8 #[.int .i64 a, v] w fun e w' => e = .returned (.bool true) ∧ Below w.heap.size w w' := by
  by_cases hq : 24 < l.length ∨ a < -1099511627776 ∨ 1099511627776 < a
  · exact walk_out a v l w hR hI hT hq
  · by_cases an : a < 0
    · exact walk_neg a v l w hR hI hT (by omega) (by omega) (by omega) an
    · exact walk_pos a v l w hR hI hT (by omega) (by omega) (by omega) an

set_option maxRecDepth 100000 in
theorem contract (H : Type) (enc : TypeId × Value → H) (W : World) (base : Nat) (args : Array Value) (ds gs : List (DataW H)) (before : List MemPlace)
    (hval : ∀ (j : Nat) t v, Tryd.f8.params[j]? = some t → args[j]? = some v → Value.okWide Tryd.prog W .any base t v)
    (hW : DataW.Whole enc Tryd.prog Tryd.f8.params.toList Rows.moneySharesSpec.vars false W args.toList ds gs before) (hL : laidMetH Tryd.prog Rows.moneySharesRow.laid W) :
    Calls Tryd.prog 8 args W fun e W' => ∃ v, e = .returned v ∧ Rows.moneySharesSpec.post enc Tryd.prog Tryd.f8 false true false false W args v W' := by
  have hW' := hW
  obtain ⟨p, q, hA0, hV, rfl, hfz, hnd⟩ := hW
  have hA : DataW.TrodAll enc Tryd.prog W 0 (fun _ => true) true Tryd.f8.params.toList args.toList ds p := hA0
  rw [Tryd.params8] at hA hval
  obtain ⟨v0, vs0, d0, ds0, p0, q0, hargs, rfl, rfl, h0, r0⟩ := trodAll_cons hA
  obtain ⟨v1, vs1, d1, ds1, p1, q1, rfl, rfl, rfl, h1, r1⟩ := trodAll_cons r0
  obtain ⟨rfl, rfl, rfl⟩ := trodAll_nil r1
  obtain rfl : args = #[v0, v1] := by cases args; simp_all
  obtain ⟨rfl, rfl⟩ := trodVars_none hV
  have k0' := h0
  have lt0 : ∀ x ∈ p0, x.block < W.heap.size := by obtain ⟨m, hm⟩ := k0'; exact DataW.trod_lt m _ _ _ hm
  have k1' := h1
  have lt1 : ∀ x ∈ p1, x.block < W.heap.size := by obtain ⟨m, hm⟩ := k1'; exact DataW.trod_lt m _ _ _ hm
  obtain ⟨x0, rfl, b0⟩ := int_form (hval 0 3 v0 rfl rfl) h0
  obtain ⟨x1, b1, c1⟩ := ints_form (hval 1 32 v1 rfl rfl) h1
  clear hA0
  simp only [List.append_nil] at hW'
  refine (walk x0 v1 x1 W b1 c1 (tabs_of_laid hL)).mono fun e W' ⟨he, bel⟩ => ?_
  subst he
  exact ⟨_, rfl, _, _, _, [], _, [], hW', trodAll_mk1 (shut_bool Tryd.underlying4 _), (trodAll_cons_mk (Below.trod laidOut (by kernel_rfl) (of_decide_eq_true (by kernel_rfl)) k0' bel lt0) (trodAll_cons_mk (Below.trod laidOut (by kernel_rfl) (of_decide_eq_true (by kernel_rfl)) k1' bel lt1) trodAll_mk0)), rfl, bel.frame _, fun h => by cases h⟩

noncomputable def lawWorld (os : Os) : World := World.laidAll Tryd.prog os Rows.moneySharesRow.laid
theorem laid_met (os : Os) : laidMet Tryd.prog Rows.moneySharesRow.laid ((lawWorld os).forCall (fun _ _ => 0) ⟨#[], #[.int .i64 0, .slice none 0 0], []⟩).memory :=
  laidMet_laidAll _ (by kernel_rfl) (by kernel_rfl)
theorem reads (os : Os) {H : Type} (enc : TypeId × Value → H) : ∃ places, DataW.whole enc Tryd.prog ((lawWorld os).forCall (fun _ _ => 0) ⟨#[], #[.int .i64 0, .slice none 0 0], []⟩).memory Tryd.f8.params.toList Rows.moneySharesSpec.vars false (#[.int .i64 0, .slice none 0 0] : Array Value).toList 8 = some ([.lit (.int .i64 0), .nil], [], places) :=
  ⟨[], by kernel_rfl⟩

theorem fits (os : Os) : Input.okWideB Tryd.checked.prog ((lawWorld os).forCall (fun _ _ => 0) ⟨#[], #[.int .i64 0, .slice none 0 0], []⟩) 8 ⟨#[], #[.int .i64 0, .slice none 0 0], []⟩ = true := by kernel_rfl

set_option maxRecDepth 100000 in
theorem lifted (os : Os) (started : os.Started) (H : Type) (enc : TypeId × Value → H) (F : Stop.Interp) :
    ReturnsInHanded {} Tryd.checked os 8 .any ((OpenSpec.ofChange Rows.moneySharesSpec).preRow enc Tryd.prog Tryd.f8 Rows.moneySharesRow.domain false Rows.moneySharesRow.laid) (((OpenSpec.ofChange Rows.moneySharesSpec).at F).post enc Tryd.prog Tryd.f8 false true false false) := by
  obtain ⟨places, hx⟩ := reads os enc
  refine returnsInHanded_of_row (C := Tryd.checked) (s := OpenSpec.ofChange Rows.moneySharesSpec) own started (by kernel_rfl) Tryd.func8
    ⟨lawWorld os, fun _ _ => 0, ⟨#[], #[.int .i64 0, .slice none 0 0], []⟩, World.laidAll_os _ _ _, World.shaped_of_ZipB (by kernel_rfl) (by kernel_rfl), (Input.okWide_of_okWideB (base := 0) (fits os)).1, (Input.okWide_of_okWideB (fits os)).2,
      OpenSpec.preRow_of_cond 8 hx (by kernel_rfl) (fun k hk => by cases hk) (by kernel_rfl) (laid_met os), by
        simp only [Assume.holds]
        exact ⟨by simp, by simp, fun _ => Modest.zero, by simp, by simp⟩⟩ ?_
  intro W base args ds gs before hval hW _ _ _ hL _ _
  exact contract H enc W base args ds gs before hval hW hL

theorem said : Rows.MoneySharesSaid :=
  OpenClaim.holds_of_cond 8 Tryd.f8 rfl rfl rfl rfl rfl rfl rfl ⟨rfl, rfl, rfl, rfl, rfl⟩ rfl rfl rfl rfl rfl (by kernel_rfl) Tryd.func8 (by kernel_rfl)
    (of_decide_eq_true (by kernel_rfl)) (by unfold Func.isWrapper; first | (rw [if_pos (by decide +kernel)]; kernel_rfl) | (rw [if_neg (by decide +kernel)]; exact ⟨rfl, rfl⟩))
    (fun os started H enc _ F => by rw [OpenClaim.pre_eq_preRow]; exact lifted os started H enc F)

theorem plain (f : FuncId) (fn : Func) (hf : Tryd.pinned.checked.prog.funcNamed "chargenet/chargenetlaw03.MoneyShares" = some f) (hfn : Tryd.pinned.checked.prog.funcs[f]? = some fn) :
    true = Tryd.pinned.checked.prog.looks [] ∧ ∀ (j : Nat) t, fn.params[j]? = some t → Tryd.pinned.checked.prog.wantsStandIn t = false := by
  obtain rfl : f = 8 := Option.some.inj ((show Tryd.prog.funcNamed "chargenet/chargenetlaw03.MoneyShares" = some 8 by kernel_rfl).symm.trans hf) |>.symm
  obtain rfl : fn = Tryd.f8 := (Option.some.inj (Tryd.func8.symm.trans hfn)).symm
  refine ⟨by kernel_rfl, fun j t ht => ?_⟩
  rw [Tryd.params8] at ht
  have hm : t ∈ [3, 32] := by simpa using Array.mem_of_getElem? ht
  have hall : ([3, 32].all fun u => !Tryd.prog.wantsStandIn u) = true := by kernel_rfl
  exact (show Tryd.prog.wantsStandIn t = false by simpa using List.all_eq_true.1 hall t hm)
end moneyShares

theorem moneyShares_holds : Rows.MoneySharesCardSaid :=
  Claim7.holds_tied_plain_at .later [] _ _ _ _ moneyShares.said (fun _ h => by cases h) (by kernel_rfl) (fun _ h => by cases h) moneyShares_row_tie rfl ⟨rfl, rfl⟩ (by kernel_rfl) rfl moneyShares.plain (by kernel_rfl)
#print axioms moneyShares_holds
end Go.Proofs.YtjjhdbodjcffaaaDoor
