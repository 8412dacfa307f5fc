/-
  The law WindowCovers holds: for every input it returns true and leaves its arguments as they were, where the table of the months' lengths is as the program's text lays it.
-/
import Derived.Test.YtmapkiefmbgdoaaDoorWinW
import Derived.BigQuiet
import Derived.WalkKit
import Derived.SevenTiedAt
namespace Go.Proofs.YtmapkiefmbgdoaaDoor
namespace windowCovers
open Go.ChangeShapes Go.WideShapes Go.ChangeAt Go.RowKit
open Cal
set_option linter.unusedVariables false
theorem sp_runs {d s e f u o : Int} {sm : Bool} {F T : Int} (h : 0 ≤ F ∧ F ≤ T ∧ T ≤ 268435456) (hE : spE d s e f u o sm F T = 0) : Runs (hol d s e f u o sm) F T (spR d s e f u o sm F T) := by
  unfold spE at hE
  by_cases hk : OkW d s e f u ∧ -840 ≤ o ∧ o ≤ 840
  · rw [if_pos hk, if_pos h] at hE
    unfold spR
    rw [if_pos hk, if_pos h]
    have e2 : hol d s e f u o sm = hB d s e f u o sm := funext fun v => hol_yes hk
    rw [e2]
    unfold limC at hE
    by_cases hl : (runsL (hB d s e f u o sm) F T).length ≤ 512
    · unfold limP; rw [if_pos hl]; exact runsL_ok (spans_runs hk.1 hk.2.1 hk.2.2 h.1 h.2.1 h.2.2)
    · rw [if_neg hl] at hE; exact absurd hE (by decide)
  · rw [if_neg hk] at hE; exact absurd hE (by decide)
theorem sp_none {d s e f u o : Int} {sm : Bool} {F T : Int} (hE : spE d s e f u o sm F T ≠ 0) : spR d s e f u o sm F T = [] := by
  unfold spE at hE
  unfold spR
  by_cases hk : OkW d s e f u ∧ -840 ≤ o ∧ o ≤ 840
  · rw [if_pos hk] at hE ⊢
    by_cases h : 0 ≤ F ∧ F ≤ T ∧ T ≤ 268435456
    · rw [if_pos h] at hE ⊢
      unfold limC at hE
      unfold limP
      by_cases hl : (runsL (hB d s e f u o sm) F T).length ≤ 512
      · rw [if_pos hl] at hE; exact absurd rfl hE
      · rw [if_neg hl]
    · rw [if_neg h]
  · rw [if_neg hk]
theorem runs_gap {H : Int → Bool} {F T : Int} {l : List (Int × Int)} (h : Runs H F T l) (i j : Nat) (hij : i < j) (hj : j < l.length) : (l[i]'(by omega)).2 < (l[j]'hj).1 :=
  List.pairwise_iff_getElem.1 h.gap i j (by omega) hj hij
theorem ptr_some {H : Int → Bool} {F T t : Int} {l : List (Int × Int)} (h : Runs H F T l) (t0 : F ≤ t) (t1 : t < T) (k : Nat) (hk : k < l.length) (hl : ∀ j (hj : j < l.length), j < k → (l[j]'hj).2 ≤ t) (hn : t < (l[k]'hk).2) :
    H t = decide ((l[k]'hk).1 ≤ t) := by
  by_cases c : (l[k]'hk).1 ≤ t
  · rw [decide_eq_true c]
    exact (h.all t t0 t1).2 ⟨l[k], List.getElem_mem _, c, hn⟩
  · rw [decide_eq_false c]
    cases e : H t with
    | false => rfl
    | true =>
      obtain ⟨p, hp, h1, h2⟩ := (h.all t t0 t1).1 e
      obtain ⟨i, hi, rfl⟩ := List.mem_iff_getElem.1 hp
      by_cases c1 : i < k
      · have := hl i hi c1; omega
      · by_cases c2 : i = k
        · subst c2; omega
        · have := runs_gap h k i (by omega) hi
          have := h.bd _ (List.getElem_mem hk)
          omega
theorem ptr_none {H : Int → Bool} {F T t : Int} {l : List (Int × Int)} (h : Runs H F T l) (t0 : F ≤ t) (t1 : t < T) (k : Nat) (hk : k = l.length) (hl : ∀ j (hj : j < l.length), j < k → (l[j]'hj).2 ≤ t) : H t = false := by
  cases e : H t with
  | false => rfl
  | true =>
    obtain ⟨p, hp, h1, h2⟩ := (h.all t t0 t1).1 e
    obtain ⟨i, hi, rfl⟩ := List.mem_iff_getElem.1 hp
    have := hl i hi (by omega)
    omega
theorem at_below {w w' : World} {p : Option Addr} {l : List (Int × Int)} (h : l ≠ [] → ∃ b, p = some ⟨b, 0, none⟩ ∧ AtP w b l) (hb : Below w.heap.size w w') : l ≠ [] → ∃ b, p = some ⟨b, 0, none⟩ ∧ AtP w' b l :=
  fun hl => by obtain ⟨b, e, ha⟩ := h hl; exact ⟨b, e, ha.below hb⟩
theorem ptr_next {l : List (Int × Int)} {V : Int} {k : Nat} (h : ∀ j (hj : j < l.length), j < k → (l[j]'hj).2 ≤ V) (hk : k < l.length) (hx : (l[k]'hk).2 ≤ V) : ∀ j (hj : j < l.length), j < k + 1 → (l[j]'hj).2 ≤ V := fun j hj h2 => by
  by_cases c : j < k
  · exact h j hj c
  · obtain rfl : j = k := by omega
    exact hx

set_option maxRecDepth 100000 in
set_option maxHeartbeats 8000000 in
theorem walk (d s e f u : Int) (o : Int) (sm : Bool) (F T : Int) (w : World) (wF : (Lit.int .i64 F).wf = true) (wT : (Lit.int .i64 T).wf = true) (hT : Tab w) :
    Calls Tryd.prog 8 #[.agg #[.int .i64 d, .int .i64 s, .int .i64 e, .int .i64 f, .int .i64 u], .agg #[.int .i64 o, .bool sm], .agg #[.int .i64 F, .int .i64 T]] w fun e' w' => e' = .returned (.bool true) ∧ Below w.heap.size w w' := by
  have HT := Lib.hid hT
  clear hT
  have K0 := Lib.hid (KS.new w (.int .i64 d) (.int .i64 s) (.int .i64 e) (.int .i64 f) (.int .i64 u) (.int .i64 o) (.bool sm) (.int .i64 F) (.int .i64 T) 23 29 33)
  have CS := Lib.hid (fun X => rspan_any F T X)
  have HL := spR_len d s e f u o sm F T
  have CA := Lib.hid (fun X hX => spans_any d s e f u o sm F T X hX)
  have CH := Lib.hid (fun v X hX => holds_any d s e f u o sm v X hX)
  have HNs := Lib.hid (fun h => sp_none (d := d) (s := s) (e := e) (f := f) (u := u) (o := o) (sm := sm) (F := F) (T := T) h)
  by_cases hb : 0 ≤ F ∧ F ≤ T ∧ T ≤ 268435456
  · have HRs := Lib.hid (fun h => sp_runs (d := d) (s := s) (e := e) (f := f) (u := u) (o := o) (sm := sm) hb h)
    generalize spR d s e f u o sm F T = l at *
    generalize spE d s e f u o sm F T = E at *
    generalize hol d s e f u o sm = H at *
    rw [show spanB F T = true from decide_eq_true hb] at CS
    by_cases h8 : 4000 < T - F
    · go_enter Tryd.func8, Tryd.ntmps8
      go_wp2_with fail
      refine (CS.out _).mono ?_
      rintro ea w1 ⟨rfl, g1⟩
      have K1 := Lib.hid (K0.out.below g1)
      clear g1
      obtain ⟨-, -, -, -, -, -, -, -, -, c7, c8⟩ := K1.out
      go_wp2_with fail
      refine (example_any _ (HT.out.below K1.out.b)).mono ?_
      rintro e wx ⟨rfl, gx⟩
      go_wp2_with fail
      go_ret
      exact ⟨rfl, b2 K1.out.b gx⟩
    · go_enter Tryd.func8, Tryd.ntmps8
      go_wp2_with fail
      refine (CS.out _).mono ?_
      rintro ea w1 ⟨rfl, g1⟩
      have K1 := Lib.hid (K0.out.below g1)
      clear g1
      obtain ⟨-, -, c0, c1, c2, c3, c4, c5, c6, c7, c8⟩ := K1.out
      go_wp2_with fail
      clear c0 c1 c2 c3 c4 c5 c6 c7 c8
      refine (CA.out _ (HT.out.below K1.out.b)).mono ?_
      rintro ea w2 ⟨va, rfl, r2, g2⟩
      have R2 := Lib.hid r2.rd
      have K2 := Lib.hid (K1.out.below g2)
      clear r2 g2 K0 K1 CA CS
      obtain ⟨pa, ca, rfl, hca, _, ha⟩ := R2.out
      have HA := Lib.hid ha
      clear ha R2
      by_cases hE : E = 0
      · have HR := Lib.hid (HRs.out hE)
        subst hE
        clear HRs HNs
        obtain ⟨-, -, -, -, -, -, -, -, -, c7, c8⟩ := K2.out
        go_wp2_with fail
        clear c7 c8
        go_loopw [9, 10] (fun kk tt wr => ∃ (k : Nat) (V : Int), kk = .int .i64 k ∧ tt = .int .i64 V ∧ k ≤ l.length ∧ F ≤ V ∧ V ≤ T ∧ Hid (∀ j (hj : j < l.length), j < k → (l[j]'hj).2 ≤ V) ∧ Hid (KS w (.int .i64 d) (.int .i64 s) (.int .i64 e) (.int .i64 f) (.int .i64 u) (.int .i64 o) (.bool sm) (.int .i64 F) (.int .i64 T) wr) ∧ Hid (l ≠ [] → ∃ b, pa = some ⟨b, 0, none⟩ ∧ AtP wr b l)) (fun _ v _ => (268435457 - intOf v).toNat)
        case atStart => exact ⟨0, F, rfl, rfl, Nat.zero_le _, Int.le_refl _, hb.2.1, Lib.hid (fun j hj h => absurd h (by omega)), K2, HA⟩
        case round =>
          obtain ⟨k, V, rfl, rfl, hk, v1, v2, HP, KR, AR⟩ := hrel
          clear HA K2
          by_cases q1 : V < T
          · obtain ⟨-, -, -, -, -, -, -, -, -, c7, c8⟩ := KR.out
            go_wp2_with fail
            clear c7 c8
            go_loop [9] (fun i => ∃ m : Nat, m ≤ l.length ∧ i = .int .i64 m ∧ Hid (∀ j (hj : j < l.length), j < m → (l[j]'hj).2 ≤ V)) (fun i => l.length - (intOf i).toNat)
            case atStart => exact ⟨k, hk, rfl, HP⟩
            case round =>
              obtain ⟨m, hm, rfl, HM⟩ := hrel
              clear HP
              by_cases hlt : m < l.length
              · have hne : l ≠ [] := by intro h; rw [h] at hlt; simp at hlt
                obtain ⟨g, rfl, h1⟩ := AR.out hne
                obtain ⟨g1, g2⟩ := h1.2 m hlt
                have HS := Lib.hid (fun h => ptr_some HR.out v1 q1 m hlt HM.out h)
                have HN := Lib.hid (fun h => ptr_next HM.out hlt h)
                obtain ⟨x1, e1⟩ : ∃ x, l[m].1 = x := ⟨_, rfl⟩
                obtain ⟨x2, e2⟩ : ∃ x, l[m].2 = x := ⟨_, rfl⟩
                rw [e1] at g1 HS
                rw [e2] at g2 HS HN
                have g1' : wr.cell? ⟨g, m * 2, none⟩ = some (.int .i64 x1) := g1
                have g2' : wr.cell? ⟨g, m * 2 + 1, none⟩ = some (.int .i64 x2) := g2
                clear e1 e2 g1 g2 hne
                by_cases hle : x2 ≤ V
                · clear HS
                  go_wp2_with fail
                  go_round
                  case rel => exact ⟨m + 1, by omega, by go_num, Lib.hid (HN.out hle)⟩
                  case measure => simp [intOf]; omega
                · have HV := Lib.hid (HS.out (by omega))
                  clear HS HN
                  have hlt2 : g < wr.heap.size := h1.1
                  have G1 := Lib.hid g1'
                  clear h1
                  obtain ⟨-, -, c0, c1, c2, c3, c4, c5, c6, c7, c8⟩ := KR.out
                  go_wp2_with fail
                  clear c0 c1 c2 c3 c4 c5 c6 c7 c8
                  refine (CH.out V _ (HT.out.below KR.out.b)).mono ?_
                  rintro e wr2 ⟨rfl, gr⟩
                  have KR2 := Lib.hid (KR.out.below gr)
                  have AR2 := Lib.hid (at_below AR.out gr)
                  have GR := Lib.hid gr
                  clear gr
                  rw [HV.out]
                  clear g1' g2'
                  have g3 : wr2.cell? ⟨g, m * 2, none⟩ = some (.int .i64 x1) := by rw [(bcell GR.out).1 _ _ hlt2]; exact G1.out
                  go_wp2_with fail
                  go_roundw
                  case rel => exact ⟨m, V + 1, rfl, by go_num, hm, by omega, by omega, Lib.hid (fun j hj h => Int.le_trans (HM.out j hj h) (by omega)), KR2, AR2⟩
                  case measure => simp [intOf]; omega
              · obtain rfl : m = l.length := by omega
                have HV := Lib.hid (ptr_none HR.out v1 q1 _ rfl HM.out)
                obtain ⟨-, -, c0, c1, c2, c3, c4, c5, c6, c7, c8⟩ := KR.out
                go_wp2_with fail
                clear c0 c1 c2 c3 c4 c5 c6 c7 c8
                refine (CH.out V _ (HT.out.below KR.out.b)).mono ?_
                rintro e wr2 ⟨rfl, gr⟩
                have KR2 := Lib.hid (KR.out.below gr)
                have AR2 := Lib.hid (at_below AR.out gr)
                have GR := Lib.hid gr
                clear gr
                rw [HV.out]
                go_wp2_with fail
                go_roundw
                case rel => exact ⟨l.length, V + 1, rfl, by go_num, hm, by omega, by omega, Lib.hid (fun j hj h => Int.le_trans (HM.out j hj h) (by omega)), KR2, AR2⟩
                case measure => simp [intOf]; omega
          · obtain rfl : V = T := by omega
            obtain ⟨wo, rfl⟩ : ∃ wo : World, wo = wr := ⟨_, rfl⟩
            obtain ⟨-, -, -, -, -, -, -, -, -, c7, c8⟩ := KR.out
            clear CH HP
            go_wp2_with fail
            clear c7 c8
            go_loopw [82] (fun i wz => ∃ m q : Nat, m ≤ l.length ∧ i = .int .i64 m ∧ wz = wo.drewN q) (fun i _ => l.length - (intOf i).toNat)
            case atStart => exact ⟨0, 0, Nat.zero_le _, rfl, rfl⟩
            case round =>
              obtain ⟨m, q, hm, rfl, rfl⟩ := hrel
              have GX := Lib.hid (b_drawsW q KR.out.b)
              by_cases hlt : m < l.length
              · have hne : l ≠ [] := by intro h; rw [h] at hlt; simp at hlt
                obtain ⟨g, rfl, h1⟩ := AR.out hne
                obtain ⟨g1, g2⟩ := h1.2 m hlt
                obtain ⟨x0, x1, x2⟩ := HR.out.bd _ (List.getElem_mem hlt)
                obtain ⟨-, -, -, -, -, -, -, -, -, c7, c8⟩ := KR.out
                by_cases h0 : m = 0
                · subst h0
                  obtain ⟨a, e1⟩ : ∃ x, l[0].1 = x := ⟨_, rfl⟩
                  obtain ⟨b, e2⟩ : ∃ x, l[0].2 = x := ⟨_, rfl⟩
                  rw [e1] at g1 x0 x1
                  rw [e2] at g2 x1 x2
                  have g1' : (wo.drewN q).cell? ⟨g, 0, none⟩ = some (.int .i64 a) := g1
                  have g2' : (wo.drewN q).cell? ⟨g, 1, none⟩ = some (.int .i64 b) := g2
                  have c7' : (wo.drewN q).cell? ⟨w.heap.size + 1 + 1, 0, none⟩ = some (.int .i64 F) := c7
                  have c8' : (wo.drewN q).cell? ⟨w.heap.size + 1 + 1, 1, none⟩ = some (.int .i64 V) := c8
                  have y1 : decide (b ≤ a) = false := decide_eq_false (by omega)
                  have y2 : decide (a < F) = false := decide_eq_false (by omega)
                  have y3 : decide (V < b) = false := decide_eq_false (by omega)
                  clear e1 e2 g1 g2 c7 c8 h1 hne x0 x1 x2 hb
                  obtain ⟨X, hX⟩ : ∃ X, wo.drewN q = X := ⟨_, rfl⟩
                  rw [hX] at g1' g2' c7' c8' ⊢
                  have HX := Lib.hid hX
                  clear hX
                  go_wp2_with fail
                  go_quiet (fail)
                  go_wp2_with fail
                  go_roundw
                  case rel => exact ⟨1, q + nq, by omega, rfl, by rw [← HX.out, World.drewN_drewN]⟩
                  case measure => simp [intOf]; omega
                · obtain ⟨m, rfl⟩ : ∃ j, m = j + 1 := ⟨m - 1, by omega⟩
                  obtain ⟨_, g3⟩ := h1.2 m (by omega)
                  have x3 := runs_gap HR.out m (m + 1) (by omega) hlt
                  obtain ⟨a, e1⟩ : ∃ x, l[m + 1].1 = x := ⟨_, rfl⟩
                  obtain ⟨b, e2⟩ : ∃ x, l[m + 1].2 = x := ⟨_, rfl⟩
                  obtain ⟨c, e3⟩ : ∃ x, (l[m]'(by omega)).2 = x := ⟨_, rfl⟩
                  rw [e1] at g1 x0 x1 x3
                  rw [e2] at g2 x1 x2
                  rw [e3] at g3 x3
                  have g1' : (wo.drewN q).cell? ⟨g, (m + 1) * 2, none⟩ = some (.int .i64 a) := g1
                  have g2' : (wo.drewN q).cell? ⟨g, (m + 1) * 2 + 1, none⟩ = some (.int .i64 b) := g2
                  have g3' : (wo.drewN q).cell? ⟨g, m * 2 + 1, none⟩ = some (.int .i64 c) := g3
                  have c7' : (wo.drewN q).cell? ⟨w.heap.size + 1 + 1, 0, none⟩ = some (.int .i64 F) := c7
                  have c8' : (wo.drewN q).cell? ⟨w.heap.size + 1 + 1, 1, none⟩ = some (.int .i64 V) := c8
                  have wm : IntKind.i64.wrap ((m : Int) + 1 - 1) = m := by rw [IntKind.wrap_i64]; omega
                  have y1 : decide (b ≤ a) = false := decide_eq_false (by omega)
                  have y2 : decide (a < F) = false := decide_eq_false (by omega)
                  have y3 : decide (V < b) = false := decide_eq_false (by omega)
                  have y4 : decide (a ≤ c) = false := decide_eq_false (by omega)
                  have y5 : decide (0 < (m : Int) + 1) = true := decide_eq_true (by omega)
                  clear e1 e2 e3 g1 g2 g3 c7 c8 h1 hne x0 x1 x2 x3 hb
                  obtain ⟨X, hX⟩ : ∃ X, wo.drewN q = X := ⟨_, rfl⟩
                  rw [hX] at g1' g2' g3' c7' c8' ⊢
                  have HX := Lib.hid hX
                  clear hX
                  go_wp2_with fail
                  go_quiet (fail)
                  go_wp2_with fail
                  go_roundw
                  case rel => exact ⟨m + 1 + 1, q + nq, by omega, by go_num, by rw [← HX.out, World.drewN_drewN]⟩
                  case measure => simp [intOf]; omega
              · clear HR AR
                go_wp2_with fail
                refine (example_any _ (HT.out.below GX.out)).mono ?_
                rintro e wx ⟨rfl, gx⟩
                go_wp2_with fail
                go_ret
                exact ⟨rfl, b2 GX.out gx⟩
      · have hl := HNs.out hE
        have hE1 : (E == 0) = false := by simpa using hE
        have hE2 : (E != 0) = true := by simpa using hE
        clear HRs HNs
        subst hl
        go_wp2_with fail
        refine (example_any _ (HT.out.below K2.out.b)).mono ?_
        rintro e wx ⟨rfl, gx⟩
        go_wp2_with fail
        go_ret
        exact ⟨rfl, b2 K2.out.b gx⟩
  · rw [show spanB F T = false from decide_eq_false hb] at CS
    go_enter Tryd.func8, Tryd.ntmps8
    go_wp2_with fail
    refine (CS.out _).mono ?_
    rintro ea w1 ⟨rfl, g1⟩
    have K1 := Lib.hid (K0.out.below g1)
    clear g1
    go_wp2_with fail
    refine (example_any _ (HT.out.below K1.out.b)).mono ?_
    rintro e wx ⟨rfl, gx⟩
    go_wp2_with fail
    go_ret
    exact ⟨rfl, b2 K1.out.b gx⟩

set_option maxRecDepth 100000 in
theorem contract (H : Type) (enc : TypeId × Value → H) (W : World) (base : Nat) (args : Array Value) (ds gs : List (DataW H)) (before : List MemPlace)
    (hval : ∀ (j : Nat) t v, Tryd.f8.params[j]? = some t → args[j]? = some v → Value.okWide Tryd.prog W .any base t v)
    (hW : DataW.Whole enc Tryd.prog Tryd.f8.params.toList Rows.windowCoversSpec.vars false W args.toList ds gs before) (hL : laidMetH Tryd.prog Rows.windowCoversRow.laid W) :
    Calls Tryd.prog 8 args W fun e W' => ∃ v, e = .returned v ∧ Rows.windowCoversSpec.post enc Tryd.prog Tryd.f8 false true false false W args v W' := by
  have hW' := hW
  obtain ⟨p, q, hA0, hV, rfl, hfz, hnd⟩ := hW
  have hA : DataW.TrodAll enc Tryd.prog W 0 (fun _ => true) true Tryd.f8.params.toList args.toList ds p := hA0
  rw [Tryd.params8] at hA hval
  obtain ⟨v0, vs0, d0, ds0, p0, q0, hargs, rfl, rfl, h0, r0⟩ := trodAll_cons hA
  obtain ⟨v1, vs1, d1, ds1, p1, q1, rfl, rfl, rfl, h1, r1⟩ := trodAll_cons r0
  obtain ⟨v2, vs2, d2, ds2, p2, q2, rfl, rfl, rfl, h2, r2⟩ := trodAll_cons r1
  obtain ⟨rfl, rfl, rfl⟩ := trodAll_nil r2
  obtain rfl : args = #[v0, v1, v2] := by cases args; simp_all
  obtain ⟨rfl, rfl⟩ := trodVars_none hV
  have k0' := h0
  have lt0 : ∀ x ∈ p0, x.block < W.heap.size := by obtain ⟨m, hm⟩ := k0'; exact DataW.trod_lt m _ _ _ hm
  have k1' := h1
  have lt1 : ∀ x ∈ p1, x.block < W.heap.size := by obtain ⟨m, hm⟩ := k1'; exact DataW.trod_lt m _ _ _ hm
  have k2' := h2
  have lt2 : ∀ x ∈ p2, x.block < W.heap.size := by obtain ⟨m, hm⟩ := k2'; exact DataW.trod_lt m _ _ _ hm
  obtain ⟨y0, m0, d0', k0, n0, rfl⟩ := window_form (hval 0 23 v0 rfl rfl) h0
  obtain ⟨o1, sm1, rfl⟩ := zone_form (hval 1 29 v1 rfl rfl) h1
  obtain ⟨x2, y2, rfl, wx2, wy2⟩ := span_form (hval 2 33 v2 rfl rfl) h2
  clear hA0
  simp only [List.append_nil] at hW'
  refine (walk y0 m0 d0' k0 n0 o1 sm1 x2 y2 W wx2 wy2 (tab_of_laid hL)).mono fun e W' ⟨he, bel⟩ => ?_
  subst he
  exact ⟨_, rfl, _, _, _, [], _, [], hW', trodAll_mk1 (shut_bool Tryd.underlying4 _), (trodAll_cons_mk (Below.trod laidOut (by kernel_rfl) (of_decide_eq_true (by kernel_rfl)) k0' bel lt0) (trodAll_cons_mk (Below.trod laidOut (by kernel_rfl) (of_decide_eq_true (by kernel_rfl)) k1' bel lt1) (trodAll_cons_mk (Below.trod laidOut (by kernel_rfl) (of_decide_eq_true (by kernel_rfl)) k2' bel lt2) trodAll_mk0))), rfl, bel.frame _, fun h => by cases h⟩

set_option maxRecDepth 100000 in
theorem laid_met (os : Os) : laidMet Tryd.prog Rows.windowCoversRow.laid ((laidWorld os).forCall (fun _ _ => 0) ⟨#[], #[.agg #[.int .i64 0, .int .i64 0, .int .i64 0, .int .i64 0, .int .i64 0], .agg #[.int .i64 0, .bool false], .agg #[.int .i64 0, .int .i64 0]], []⟩).memory :=
  laidMet_of_run' 8 (by kernel_rfl) (by kernel_rfl)
set_option maxRecDepth 100000 in
theorem reads (os : Os) {H : Type} (enc : TypeId × Value → H) : ∃ places, DataW.whole enc Tryd.prog ((laidWorld os).forCall (fun _ _ => 0) ⟨#[], #[.agg #[.int .i64 0, .int .i64 0, .int .i64 0, .int .i64 0, .int .i64 0], .agg #[.int .i64 0, .bool false], .agg #[.int .i64 0, .int .i64 0]], []⟩).memory Tryd.f8.params.toList Rows.windowCoversSpec.vars false (#[.agg #[.int .i64 0, .int .i64 0, .int .i64 0, .int .i64 0, .int .i64 0], .agg #[.int .i64 0, .bool false], .agg #[.int .i64 0, .int .i64 0]] : Array Value).toList 8 = some ([.agg [.lit (.int .i64 0), .lit (.int .i64 0), .lit (.int .i64 0), .lit (.int .i64 0), .lit (.int .i64 0)], .agg [.lit (.int .i64 0), .lit (.bool false)], .agg [.lit (.int .i64 0), .lit (.int .i64 0)]], [], places) :=
  ⟨[], by kernel_rfl⟩

set_option maxRecDepth 100000 in
theorem lifted (os : Os) (started : os.Started) (H : Type) (enc : TypeId × Value → H) (F : Stop.Interp) :
    ReturnsInHanded {} Tryd.checked os 8 .any ((OpenSpec.ofChange Rows.windowCoversSpec).preRow enc Tryd.prog Tryd.f8 Rows.windowCoversRow.domain false Rows.windowCoversRow.laid) (((OpenSpec.ofChange Rows.windowCoversSpec).at F).post enc Tryd.prog Tryd.f8 false true false false) := by
  obtain ⟨places, hx⟩ := reads os enc
  refine returnsInHanded_of_row (C := Tryd.checked) (s := OpenSpec.ofChange Rows.windowCoversSpec) own started (by kernel_rfl) Tryd.func8
    (witness_row_at (enc := enc) (C := Tryd.checked) false (laidWorld os) #[.agg #[.int .i64 0, .int .i64 0, .int .i64 0, .int .i64 0, .int .i64 0], .agg #[.int .i64 0, .bool false], .agg #[.int .i64 0, .int .i64 0]] rfl (by kernel_rfl) (by kernel_rfl) (by kernel_rfl)
      (OpenSpec.preRow_of_cond 8 hx (by kernel_rfl) (fun k hk => by cases hk) (by kernel_rfl) (laid_met os))) ?_
  intro W base args ds gs before hval hW _ _ _ hL _ _
  exact contract H enc W base args ds gs before hval hW hL

set_option maxRecDepth 100000 in
theorem said : Rows.WindowCoversSaid :=
  OpenClaim.holds_of_cond 8 Tryd.f8 rfl rfl rfl rfl rfl rfl rfl ⟨rfl, rfl, rfl, rfl, rfl⟩ rfl rfl rfl rfl rfl (by kernel_rfl) Tryd.func8 (by kernel_rfl)
    (of_decide_eq_true (by kernel_rfl)) (by unfold Func.isWrapper; first | (rw [if_pos (by decide +kernel)]; kernel_rfl) | (rw [if_neg (by decide +kernel)]; exact ⟨rfl, rfl⟩))
    (fun os started H enc _ F => by rw [OpenClaim.pre_eq_preRow]; exact lifted os started H enc F)

set_option maxRecDepth 100000 in
theorem plain (f : FuncId) (fn : Func) (hf : Tryd.pinned.checked.prog.funcNamed "chargenet/chargenetlaw05.WindowCovers" = some f) (hfn : Tryd.pinned.checked.prog.funcs[f]? = some fn) :
    true = Tryd.pinned.checked.prog.looks [] ∧ ∀ (j : Nat) t, fn.params[j]? = some t → Tryd.pinned.checked.prog.wantsStandIn t = false := by
  obtain rfl : f = 8 := Option.some.inj ((show Tryd.prog.funcNamed "chargenet/chargenetlaw05.WindowCovers" = some 8 by kernel_rfl).symm.trans hf) |>.symm
  obtain rfl : fn = Tryd.f8 := (Option.some.inj (Tryd.func8.symm.trans hfn)).symm
  refine ⟨by kernel_rfl, fun j t ht => ?_⟩
  rw [Tryd.params8] at ht
  have hm : t ∈ [23, 29, 33] := by simpa using Array.mem_of_getElem? ht
  have hall : ([23, 29, 33].all fun u => !Tryd.prog.wantsStandIn u) = true := by kernel_rfl
  exact (show Tryd.prog.wantsStandIn t = false by simpa using List.all_eq_true.1 hall t hm)
end windowCovers

theorem windowCovers_holds : Rows.WindowCoversCardSaid :=
  Claim7.holds_tied_plain_at .later [] _ _ _ _ windowCovers.said (fun _ h => by cases h) (by kernel_rfl) (fun _ h => by cases h) windowCovers_row_tie rfl ⟨rfl, rfl⟩ (by kernel_rfl) rfl windowCovers.plain (by kernel_rfl)
#print axioms windowCovers_holds
end Go.Proofs.YtmapkiefmbgdoaaDoor
