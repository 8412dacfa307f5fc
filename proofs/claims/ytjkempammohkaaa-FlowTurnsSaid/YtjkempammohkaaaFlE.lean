/-
  A push to the sink: the walk.
-/
import Derived.Test.YtjkempammohkaaaFlD
namespace Go.Proofs.Ytjkempammohkaaa
open Go.RowKit
open IntWalk
open Fl
set_option linter.unusedVariables false

/-- What a push returns and leaves. -/
def PushPost (B : Nat) (q : Bl) (G : Nt) (s t : Nat) (D : Nat → Int) (u : Nat) (am : Int) (R X : Nat → Int) (w : World) (e : Ending) (w' : World) : Prop :=
  ∃ (p : Int) (R' X' : Nat → Int), e = .returned (.int .i64 p) ∧ Res w' q G s t R' D X' ∧ Psd G t D u am p R X R' X' ∧ Below B w w'
/-- What holds at the head of the loop. -/
def PushHead (B : Nat) (q : Bl) (G : Nt) (s t : Nat) (D : Nat → Int) (u : Nat) (am : Int) (R X : Nat → Int) (w : World) (pv : Value) (w' : World) : Prop :=
  ∃ (p : Int) (R' X' : Nat → Int), pv = .int .i64 p ∧ Res w' q G s t R' D X' ∧ Phd G t D u am p R X R' X' ∧ Below B w w'
/-- How far a node's list of edges still goes. -/
def lft (q : Bl) (u : Nat) (w : World) : Nat := match w.cell? ⟨q.X, u, none⟩ with
  | some v => (intOf v + 1).toNat
  | none => 0
theorem lft_is {q : Bl} {u : Nat} {w : World} {x : Int} (h : w.cell? ⟨q.X, u, none⟩ = some (.int .i64 x)) : lft q u w = (x + 1).toNat := by
  unfold lft; rw [h]; rfl

theorem upd_bump {R2 : Nat → Int} {e z : Nat} {x y pq : Int} (h1 : x = R2 e) (h2 : y = R2 (bk e)) (h3 : z = bk e) : upd (upd R2 e (x - pq)) z (y + pq) = bump R2 e pq := by
  subst h1; subst h2; subst h3; rfl
theorem lft_lt {q : Bl} {u : Nat} {w w' : World} {x e : Int} (h1 : lft q u w = (e + 1).toNat) (h2 : w'.cell? ⟨q.X, u, none⟩ = some (.int .i64 x)) (h3 : -1 ≤ x) (h4 : x < e) : lft q u w' < lft q u w := by
  rw [lft_is h2, h1]; omega

set_option maxHeartbeats 4000000 in
set_option maxRecDepth 100000 in
theorem push_run {B : Nat} {q : Bl} (o : q.Ok B) {G : Nt} (hG : G.Ok) (hm : G.m ≤ 10000) (hN : G.N ≤ 10000) {s t : Nat} (ht : t < G.N) {D : Nat → Int} {K : Nat} (hK : K ≤ 10000) (hD : ∀ v, v < G.N → -1 ≤ D v ∧ D v < K) (n : Nat) :
    ∀ (u : Nat) (R X : Nat → Int) (am : Int) (w : World), u < G.N → K - D u ≤ n → Res w q G s t R D X → RS G R → XOk G X → 0 < am → am ≤ 9223372036854775807 →
    Calls Try.prog 38 #[.pointer (some ⟨q.g, 0, none⟩), .int .i64 (u : Int), .int .i64 am] w (PushPost B q G s t D u am R X w) := by
  induction n with
  | zero => intro u R X am w hu hk; have := hD u hu; omega
  | succ n ih =>
    intro u R X am w hu hk hR rs xok a0 a1
    have IH := Lib.hid ih
    have HR := Lib.hid hR
    have RS0 := Lib.hid rs
    have XK := Lib.hid xok
    have HD := Lib.hid hD
    have O := Lib.hid o
    have HG := Lib.hid hG
    have k1 := hR.g1
    clear ih hR rs xok hD o hG
    by_cases hut : u = t
    · subst hut
      go_enter Try.func38, Try.ntmps38
      go_wp2_with fail
      go_ret
      exact ⟨am, R, X, rfl, HR.out, Psd.sink RS0.out XK.out a0, Below.refl _ _⟩
    · have hne : ((u : Int) == (t : Int)) = false := by rw [beq_eq_false_iff_ne]; omega
      go_enter Try.func38, Try.ntmps38
      go_wp2_with fail
      go_loopw [7] (fun p wr => PushHead B q G s t D u am R X w p wr) (fun _ wr => lft q u wr)
      case atStart => exact ⟨0, R, X, rfl, HR.out, Phd.start RS0.out XK.out a0, Below.refl _ _⟩
      case round =>
        obtain ⟨p, R1, X1, rfl, R1r, P1, b1⟩ := hrel
        clear k1
        have k1 := R1r.g1
        have k3 := R1r.g3
        have k4 := R1r.g4
        have k5 := R1r.g5
        have k6 := R1r.g6
        have k7 := R1r.g7
        have kx := R1r.cX hu
        have kd := R1r.cD hu
        have p0 := P1.p0
        have p1 := P1.p1
        have HL := Lib.hid (lft_is kx)
        rcases P1.xok u hu with hx | ⟨e, he, hx, hef⟩
        · rw [hx] at kx
          have H1 := Lib.hid R1r
          have HP := Lib.hid P1
          have HX := Lib.hid hx
          clear R1r P1 hx
          go_wp2_with fail
          go_ret
          exact ⟨p, R1, X1, rfl, H1.out, HP.out.stop hut HX.out, b1⟩
        · rw [hx] at kx
          have kt := R1r.cT he
          have kr := R1r.cR he
          have ka := R1r.cA he
          have hv := et_lt HG.out he
          have kv := R1r.cD hv
          have b2 := HD.out u hu
          have b3 := HD.out _ hv
          have H1 := Lib.hid R1r
          have HP := Lib.hid P1
          have HX := Lib.hid hx
          clear R1r P1 hx
          have EF := Lib.hid hef
          rw [hef] at ka
          clear hef
          obtain ⟨v, hv1⟩ : ∃ v, v = G.et e := ⟨_, rfl⟩
          rw [← hv1] at kt kv hv b3
          have HV := Lib.hid hv1
          clear hv1
          obtain ⟨x, hx⟩ : ∃ x, x = R1 e := ⟨_, rfl⟩
          have x1 := RS.hi HP.out.rs HG.out he
          rw [← hx] at kr x1
          have HXX := Lib.hid hx
          clear hx
          obtain ⟨du, hdu⟩ : ∃ x, x = D u := ⟨_, rfl⟩
          rw [← hdu] at kd b2
          have HDU := Lib.hid hdu
          clear hdu
          obtain ⟨dv, hdv⟩ : ∃ x, x = D v := ⟨_, rfl⟩
          rw [← hdv] at kv b3
          have HDV := Lib.hid hdv
          clear hdv
          obtain ⟨b21, b22⟩ := b2
          obtain ⟨b31, b32⟩ := b3
          go_upto_region 7 with fail
          by_cases c1 : 0 < x
          · by_cases c2 : dv = du + 1
            · obtain ⟨bd, bd0, bd1, bd2⟩ : ∃ bd : Int, 0 < bd ∧ bd ≤ x ∧ bd ≤ am - p := ⟨min x (am - p), by omega, by omega, by omega⟩
              by_cases c3 : am - p ≤ x
              all_goals
                go_quiet (fail)
                go_wp2_with fail
                refine (IH.out v R1 X1 _ (wr.drewN nq) hv ?k1 (H1.out.drewN _) HP.out.rs HP.out.xok ?k2 ?k3).mono ?_
                rotate_left
                case k1 => have := HDU.out; have := HDV.out; omega
                case k2 => omega
                case k3 => omega
                rintro _ w2 PP
                obtain ⟨pq, R2, X2, rfl, r2, P2, bb⟩ := PP
                have M := Lib.hid (HP.out.went hu he EF.out HX.out (by rw [← HDU.out, ← HV.out, ← HDV.out]; exact c2) (by rw [← HXX.out]; exact c1) (HV.out ▸ P2) (by have := HXX.out; omega) (by omega))
                have W := Lib.hid (went_same he EF.out (by rw [← HDU.out, ← HV.out, ← HDV.out]; exact c2) (HV.out ▸ P2))
                have q0 := P2.p0
                have q1 := P2.p1
                have r0 := RS.hi P2.rs HG.out (bk_lt he)
                have r00 := P2.rs.lo _ (bk_lt he)
                clear P2 k1 k3 k4 k5 k6 k7 kx kd kt kr ka kv
                have m5 := r2.g5
                have me := r2.cR he
                rw [W.out.1, ← HXX.out] at me
                have HXX2 : Hid (x = R2 e) := Lib.hid (by rw [W.out.1]; exact HXX.out)
                have mf := r2.rR.frozen e
                obtain ⟨y, hy⟩ : ∃ y, y = R2 (bk e) := ⟨_, rfl⟩
                rw [← hy] at r0 r00
                have HY := Lib.hid hy
                have H2 := Lib.hid r2
                have B2 := Lib.hid (b1.trans (Below.trans (b_draws (Below.refl B wr) nq) bb))
                clear hy r2 bb
                go_upto_region 10 with fail
                have H3 := Lib.hid (H2.out.setR O.out e (x - pq))
                have B3 := Lib.hid (B2.out.setCell (p := ⟨q.R, e, none⟩) O.out.b.2.2.2.2.1 (Value.int IntKind.i64 (x - pq)))
                clear H2 B2 m5 me mf
                revert H3 B3
                generalize (w2.setCell { block := q.R, off := e } (Value.int IntKind.i64 (x - pq))) = w3
                intro H3 B3
                have m5 := H3.out.g5
                have me := H3.out.cR (bk_lt he)
                rw [upd_far (bk_ne e), ← HY.out] at me
                have mf := H3.out.rR.frozen (bk e)
                have hbe := bk_lt he
                obtain ⟨z, hz⟩ : ∃ z, z = bk e := ⟨_, rfl⟩
                rw [← hz] at me mf hbe
                have HZ := Lib.hid hz
                have BK := Lib.hid (fun W => back_run e W (by omega))
                rw [← hz] at BK
                clear hz
                have i0 : (0 : Int) ≤ (z : Int) := by omega
                have i1 : (z : Int) < 2 * (G.m : Int) := by omega
                have d5 : World.cell? { heap := w3.heap, tape := w3.tape, drawn := w3.drawn + 1, os := w3.os, output := w3.output } ⟨q.g, 5, none⟩ = some (.slice (some ⟨q.R, 0, none⟩) (2 * G.m) (2 * G.m)) := m5
                have de : World.cell? { heap := w3.heap, tape := w3.tape, drawn := w3.drawn + 1, os := w3.os, output := w3.output } ⟨q.R, z, none⟩ = some (.int .i64 y) := me
                go_still_tail 11, (by kernel_rfl)
                still_call (BK.out _)
                repeat still_step
                refine wpStill_nil ?_
                change wpList _ _ _ _ _ w3.drew
                have H4 := Lib.hid H3.out.drew
                have B4 := Lib.hid B3.out.drew
                clear d5 de m5 me mf
                revert H4 B4
                generalize w3.drew = w4
                intro H4 B4
                have me := H4.out.cR hbe
                rw [HZ.out, upd_far (bk_ne e), ← HY.out, ← HZ.out] at me
                have mf := H4.out.rR.frozen z
                go_upto_region 11 with fail
                have H5 := Lib.hid (H4.out.setR O.out z (y + pq))
                rw [upd_bump HXX2.out HY.out HZ.out] at H5
                have B5 := Lib.hid (B4.out.setCell (p := ⟨q.R, z, none⟩) O.out.b.2.2.2.2.1 (Value.int IntKind.i64 (y + pq)))
                clear H4 B4 me mf H3 B3
                revert H5 B5
                generalize (w4.setCell { block := q.R, off := z } (Value.int IntKind.i64 (y + pq))) = w5
                intro H5 B5
                by_cases c4 : p + pq = am
                · go_wp2_with fail
                  go_ret
                  exact ⟨am, _, _, rfl, H5.out, by have Z := M.out.full a0 c4; rw [c4] at Z; exact Z, B5.out⟩
                · have c5 : p + pq < am := by omega
                  go_upto_region 14 with fail
                  have m7 := H5.out.g7
                  have m3 := H5.out.g3
                  have ma := H5.out.cA he
                  rw [EF.out] at ma
                  have mx := H5.out.cX hu
                  have mf := H5.out.rX.frozen u
                  obtain ⟨ll, hl0, hl1, hl2⟩ : ∃ ll, ll = G.lst e u ∧ -1 ≤ ll ∧ ll < e := ⟨_, rfl, lst_lt G e u⟩
                  rw [← hl0] at ma
                  have LL := Lib.hid hl0
                  clear hl0
                  have i2 : (0 : Int) ≤ (e : Int) := by omega
                  have i3 : (e : Int) < 2 * (G.m : Int) := by omega
                  have i4 : (0 : Int) ≤ (u : Int) := by omega
                  have i5 : (u : Int) < (G.N : Int) := by omega
                  have d7 : World.cell? { heap := w5.heap, tape := w5.tape, drawn := w5.drawn + 1, os := w5.os, output := w5.output } ⟨q.g, 7, none⟩ = some (.slice (some ⟨q.X, 0, none⟩) G.N G.N) := m7
                  have d3 : World.cell? { heap := w5.heap, tape := w5.tape, drawn := w5.drawn + 1, os := w5.os, output := w5.output } ⟨q.g, 3, none⟩ = some (.slice (some ⟨q.A, 0, none⟩) (2 * G.m) (2 * G.m)) := m3
                  have da : World.cell? { heap := w5.heap, tape := w5.tape, drawn := w5.drawn + 1, os := w5.os, output := w5.output } ⟨q.A, e, none⟩ = some (.int .i64 ll) := ma
                  go_still_tail 13, (by kernel_rfl)
                  change wpList _ _ _ _ _ w5.drew
                  have H6 := Lib.hid (H5.out.drew.setX O.out u ll)
                  have B6 := Lib.hid (B5.out.drew.setCell (p := ⟨q.X, u, none⟩) O.out.b.2.2.2.2.2.2 (Value.int IntKind.i64 ll))
                  have mx' : w5.drew.cell? ⟨q.X, u, none⟩ = _ := mx
                  have mf' : w5.drew.frozen? ⟨q.X, u, none⟩ = false := mf
                  clear d7 d3 da m7 m3 ma mx mf
                  go_wp2_with fail
                  go_roundw
                  case rel => exact ⟨_, _, _, rfl, H6.out, by rw [LL.out]; exact M.out.next hu he EF.out c4, B6.out⟩
                  case measure => exact lft_lt (by rw [HL.out, HX.out]) (by have := H6.out.cX hu; rw [upd_at] at this; exact this) hl1 hl2
            · have NO : Hid (¬ (0 < R1 e ∧ D (G.et e) = D u + 1)) := Lib.hid (by rw [← HXX.out, ← HV.out, ← HDV.out, ← HDU.out]; omega)
              go_quiet (fail)
              go_wp2_with fail
              have H5 := Lib.hid (H1.out.drewN nq)
              have B5 := Lib.hid (b_draws b1 nq)
              clear k1 k3 k4 k5 k6 k7 kx kd kt kr ka kv b1
              revert H5 B5
              generalize wr.drewN nq = w5
              intro H5 B5
              go_upto_region 14 with fail
              have m7 := H5.out.g7
              have m3 := H5.out.g3
              have ma := H5.out.cA he
              rw [EF.out] at ma
              have mx := H5.out.cX hu
              have mf := H5.out.rX.frozen u
              obtain ⟨ll, hl0, hl1, hl2⟩ : ∃ ll, ll = G.lst e u ∧ -1 ≤ ll ∧ ll < e := ⟨_, rfl, lst_lt G e u⟩
              rw [← hl0] at ma
              have LL := Lib.hid hl0
              clear hl0
              have i2 : (0 : Int) ≤ (e : Int) := by omega
              have i3 : (e : Int) < 2 * (G.m : Int) := by omega
              have i4 : (0 : Int) ≤ (u : Int) := by omega
              have i5 : (u : Int) < (G.N : Int) := by omega
              have d7 : World.cell? { heap := w5.heap, tape := w5.tape, drawn := w5.drawn + 1, os := w5.os, output := w5.output } ⟨q.g, 7, none⟩ = some (.slice (some ⟨q.X, 0, none⟩) G.N G.N) := m7
              have d3 : World.cell? { heap := w5.heap, tape := w5.tape, drawn := w5.drawn + 1, os := w5.os, output := w5.output } ⟨q.g, 3, none⟩ = some (.slice (some ⟨q.A, 0, none⟩) (2 * G.m) (2 * G.m)) := m3
              have da : World.cell? { heap := w5.heap, tape := w5.tape, drawn := w5.drawn + 1, os := w5.os, output := w5.output } ⟨q.A, e, none⟩ = some (.int .i64 ll) := ma
              go_still_tail 13, (by kernel_rfl)
              change wpList _ _ _ _ _ w5.drew
              have H6 := Lib.hid (H5.out.drew.setX O.out u ll)
              have B6 := Lib.hid (B5.out.drew.setCell (p := ⟨q.X, u, none⟩) O.out.b.2.2.2.2.2.2 (Value.int IntKind.i64 ll))
              have mx' : w5.drew.cell? ⟨q.X, u, none⟩ = _ := mx
              have mf' : w5.drew.frozen? ⟨q.X, u, none⟩ = false := mf
              clear d7 d3 da m7 m3 ma mx mf
              go_wp2_with fail
              go_roundw
              case rel => exact ⟨_, _, _, rfl, H6.out, by rw [LL.out]; exact HP.out.pass he EF.out HX.out NO.out, B6.out⟩
              case measure => exact lft_lt (by rw [HL.out, HX.out]) (by have := H6.out.cX hu; rw [upd_at] at this; exact this) hl1 hl2
          · have NO : Hid (¬ (0 < R1 e ∧ D (G.et e) = D u + 1)) := Lib.hid (by rw [← HXX.out, ← HV.out, ← HDV.out, ← HDU.out]; omega)
            go_quiet (fail)
            go_wp2_with fail
            have H5 := Lib.hid (H1.out.drewN nq)
            have B5 := Lib.hid (b_draws b1 nq)
            clear k1 k3 k4 k5 k6 k7 kx kd kt kr ka kv b1
            revert H5 B5
            generalize wr.drewN nq = w5
            intro H5 B5
            go_upto_region 14 with fail
            have m7 := H5.out.g7
            have m3 := H5.out.g3
            have ma := H5.out.cA he
            rw [EF.out] at ma
            have mx := H5.out.cX hu
            have mf := H5.out.rX.frozen u
            obtain ⟨ll, hl0, hl1, hl2⟩ : ∃ ll, ll = G.lst e u ∧ -1 ≤ ll ∧ ll < e := ⟨_, rfl, lst_lt G e u⟩
            rw [← hl0] at ma
            have LL := Lib.hid hl0
            clear hl0
            have i2 : (0 : Int) ≤ (e : Int) := by omega
            have i3 : (e : Int) < 2 * (G.m : Int) := by omega
            have i4 : (0 : Int) ≤ (u : Int) := by omega
            have i5 : (u : Int) < (G.N : Int) := by omega
            have d7 : World.cell? { heap := w5.heap, tape := w5.tape, drawn := w5.drawn + 1, os := w5.os, output := w5.output } ⟨q.g, 7, none⟩ = some (.slice (some ⟨q.X, 0, none⟩) G.N G.N) := m7
            have d3 : World.cell? { heap := w5.heap, tape := w5.tape, drawn := w5.drawn + 1, os := w5.os, output := w5.output } ⟨q.g, 3, none⟩ = some (.slice (some ⟨q.A, 0, none⟩) (2 * G.m) (2 * G.m)) := m3
            have da : World.cell? { heap := w5.heap, tape := w5.tape, drawn := w5.drawn + 1, os := w5.os, output := w5.output } ⟨q.A, e, none⟩ = some (.int .i64 ll) := ma
            go_still_tail 13, (by kernel_rfl)
            change wpList _ _ _ _ _ w5.drew
            have H6 := Lib.hid (H5.out.drew.setX O.out u ll)
            have B6 := Lib.hid (B5.out.drew.setCell (p := ⟨q.X, u, none⟩) O.out.b.2.2.2.2.2.2 (Value.int IntKind.i64 ll))
            have mx' : w5.drew.cell? ⟨q.X, u, none⟩ = _ := mx
            have mf' : w5.drew.frozen? ⟨q.X, u, none⟩ = false := mf
            clear d7 d3 da m7 m3 ma mx mf
            go_wp2_with fail
            go_roundw
            case rel => exact ⟨_, _, _, rfl, H6.out, by rw [LL.out]; exact HP.out.pass he EF.out HX.out NO.out, B6.out⟩
            case measure => exact lft_lt (by rw [HL.out, HX.out]) (by have := H6.out.cX hu; rw [upd_at] at this; exact this) hl1 hl2
end Go.Proofs.Ytjkempammohkaaa
