/-
  The search in breadth: the walk.
-/
import Derived.Test.YtjkempammohkaaaFlF
import Derived.Test.YtjkempammohkaaaFlQ
import Derived.Test.YtjkempammohkaaaFlS
import Derived.WalkMore
import Derived.Deep.LoopGhost
namespace Go.Proofs.Ytjkempammohkaaa
open Go.RowKit
open IntWalk
open Fl
set_option linter.unusedVariables false

def nv (x : Nat) : Value := .int .i64 (x : Int)
/-- What a search returns and leaves. -/
def SearchPost (B : Nat) (q : Bl) (G : Nt) (s t : Nat) (R X : Nat → Int) (w : World) (e : Ending) (w' : World) : Prop :=
  ∃ D : Nat → Int, e = .returned (.bool (D t != -1)) ∧ Res w' q G s t R D X ∧ Dst G s R D ∧ (D t = -1 → ∀ e, e < 2 * G.m → D (G.ef e) ≠ -1 → 0 < R e → D (G.et e) ≠ -1) ∧ Below B w w'
def OutHd (B : Nat) (q : Bl) (G : Nt) (s t : Nat) (R X : Nat → Int) (w : World) (gk : Nat) (qv : Value) (wr : World) : Prop :=
  ∃ (D : Nat → Int) (Q : List Nat) (u : Nat), Res wr q G s t R D X ∧ Bfs G s t R D Q u (-1) ∧ QueV wr w.heap.size 3 qv (Q.map nv) ∧ G.N - mk D G.N + Q.length ≤ gk ∧ G.N - mk D G.N + Q.length ≤ G.N ∧ Below B w wr ∧ w.heap.size ≤ wr.heap.size
def InHd (B : Nat) (q : Bl) (G : Nt) (s t : Nat) (R X : Nat → Int) (w : World) (u g : Nat) (gk : Nat) (qv ev : Value) (wr : World) : Prop :=
  ∃ (D : Nat → Int) (Q : List Nat) (c : Int), ev = .int .i64 c ∧ (c = -1 ∨ ∃ e : Nat, e < 2 * G.m ∧ c = e ∧ G.ef e = u) ∧ Res wr q G s t R D X ∧ Bfs G s t R D Q u c ∧ QueV wr w.heap.size 3 qv (Q.map nv) ∧ G.N - mk D G.N + Q.length ≤ g ∧ G.N - mk D G.N + Q.length ≤ G.N ∧
    (c + 1).toNat ≤ gk ∧ D u ≠ -1 ∧ Below B w wr ∧ w.heap.size ≤ wr.heap.size

theorem app_res {w w3 w5 : World} {o : Obj} {q : Bl} {G : Nt} {s t g1 o1 n c : Nat} {R D X : Nat → Int} (h : Res w3 q G s t R D X) (sz : q.g < w.heap.size ∧ q.F < w.heap.size ∧ q.A < w.heap.size ∧ q.T < w.heap.size ∧ q.R < w.heap.size ∧ q.D < w.heap.size ∧ q.X < w.heap.size) (hg : w.heap.size ≤ g1)
    (g : (w3.alloc o).grownBy w5 (Value.ownBlock (.slice (some ⟨g1, o1, none⟩) n c))) : Res w5 q G s t R D X :=
  h.kept fun b h1 h2 => (g.block b (by simp; omega) (fun e => by
    have e' : b = g1 := by simpa [Value.ownBlock] using e
    obtain ⟨a1, a2, a3, a4, a5, a6, a7⟩ := sz
    rcases h2 with x | x | x | x | x | x | x <;> omega)).trans (Below.heap_alloc w3 _ b h1)
theorem app_below {B : Nat} {w w3 w5 : World} {o : Obj} {g1 o1 n c : Nat} (h : Below B w w3) (hB : B ≤ w.heap.size) (hz : w.heap.size ≤ w3.heap.size) (hg : w.heap.size ≤ g1)
    (g : (w3.alloc o).grownBy w5 (Value.ownBlock (.slice (some ⟨g1, o1, none⟩) n c))) : Below B w w5 :=
  (h.alloc (by omega) o).grown g (by simp; omega) (fun k hk => by
    have e' : g1 = k := by simpa [Value.ownBlock] using hk
    omega)

set_option maxHeartbeats 4000000 in
set_option maxRecDepth 100000 in
theorem search_run {B : Nat} {q : Bl} (o : q.Ok B) {G : Nt} (hG : G.Ok) (hm : G.m ≤ 10000) (hN : G.N ≤ 10000) {s t : Nat} (hs : s < G.N) (ht : t < G.N) (hst : s ≠ t) {R D X : Nat → Int} {w : World} (hR : Res w q G s t R D X) (rs : RS G R) :
    Calls Try.prog 37 #[.pointer (some ⟨q.g, 0, none⟩)] w (SearchPost B q G s t R X w) := by
  obtain ⟨i0, hi, hz0, hz1, hz2⟩ := info_parts (show (Try.prog.info? 3).map (fun i => (i.zero, i.size, i.bytes)) = some (some (.int .i64 0), 1, 8) by kernel_rfl)
  have O := Lib.hid o
  have HG := Lib.hid hG
  have HR := Lib.hid hR
  have RS0 := Lib.hid rs
  have HST := Lib.hid hst
  have k6 := hR.g6
  have FI := Lib.hid (fill_run q.D G.N (iv D) (-1) w (by omega) hR.rD)
  clear o hG hR rs hst
  go_enter Try.func37, Try.ntmps37
  go_wp2_with fail
  go_step3
  go_wp2_with fail
  refine FI.out.mono ?_
  rintro _ w1 ⟨rfl, f1, f2⟩
  have H1 : Hid (Res w1 q G s t R (fun _ => -1) X) := Lib.hid (by
    obtain ⟨hd, rF, rA, rT, rR, rD, rX⟩ := HR.out
    have O := O.out
    exact ⟨(f2.block _ O.g.2.2.2.2.1).trans hd, rF.of_block (f2.block _ O.F.2.2.2.1), rA.of_block (f2.block _ O.A.2.2.1), rT.of_block (f2.block _ O.T.2.1), rR.of_block (f2.block _ O.R.1), f1, rX.of_block (f2.block _ (Ne.symm O.D))⟩)
  have B1 := Lib.hid (f2.below O.out.b.2.2.2.2.2.1)
  have z1 : w1.heap.size = w.heap.size := f2.size
  have Z1 := Lib.hid z1
  clear f1 f2 k6 z1
  have k6 := H1.out.g6
  have k0 := H1.out.g0
  have kd := H1.out.cD hs
  have kf := H1.out.rD.frozen s
  have i4 : (0 : Int) ≤ (s : Int) := by omega
  have i5 : (s : Int) < (G.N : Int) := by omega
  have d6 : World.cell? { heap := w1.heap, tape := w1.tape, drawn := w1.drawn + 1, os := w1.os, output := w1.output } ⟨q.g, 6, none⟩ = some (.slice (some ⟨q.D, 0, none⟩) G.N G.N) := k6
  have d0 : World.cell? { heap := w1.heap, tape := w1.tape, drawn := w1.drawn + 1, os := w1.os, output := w1.output } ⟨q.g, 0, none⟩ = some (.int .i64 (s : Int)) := k0
  go_wp2_with fail
  go_still_tail 9, (by kernel_rfl)
  change wpList _ _ _ _ _ w1.drew
  have kd' : w1.drew.cell? ⟨q.D, s, none⟩ = _ := kd
  have kf' : w1.drew.frozen? ⟨q.D, s, none⟩ = false := kf
  have H2 := Lib.hid (H1.out.setD O.out s 0).drew
  have B2 := Lib.hid (B1.out.setCell (p := ⟨q.D, s, none⟩) O.out.b.2.2.2.2.2.1 (Value.int IntKind.i64 0)).drew
  have Z2 : Hid (((w1.setCell { block := q.D, off := s } (Value.int IntKind.i64 0)).drew).heap.size = w.heap.size) := Lib.hid (by simp; exact Z1.out)
  clear d6 d0 k6 k0 kd kf
  go_upto_region 3 with fail
  clear kd' kf'
  revert H2 B2 Z2
  generalize ((w1.setCell { block := q.D, off := s } (Value.int IntKind.i64 0)).drew) = w2
  intro H2 B2 Z2
  have k0 := H2.out.g0
  go_wp2_with fail
  go_step3
  go_wp2_with fail
  have S0 := bfs_start (R := R) hs ht HST.out
  have A0 : Hid (OutHd B q G s t R X w G.N (.slice (some ⟨w2.heap.size, 0, none⟩) 1 1) (w2.alloc (.cells #[.int .i64 (s : Int)] 3))) := Lib.hid (by
    refine ⟨_, [s], s, H2.out.alloc _, S0, QueV.new w2 _ _ _ (by rw [Z2.out]; exact Nat.le_refl _) _ rfl, ?_, ?_, B2.out.alloc (by have := B2.out.size; have := O.out.b; have := HR.out.size; omega) _, by rw [← Z2.out]; simp⟩
    · have := mk_pos hs (D := upd (fun _ => (-1 : Int)) s 0) (by rw [upd_at]; decide)
      simp; omega
    · have := mk_pos hs (D := upd (fun _ => (-1 : Int)) s 0) (by rw [upd_at]; decide)
      simp; omega)
  have BW : Hid (B ≤ w.heap.size) := Lib.hid (by have := O.out.b; have := HR.out.size; omega)
  have SZ := Lib.hid HR.out.size
  clear H1 B1 Z1 H2 B2 Z2 k0 FI HR S0
  go_loopg [3] G.N (fun gk qv wr => OutHd B q G s t R X w gk qv wr)
  case atStart => exact A0.out
  case round =>
    clear A0
    obtain ⟨D, Q, u0, hR, hB, hQ, m1, m2, b1, z1⟩ := hrel
    have H1 := Lib.hid hR
    have F1 := Lib.hid hB
    have Q1 := Lib.hid hQ
    have B1 := Lib.hid b1
    clear hR hB b1
    cases Q with
    | nil =>
      obtain ⟨g, off, cap, rfl, c1, c2, c3⟩ := hQ.form
      have HF := H1
      have ND := Lib.hid F1.out.tn
      clear hQ
      simp only [List.map_nil, List.length_nil]
      have k6 := HF.out.g6
      have k1 := HF.out.g1
      have kd := HF.out.cD ht
      have i6 : (0 : Int) ≤ (t : Int) := by omega
      have i7 : (t : Int) < (G.N : Int) := by omega
      go_wp2_with fail
      go_quiet (fail)
      go_wp2_with fail
      try rw [Exit.noGoto_ret]
      go_ret
      exact ⟨D, rfl, H1.out.drewN _, F1.out.dst, fun _ => F1.out.closed, B1.out.trans (b_draws (Below.refl B wr) _)⟩
    | cons u Q =>
      obtain ⟨g, off, cap, rfl, c1, c2, c3⟩ := hQ.form
      simp only [List.map_cons, List.length_cons, List.length_map] at c1 ⊢ hQ
      have kq := hQ.head
      unfold nv at kq
      obtain ⟨hu, hum⟩ := F1.out.q u (List.mem_cons_self ..)
      have k2 := H1.out.g2
      have kf := H1.out.cF hu
      simp only [List.length_cons] at m1 m2
      have FB := Lib.hid F1.out.begin_
      have HUM := Lib.hid hum
      clear hQ hum F1
      unfold maxLen at c2
      obtain ⟨wo, rfl⟩ : ∃ wo : World, wo = wr := ⟨_, rfl⟩
      obtain ⟨gg, rfl⟩ : ∃ gg : Nat, gg = gk := ⟨_, rfl⟩
      have ST : Hid (∀ (off' n' c' : Nat), (off' = off + 1 ∨ (cap = 1 ∧ off' = off)) → n' = Q.length → c' = cap - 1 →
          InHd B q G s t R X w u (Q.length + (G.N - mk D G.N)) (G.lst (2 * G.m) u + 1).toNat (.slice (some ⟨g, off', none⟩) n' c') (.int .i64 (G.lst (2 * G.m) u)) wo) := Lib.hid (fun off' n' c' h1 h2 h3 =>
        ⟨D, Q, _, rfl, lst_is G _ u, H1.out, FB.out, Q1.out.cut off' h1 n' c' (by rw [List.length_map]; exact h2) h3, by omega, by omega, Nat.le_refl _, HUM.out, B1.out, z1⟩)
      have GG : Hid (Q.length + (G.N - mk D G.N) < gg) := Lib.hid (by omega)
      have NB : Hid (Q.length + (G.N - mk D G.N) ≤ G.N) := Lib.hid (by omega)
      generalize Q.length + (G.N - mk D G.N) = nq at ST GG NB
      clear FB HUM H1 Q1 B1 m1 m2
      rcases (by omega : cap = 1 ∨ 1 < cap) with hcap | hcap2
      all_goals
        first
        | (have hl0 : Q.length = 0 := by omega
           have ST2 := Lib.hid (ST.out off 0 0 (.inr ⟨hcap, rfl⟩) hl0.symm (by omega))
           clear ST
           subst hcap
           rw [hl0]
           clear hl0
           go_wp2_with fail
           have ST := ST2)
        | (go_wp2_with fail
           have ST2 := Lib.hid (ST.out (off + 1) Q.length (cap - 1) (.inl rfl) rfl rfl))
      all_goals
        clear ST k2 kf kq c1 c2
        go_loopg [3, 5] (G.lst (2 * G.m) u + 1).toNat (fun gk qv ev wx => InHd B q G s t R X w u nq gk qv ev wx)
        case atStart => exact ST2.out
        case round =>
          clear ST2
          obtain ⟨D1, Q1, c, rfl, hc, hR, hB, hQ, n1, n2, n3, hum, b1, z2⟩ := hrel
          have H1 := Lib.hid hR
          have F1 := Lib.hid hB
          have Q1V := Lib.hid hQ
          have B1 := Lib.hid b1
          have HUM := Lib.hid hum
          clear hR hB hQ b1 hum
          rcases hc with rfl | ⟨e, he, rfl, hef⟩
          · go_wp2_with fail
            go_roundg (G.N - mk D1 G.N + Q1.length)
            case measure => have := GG.out; omega
            case rel => exact ⟨D1, Q1, u, H1.out, F1.out, Q1V.out, Nat.le_refl _, n2, B1.out, z2⟩
          · have k3 := H1.out.g3
            have k4 := H1.out.g4
            have k5 := H1.out.g5
            have k6 := H1.out.g6
            have kt := H1.out.cT he
            have kr := H1.out.cR he
            have ka := H1.out.cA he
            have hv := et_lt HG.out he
            have kv := H1.out.cD hv
            have ku := H1.out.cD hu
            rw [hef] at ka
            have EF := Lib.hid hef
            clear hef
            obtain ⟨ll, hl0, hl1, hl2⟩ : ∃ ll, ll = G.lst e u ∧ -1 ≤ ll ∧ ll < e := ⟨_, rfl, lst_lt G e u⟩
            rw [← hl0] at ka
            have LL := Lib.hid hl0
            clear hl0
            obtain ⟨v, hv1⟩ : ∃ v, v = G.et e := ⟨_, rfl⟩
            rw [← hv1] at kt kv hv
            have HV := Lib.hid hv1
            clear hv1
            by_cases r0 : R e = 0
            · rw [r0] at kr
              have NO := Lib.hid r0
              clear r0 kv ku
              go_wp2_with fail
              go_roundg (ll + 1).toNat
              case measure => omega
              case rel => exact ⟨D1, Q1, ll, rfl, by rw [LL.out]; rcases lst_is G e u with a | ⟨x, a1, a2, a3⟩; exact .inl a; exact .inr ⟨x, by omega, a2, a3⟩, H1.out, by rw [LL.out]; exact F1.out.pass EF.out (.inl (by have := NO.out; omega)), Q1V.out, n1, n2, Nat.le_refl _, HUM.out, B1.out, z2⟩
            · have r1 : 0 < R e := by have := RS0.out.lo e he; omega
              have HR1 := Lib.hid r1
              have x0 : (R e == 0) = false := by simpa using r0
              obtain ⟨x, hx⟩ : ∃ x, x = R e := ⟨_, rfl⟩
              rw [← hx] at kr x0
              clear r0 r1 hx
              by_cases v0 : D1 v = -1
              · rw [v0] at kv
                have V0 := Lib.hid v0
                have hd := (F1.out.dst.dv u hu).resolve_left HUM.out
                have hd2 := mk_le D1 G.N
                obtain ⟨du, hdu⟩ : ∃ du, du = D1 u := ⟨_, rfl⟩
                rw [← hdu] at ku hd
                have DU := Lib.hid hdu
                obtain ⟨hd0, hd1⟩ := hd
                have hd3 : du ≤ 10000 := by omega
                clear v0 hdu hd1 hd2
                obtain ⟨g1, o1, c1, rfl, cc1, cc2, cc3⟩ := Q1V.out.form
                rw [List.length_map] at cc1 ⊢
                have i4 : (0 : Int) ≤ (v : Int) := by omega
                have i5 : (v : Int) < (G.N : Int) := by omega
                have i6 : (0 : Int) ≤ (u : Int) := by omega
                have i7 : (u : Int) < (G.N : Int) := by omega
                have kf := H1.out.rD.frozen v
                go_upto_region 12 with fail
                have d6 : World.cell? { heap := wr.heap, tape := wr.tape, drawn := wr.drawn + 1, os := wr.os, output := wr.output } ⟨q.g, 6, none⟩ = some (.slice (some ⟨q.D, 0, none⟩) G.N G.N) := k6
                have du6 : World.cell? { heap := wr.heap, tape := wr.tape, drawn := wr.drawn + 1, os := wr.os, output := wr.output } ⟨q.D, u, none⟩ = some (.int .i64 du) := ku
                have wd : IntKind.i64.wrap (du + 1) = du + 1 := IntWalk.i64_in _ (by omega)
                go_still_tail 14, (by kernel_rfl)
                change wpList _ _ _ _ _ wr.drew
                clear wd
                have kv' : wr.drew.cell? ⟨q.D, v, none⟩ = _ := kv
                have kf' : wr.drew.frozen? ⟨q.D, v, none⟩ = false := kf
                have H3 := Lib.hid (H1.out.setD O.out v (du + 1)).drew
                have B3 := Lib.hid (B1.out.setCell (p := ⟨q.D, v, none⟩) O.out.b.2.2.2.2.2.1 (Value.int IntKind.i64 (du + 1))).drew
                have Q3 : Hid (QueV ((wr.setCell ⟨q.D, v, none⟩ (Value.int IntKind.i64 (du + 1))).drew) w.heap.size 3 (.slice (some ⟨g1, o1, none⟩) Q1.length c1) (Q1.map nv)) := Lib.hid (by
                  have a := Q1V.out
                  rw [List.length_map] at a
                  exact a.kept fun b h1 h2 => Go.Deep.blk_setCell_other _ _ _ _ (by have := SZ.out.2.2.2.2.2.1; show b ≠ q.D; omega))
                have Z3 : Hid (w.heap.size ≤ ((wr.setCell ⟨q.D, v, none⟩ (Value.int IntKind.i64 (du + 1))).drew).heap.size) := Lib.hid (by simp; omega)
                go_upto_region 13 with fail
                clear d6 du6 kv' kf' kv kf ku k3 k4 k5 k6 kt kr ka H1 B1 Q1V
                revert H3 B3 Q3 Z3
                generalize ((wr.setCell { block := q.D, off := v } (Value.int IntKind.i64 (du + 1))).drew) = w3
                intro H3 B3 Q3 Z3
                have k1 := H3.out.g1
                by_cases vt : v = t
                · have DM : Hid (Dst G s R (upd D1 v (du + 1))) := Lib.hid (by rw [HV.out, DU.out, ← EF.out]; exact F1.out.dst.mark HG.out he (by rw [EF.out]; exact HUM.out) HR1.out (by rw [← HV.out]; exact V0.out))
                  have vt' := vt.symm
                  clear vt
                  subst vt'
                  have HF := H3
                  have k6 := HF.out.g6
                  have kd := HF.out.cD ht
                  have i6 : (0 : Int) ≤ (t : Int) := by omega
                  have i7 : (t : Int) < (G.N : Int) := by omega
                  go_wp2_with fail
                  go_quiet (fail)
                  go_wp2_with fail
                  try rw [Exit.noGoto_ret]
                  go_ret
                  exact ⟨_, rfl, H3.out.drewN _, DM.out, fun a => by rw [upd_at] at a; omega, B3.out.trans (b_draws (Below.refl B w3) _)⟩
                · have vt2 : ((v : Int) == (t : Int)) = false := by rw [beq_eq_false_iff_ne]; omega
                  have k3 := H3.out.g3
                  have ka := H3.out.cA he
                  rw [EF.out, ← LL.out] at ka
                  have VT := Lib.hid vt
                  clear vt
                  have mu : Hid (mk (upd D1 v (du + 1)) G.N = mk D1 G.N + 1) := Lib.hid (mk_upd hv V0.out (by omega))
                  have ml : Hid (mk D1 G.N < G.N) := Lib.hid (mk_lt hv V0.out)
                  have N5 : Hid (G.N - mk (upd D1 v (du + 1)) G.N + (Q1 ++ [v]).length ≤ nq ∧ G.N - mk (upd D1 v (du + 1)) G.N + (Q1 ++ [v]).length ≤ G.N) := Lib.hid (by rw [mu.out, List.length_append]; have := ml.out; simp; omega)
                  have F5 : Hid (Bfs G s t R (upd D1 v (du + 1)) (Q1 ++ [v]) u (G.lst e u)) := Lib.hid (by rw [HV.out, DU.out]; exact F1.out.mark HG.out he EF.out HUM.out HR1.out (by rw [← HV.out]; exact V0.out) (by rw [← HV.out]; exact VT.out))
                  have ql : Q1.length ≤ 10000 := by omega
                  go_upto_region 14 with fail
                  clear k1 k3 ka
                  go_wp2_with (at_builtin; refine wpList_append_que _ rfl _ _ 30 rfl w.heap.size 3 i0 (.int .i64 0) 8 Try.underlying30 hi hz0 hz1 hz2 rfl _ (Q1.map nv) (by rfl) (Q3.out.kept fun b h1 h2 => Below.heap_alloc _ _ _ h2) (fun x hx => by obtain ⟨y, _, rfl⟩ := List.mem_map.1 hx; rfl) ⟨w3.heap.size, 0, none⟩ 1 (nv v) (by rfl) (by simp [nv]) rfl (by rw [List.length_map]; omega) (by rw [List.length_map]; unfold maxLen; omega) (by have := Z3.out; simp; omega) ?_; intro g2 o2 c2 w5 q5 hg5; have R5 : Hid (Res w5 q G s t R (upd D1 v (du + 1)) X) := Lib.hid (app_res H3.out SZ.out cc3 hg5); have k3 := R5.out.g3; have ka := R5.out.cA he; rw [EF.out, ← LL.out] at ka)
                  have B5 := Lib.hid (app_below B3.out BW.out Z3.out cc3 hg5)
                  have Z5 : Hid (w.heap.size ≤ w5.heap.size) := Lib.hid (Nat.le_trans Z3.out (Nat.le_trans (by simp) hg5.size))
                  go_roundg (ll + 1).toNat
                  case measure => omega
                  case rel => exact ⟨_, _, ll, rfl, by rw [LL.out]; rcases lst_is G e u with a | ⟨x, a1, a2, a3⟩; exact .inl a; exact .inr ⟨x, by omega, a2, a3⟩, R5.out, by rw [LL.out]; exact F5.out, by rw [List.map_append]; rw [List.length_map] at q5; exact q5, N5.out.1, N5.out.2, Nat.le_refl _, by rw [upd_far (fun a => HUM.out (by rw [a]; exact V0.out))]; exact HUM.out, B5.out, Z5.out⟩
              · have y0 : (D1 v != -1) = true := by simpa using v0
                have V0 := Lib.hid v0
                obtain ⟨y, hy⟩ : ∃ y, y = D1 v := ⟨_, rfl⟩
                rw [← hy] at kv y0
                clear v0 hy ku
                go_wp2_with fail
                go_roundg (ll + 1).toNat
                case measure => omega
                case rel => exact ⟨D1, Q1, ll, rfl, by rw [LL.out]; rcases lst_is G e u with a | ⟨x, a1, a2, a3⟩; exact .inl a; exact .inr ⟨x, by omega, a2, a3⟩, H1.out, by rw [LL.out]; exact F1.out.pass EF.out (.inr (by rw [← HV.out]; exact V0.out)), Q1V.out, n1, n2, Nat.le_refl _, HUM.out, B1.out, z2⟩
end Go.Proofs.Ytjkempammohkaaa
