/-
  The reference's Split, where nothing is wrong.
-/
import Derived.Test.YtjjhdbodjcffaaaDoorMonAO
import Derived.Deep.RegionHeld3
namespace Go.Proofs.YtjjhdbodjcffaaaDoor
open Go.RowKit
open IntWalk
set_option linter.unusedVariables false

theorem b_q {n : Nat} {w X : World} (q : Nat) (h : Below n w X) : Below n w (X.drewN q) := b_draws h q
theorem Tryd.boolInfo : (Tryd.prog.info? 4).map (fun i => (i.zero, i.size, i.bytes)) = some (some (.bool false), 1, 1) := by kernel_rfl
theorem make_bools (n : Nat) (h : n ≤ 2000000) (W : World) : (Instr.makeSlice 59 (.int .i64 (n : Int)) (.int .i64 (n : Int))).run Tryd.prog W = .ok (.slice (some ⟨W.heap.size, 0, none⟩) n n) (W.alloc (.cells ((List.replicate n (Value.bool false)).toArray) 4)) := by
  obtain ⟨i0, hi, hz0, hz1, hz2⟩ := info_parts Tryd.boolInfo
  have hr := run_make (P := Tryd.prog) W 59 4 i0 (.bool false) Tryd.underlying59 hi hz0 .i64 .i64 n n (by omega) (by omega) (by rw [hz2]; omega) (by omega)
  rw [hz1, Int.toNat_natCast, Nat.mul_one] at hr
  have e : madeCells (Value.bool false).cells n = (List.replicate n (Value.bool false)).toArray := Array.toList_inj.1 (toList_madeCells_one _ n)
  rw [e] at hr
  exact hr
/-- A row of flags. -/
def Flg (w : World) (g : Nat) (n : Nat) (f : Nat → Bool) : Prop := w.heap[g]? = some (.cells (((List.range n).map (fun i => Value.bool (f i))).toArray) 4 (0, 0))
theorem Flg.at_ {w : World} {g n : Nat} {f : Nat → Bool} (h : Flg w g n f) (i : Nat) (hi : i < n) : w.cell? ⟨g, i, none⟩ = some (.bool (f i)) := by
  rw [cell_of_row w g i _ _ (0, 0) h]; simp [hi]
theorem Flg.free {w : World} {g n : Nat} {f : Nat → Bool} (h : Flg w g n f) (i : Nat) : w.frozen? ⟨g, i, none⟩ = false := by
  unfold Flg at h
  simp [World.frozen?, h]
theorem Flg.put {w : World} {g n : Nat} {f f' : Nat → Bool} (h : Flg w g n f) (m : Nat) (hf : ∀ i, i < n → f' i = if i = m then true else f i) : Flg (w.setCell ⟨g, m, none⟩ (.bool true)) g n f' := by
  have e : (((List.range n).map (fun i => Value.bool (f i))).set m (.bool true)) = (List.range n).map (fun i => Value.bool (f' i)) := by
    apply List.ext_getElem
    · simp
    · intro i h1 h2
      have hi : i < n := by simpa using h2
      rw [List.getElem_set]
      simp only [List.getElem_map, List.getElem_range]
      rw [hf i hi]
      by_cases c : m = i
      · subst c; simp
      · rw [if_neg c, if_neg (fun e => c e.symm)]
  unfold Flg at h ⊢
  rw [← e]
  simp only [World.setCell, Array.getElem?_modify, h]
  simp
theorem Flg.far {w : World} {g n : Nat} {f : Nat → Bool} (h : Flg w g n f) {p : Addr} (hp : g ≠ p.block) (u : Value) : Flg (w.setCell p u) g n f := (Below.heap_setCell w p u g hp).trans h
theorem Flg.low {w : World} {g n : Nat} {f : Nat → Bool} (h : Flg w g n f) : g < w.heap.size := (Array.getElem?_eq_some_iff.1 h).1
theorem OwnK.free {w : World} {base g n cap : Nat} {t : TypeId} {k : IntKind} {l : List Int} (h : OwnK w base t k (.slice (some ⟨g, 0, none⟩) n cap) l) (i : Nat) : w.frozen? ⟨g, i, none⟩ = false := by
  rcases h.2 with ⟨e, _⟩ | ⟨g', cap', cur, e, _, hh, _⟩
  · cases e
  · injection e with e1 _ _
    injection e1 with e1
    injection e1 with e1
    subst e1
    simp [World.frozen?, hh]
/-- The memory of the reference's Split while it hands out what is left. -/
structure Thr (w0 : World) (n g1 c1 g2 c2 g3 : Nat) (l1 l2 : List Int) (f : Nat → Bool) (w : World) : Prop where
  t : Two w0 45 .u64 45 .u64 (.slice (some ⟨g1, 0, none⟩) n c1) l1 (.slice (some ⟨g2, 0, none⟩) n c2) l2 w
  fl : Flg w g3 n f
  b3 : w0.heap.size ≤ g3
  n1 : g3 ≠ g1
  n2 : g3 ≠ g2
theorem Thr.draws {w0 : World} {n g1 c1 g2 c2 g3 : Nat} {l1 l2 : List Int} {f : Nat → Bool} {w : World} (h : Thr w0 n g1 c1 g2 c2 g3 l1 l2 f w) (q : Nat) : Thr w0 n g1 c1 g2 c2 g3 l1 l2 f (w.drewN q) :=
  ⟨h.t.below (b_q q (Below.refl _ _)), h.fl, h.b3, h.n1, h.n2⟩
theorem Thr.put {w0 : World} {n g1 c1 g2 c2 g3 : Nat} {l1 l2 : List Int} {f f' : Nat → Bool} {w : World} (h : Thr w0 n g1 c1 g2 c2 g3 l1 l2 f w) (hl : l1.length = n) (m : Nat) (x : Int) (hf : ∀ i, i < n → f' i = if i = m then true else f i) :
    Thr w0 n g1 c1 g2 c2 g3 (l1.set m x) l2 f' ((w.setCell ⟨g3, m, none⟩ (.bool true)).setCell ⟨g1, m, none⟩ (.int .u64 x)) := by
  have n12 : g1 ≠ g2 := fun e => h.t.ap g1 rfl (by rw [e]; rfl)
  have low1 := h.t.one.low g1 rfl
  have o1 : OwnK (w.setCell ⟨g3, m, none⟩ (.bool true)) w0.heap.size 45 .u64 (.slice (some ⟨g1, 0, none⟩) n c1) l1 := h.t.one.block fun g _ e => Below.heap_setCell _ _ _ _ (by have : g1 = g := Option.some.inj e; subst this; exact fun e => h.n1 e.symm)
  have o2 : OwnK ((w.setCell ⟨g3, m, none⟩ (.bool true)).setCell ⟨g1, m, none⟩ (.int .u64 x)) w0.heap.size 45 .u64 (.slice (some ⟨g2, 0, none⟩) n c2) l2 := h.t.two.block fun g _ e => by
    have : g2 = g := Option.some.inj e
    subst this
    rw [Below.heap_setCell _ _ _ _ (by exact fun e => n12 e.symm), Below.heap_setCell _ _ _ _ (by exact fun e => h.n2 e.symm)]
  subst hl
  have o1' := o1.put m x
  rw [List.length_set] at o1'
  refine ⟨⟨o1', o2, h.t.ap, ?_⟩, (h.fl.put m hf).far (by exact h.n1) _, h.b3, h.n1, h.n2⟩
  exact (h.t.b.setCell (p := ⟨g3, m, none⟩) h.b3 _).setCell (p := ⟨g1, m, none⟩) low1.1 _
theorem Thr.start {w0 w : World} {n g1 c1 g2 c2 : Nat} {l1 l2 : List Int} (h : Two w0 45 .u64 45 .u64 (.slice (some ⟨g1, 0, none⟩) n c1) l1 (.slice (some ⟨g2, 0, none⟩) n c2) l2 w) (f : Nat → Bool) (hf : ∀ i, i < n → f i = false) :
    Thr w0 n g1 c1 g2 c2 w.heap.size l1 l2 f (w.alloc (.cells ((List.replicate n (Value.bool false)).toArray) 4)) := by
  have l1' := (h.one.low g1 rfl).2
  have l2' := (h.two.low g2 rfl).2
  refine ⟨h.below ((Below.refl _ _).alloc (Nat.le_refl _) _), ?_, h.b.size, by omega, by omega⟩
  unfold Flg
  have e : List.replicate n (Value.bool false) = (List.range n).map (fun i => Value.bool (f i)) := by
    apply List.ext_getElem
    · simp
    · intro i h1 h2
      have hi : i < n := by simpa using h2
      simp [hf i hi]
  rw [← e]
  exact heap_alloc_new w _
theorem ownk_rdi {w : World} {base : Nat} {v : Value} {l : List Int} (h : OwnK w base 3 .i64 v l) : RdI w v l := by
  rcases h.2 with ⟨rfl, h2⟩ | ⟨g, cap, cur, rfl, _, hh, h3, h4, _⟩
  · have : l = [] := List.length_eq_zero_iff.1 h2
    subst this
    exact ⟨none, 0, rfl, Nat.le_refl _, Nat.zero_le _, fun h => absurd rfl h⟩
  · exact ⟨some ⟨g, 0, none⟩, cap, rfl, h3, h4, fun _ => ⟨g, 0, rfl, (h.low g rfl).2, fun i hi => by rw [Nat.zero_add]; exact h.at_ i hi⟩⟩
theorem one_cell (w : World) (u : Value) (t : TypeId) : ∀ j x, [u][j]? = some x → (w.alloc (.cells #[u] t)).cell? ((⟨w.heap.size, 0, none⟩ : Addr).add j) = some x := by
  intro j x hj
  have hb := heap_alloc_new w (.cells #[u] t)
  rw [Addr.add_lit, cell_of_row _ w.heap.size (0 + j) _ _ (0, 0) hb]
  simpa using hj
theorem range_snoc (k : Nat) (f : Nat → Int) : (List.range (k + 1)).map f = (List.range k).map f ++ [f k] := by rw [List.range_succ, List.map_append]; rfl
theorem left_sub {A W : Int} {ws : List Int} (k : Nat) : left A W ws (k + 1) = left A W ws k - quo A W ws k := rfl

set_option maxHeartbeats 16000000 in
set_option maxRecDepth 1000000 in
theorem rsplit_ok (a : Int) (ws : List Int) (b o c : Nat) (w : World) (a0 : -1099511627776 ≤ a) (a1 : a ≤ 1099511627776) (hV : Wts (ab a) ws.sum ws) (n2 : ws.length ≤ 512) (hR : At1 w b o ws) :
    Calls Tryd.prog 19 #[.int .i64 a, .slice (some ⟨b, o, none⟩) ws.length c] w fun e w' => ∃ v, e = .returned (.tuple #[v, .int .i64 0]) ∧ RdI w' v (parts a ws) ∧ Below w.heap.size w w' := by
  have HV := Lib.hid hV
  have HR := Lib.hid hR
  have n1 := hV.n1
  have hw := w_in hV
  have hpos := hV.pos
  have HP1 := Lib.hid (fun i (hi : i < ws.length) (hi' : i < (parts a ws).length) => parts_one a ws a0 a1 hV i hi hi')
  have CG := Lib.hid (fun W0 => rmag_run a W0 (by omega) (by omega))
  obtain ⟨A, hA⟩ : ∃ A, ab a = A := ⟨_, rfl⟩
  have HA := Lib.hid hA
  rw [hA] at HV CG
  have A0 := HV.out.a0
  have A1 := HV.out.a1
  clear hV hR hA
  go_enter Tryd.func19, Tryd.ntmps19
  go_wp2_with fail
  go_loop [6, 7] (fun s i => ∃ k : Nat, k ≤ ws.length ∧ i = .int .i64 k ∧ s = .int .u64 (pre ws k)) (fun _ i => ws.length - (intOf i).toNat)
  case atStart => exact ⟨0, Nat.zero_le _, rfl, rfl⟩
  case round =>
    obtain ⟨k, hk, rfl, rfl⟩ := hrel
    by_cases hlt : k < ws.length
    · have hcw := HR.out.2 k hlt
      obtain ⟨p0, p1⟩ := pre_in ws k hk (fun x hx => HV.out.w0 x (List.mem_of_mem_take hx))
      have HS := Lib.hid (pre_succ ws k hlt)
      obtain ⟨x0, x1⟩ := HV.out.w0 _ (List.getElem_mem hlt)
      obtain ⟨x, hx⟩ : ∃ x, ws[k] = x := ⟨_, rfl⟩
      rw [hx] at hcw HS x0 x1
      obtain ⟨S, hS⟩ : ∃ S, pre ws k = S := ⟨_, rfl⟩
      rw [hS] at p0 p1 HS ⊢
      clear hx hS
      go_wp2_with fail
      go_round
      case rel => exact ⟨k + 1, by omega, by go_num, by rw [HS.out]⟩
      case measure => simp [intOf]; omega
    · obtain rfl : k = ws.length := by omega
      rw [pre_all]
      obtain ⟨W, hW⟩ : ∃ W, ws.sum = W := ⟨_, rfl⟩
      rw [hW] at HV hw hpos ⊢
      have HWW := Lib.hid hW
      have zW : (W == 0) = false := by rw [beq_eq_false_iff_ne]; omega
      clear hW
      go_wp2_with fail
      refine (CG.out _).mono ?_
      rintro e w1 ⟨rfl, rfl⟩
      have T0 := Lib.hid (show Two w 45 .u64 45 .u64 (.slice none 0 0) [] (.slice none 0 0) [] w from ⟨OwnK.nil _ _ _ _, OwnK.nil _ _ _ _, (fun g h => by cases h), Below.refl _ _⟩)
      go_wp2_with fail
      go_loopw [8, 9, 10, 11] (fun x8 v9 v10 x11 wr => ∃ k : Nat, k ≤ ws.length ∧ x11 = .int .i64 k ∧ x8 = .int .u64 (left A W ws k) ∧ Hid (Two w 45 .u64 45 .u64 v9 ((List.range k).map (quo A W ws)) v10 ((List.range k).map (rem A W ws)) wr)) (fun _ _ _ i _ => ws.length - (intOf i).toNat)
      case atStart => exact ⟨0, Nat.zero_le _, rfl, rfl, T0⟩
      case round =>
        clear T0
        obtain ⟨k, hk, rfl, rfl, T⟩ := hrel
        by_cases hlt : k < ws.length
        · have hcw := (HR.out.below T.out.b).2 k hlt
          have hgd : ws[k] = ws.getD k 0 := by simp [hlt]
          rw [hgd] at hcw
          obtain ⟨x0, x1, _⟩ := HV.out.at_ k hlt
          obtain ⟨H, L, Z, cm, cd⟩ := rmuldiv HV.out k hlt
          obtain ⟨q0, q1⟩ := quo_in HV.out k hlt
          obtain ⟨r0, r1⟩ := rem_in HV.out k
          obtain ⟨l0, l1⟩ := left_in HV.out k (by omega)
          obtain ⟨l2, l3⟩ := left_in HV.out (k + 1) (by omega)
          rw [left_sub] at l2 l3
          have HL := Lib.hid (left_sub (A := A) (W := W) (ws := ws) k)
          have HQ := Lib.hid (range_snoc k (quo A W ws))
          have HRm := Lib.hid (range_snoc k (rem A W ws))
          have CM := Lib.hid cm
          have CD := Lib.hid cd
          obtain ⟨x, hx⟩ : ∃ x, ws.getD k 0 = x := ⟨_, rfl⟩
          obtain ⟨q, hq⟩ : ∃ q, quo A W ws k = q := ⟨_, rfl⟩
          obtain ⟨r, hr⟩ : ∃ r, rem A W ws k = r := ⟨_, rfl⟩
          obtain ⟨l, hl⟩ : ∃ l, left A W ws k = l := ⟨_, rfl⟩
          rw [hx] at hcw x0 x1 CM
          rw [hq] at q0 q1 CD HL HQ l2 l3
          rw [hr] at r0 r1 CD HRm
          rw [hl] at l0 l1 l2 l3 HL ⊢
          have wl : IntKind.u64.wrap (l - q) = l - q := by rw [IntKind.wrap_u64]; omega
          have wx : IntKind.u64.wrap x = x := by rw [IntKind.wrap_u64]; omega
          clear hgd hx hq hr hl cm cd
          obtain ⟨i0, hi, hz0, hz1, hz2⟩ := info_parts Tryd.wordInfo
          go_wp2_with fail
          go_region_held3 (fun X => X.cell? ⟨b, o + k, none⟩ = some (.int .i64 x)) (first | assumption | go_keep)
            (first
              | (go_at_call 31; refine (CG.out _).mono ?_; rintro e5 w5 ⟨rfl, rfl⟩)
              | (go_at_call 30; refine (CM.out _).mono ?_; rintro e6 w6 ⟨rfl, rfl⟩))
          have T1 := Lib.hid (T.out.below (b_q 1 (Below.refl _ _)))
          have T1 : Hid (Two w 45 .u64 45 .u64 u9 ((List.range k).map (quo A W ws)) u10 ((List.range k).map (rem A W ws)) wr.drew) := T1
          obtain ⟨X0, hX0⟩ : ∃ X, wr.drew = X := ⟨_, rfl⟩
          rw [hX0] at T1 ⊢
          obtain ⟨K, hK⟩ : ∃ K, k = K := ⟨_, rfl⟩
          have lq : ((List.range k).map (quo A W ws)).length = k := by simp
          have lr : ((List.range k).map (rem A W ws)).length = k := by simp
          clear hX0 hcw T hK
          go_wp2_with fail
          refine (CD.out _).mono ?_
          rintro e w6 ⟨rfl, rfl⟩
          have hb1 := T1.out.b.size
          have own1 := T1.out.one
          unfold OwnK at own1
          rw [lq] at own1
          go_upto_region 23 with (at_builtin; refine wpList_append_own_at _ rfl _ _ 58 rfl w.heap.size 45 i0 (.int .u64 0) 1 8 Tryd.underlying58 hi hz0 hz1 hz2 rfl (by decide) u9 _ _ rfl (own1.alloc _) ⟨X0.heap.size, 0, none⟩ 1 1 [.int .u64 q] rfl rfl (one_cell X0 _ _) (by simp [Value.oneCell']) (by unfold maxLen; omega) (by omega) (by simp; omega) ?_; intro v1 w7 hown1 hgrow1 _ hat1)
          have T2 := Lib.hid (T1.out.push (by rw [lq]; exact hown1) hgrow1 hat1)
          rw [← HQ.out] at T2
          have own2 := T2.out.two
          unfold OwnK at own2
          rw [lr] at own2
          have hb2 := T2.out.b.size
          clear own1 hown1 hgrow1 hat1 T1 hb1
          go_wp2_with (at_builtin; refine wpList_append_own_at _ rfl _ _ 58 rfl w.heap.size 45 i0 (.int .u64 0) 1 8 Tryd.underlying58 hi hz0 hz1 hz2 rfl (by decide) u10 _ _ rfl (own2.alloc _) ⟨w7.heap.size, 0, none⟩ 1 1 [.int .u64 r] rfl rfl (one_cell w7 _ _) (by simp [Value.oneCell']) (by unfold maxLen; omega) (by omega) (by simp; omega) ?_; intro v2 w8 hown2 hgrow2 _ hat2)
          have T3 := Lib.hid ((T2.out.swap.push (by rw [lr]; exact hown2) hgrow2 hat2).swap)
          rw [← HRm.out] at T3
          clear own2 hown2 hgrow2 hat2 T2 hb2
          go_wp2_with fail
          go_roundw
          case rel => exact ⟨k + 1, by omega, by go_num, by rw [HL.out], T3⟩
          case measure => simp [intOf]; omega
        · obtain rfl : k = ws.length := by omega
          obtain ⟨g1, c1, rfl, h1a, h1b⟩ := T.out.one.form (by intro e; rw [List.map_eq_nil_iff, List.range_eq_nil] at e; omega)
          obtain ⟨g2, c2, rfl, h2a, h2b⟩ := T.out.two.form (by intro e; rw [List.map_eq_nil_iff, List.range_eq_nil] at e; omega)
          rw [show ((List.range ws.length).map (quo A W ws)).length = ws.length by simp] at T h1a ⊢
          rw [show ((List.range ws.length).map (rem A W ws)).length = ws.length by simp] at T h2a ⊢
          obtain ⟨l0, l1⟩ := left_all HV.out
          obtain ⟨R, hRR⟩ := Int.eq_ofNat_of_zero_le l0
          have HBA := Lib.hid (bmp_all A W ws R hRR)
          obtain ⟨rs, hrs⟩ : ∃ rs, (List.range ws.length).map (rem A W ws) = rs := ⟨_, rfl⟩
          have rsl : rs.length = ws.length := by rw [← hrs]; simp
          have RSB := Lib.hid (show ∀ x ∈ rs, 0 ≤ x ∧ x ≤ 18446744073709551615 from fun x hx => by
            rw [← hrs] at hx
            obtain ⟨i, _, rfl⟩ := List.mem_map.1 hx
            have := rem_in HV.out i
            omega)
          rw [hrs] at T HBA
          rw [hRR] at l1 ⊢
          rw [← bmp_zero ws.length (quo A W ws) rs] at T
          have mb := fun W0 => make_bools ws.length (by omega) W0
          obtain ⟨g3, hg3⟩ : ∃ g3, wr.heap.size = g3 := ⟨_, rfl⟩
          have TH0 := Lib.hid (Thr.start T.out (fun i => decide (rankN rs i < 0)) (fun i _ => decide_eq_false (by omega)))
          rw [hg3] at TH0
          have RL := Lib.hid rsl
          have hg3' : wr.heap.size = g3 := hg3
          clear hrs hRR l0 T rsl hg3
          go_wp2_with fail
          clear mb
          go_loopw [8] (fun x8 wq => ∃ (t : Nat) (z : Int), t ≤ R ∧ x8 = .int .u64 z ∧ Hid (z = (R : Int) - t) ∧ 0 ≤ z ∧ z ≤ R ∧ Hid (Thr w ws.length g1 c1 g2 c2 g3 (bmp ws.length (quo A W ws) rs t) rs (fun i => decide (rankN rs i < t)) wq)) (fun x _ => (intOf x).toNat)
          case atStart => exact ⟨0, R, Nat.zero_le _, rfl, Lib.hid (by simp), by omega, Int.le_refl _, TH0⟩
          case round =>
            clear TH0
            obtain ⟨t, z, htR, rfl, HZ, z0, z1, TH⟩ := hrel
            by_cases hz : 0 < z
            · have htn : t < ws.length := by have := HZ.out; omega
              have CR := Lib.hid (great_run rs g2 c2 g3 ws.length t _ RL.out htn (by omega) RSB.out
                (fun i hi => by
                  have := TH.out.t.two.at_ i (by rw [RL.out]; exact hi)
                  rw [this]
                  simp [show i < rs.length by rw [RL.out]; exact hi])
                (fun i hi => TH.out.fl.at_ i hi))
              go_wp2_with fail
              refine CR.out.mono ?_
              rintro e w6 ⟨m, rfl, hm, hrk, q, rfl⟩
              have TH1 := Lib.hid (TH.out.draws q)
              obtain ⟨q0, q1⟩ := quo_in HV.out m hm
              have hbl := bmp_len ws.length (quo A W ws) rs t
              have ea := bmp_at ws.length (quo A W ws) rs t m hm hrk (by rw [hbl]; exact hm)
              have HS := Lib.hid (bmp_set ws.length (quo A W ws) rs RL.out t m hm hrk)
              have HF := Lib.hid (show ∀ i, i < ws.length → decide (rankN rs i < t + 1) = if i = m then true else decide (rankN rs i < t) from fun i hi => by
                by_cases c : i = m
                · rw [if_pos c]; subst c; exact decide_eq_true (by omega)
                · rw [if_neg c]
                  have hne : rankN rs i ≠ t := fun e => c (rank_inj (by rw [RL.out]; exact hi) (by rw [RL.out]; exact hm) (e.trans hrk.symm))
                  by_cases d : rankN rs i < t
                  · rw [decide_eq_true d]; exact decide_eq_true (by omega)
                  · rw [decide_eq_false d]; exact decide_eq_false (by omega))
              have d1 := TH1.out.t.one.at_ m (by rw [hbl]; exact hm)
              rw [ea] at d1
              have d2 := TH1.out.fl.at_ m hm
              have f1 := TH1.out.t.one.free m
              have f2 := TH1.out.fl.free m
              obtain ⟨y, hy⟩ : ∃ y, quo A W ws m = y := ⟨_, rfl⟩
              rw [hy] at d1 q0 q1 HS
              obtain ⟨X, hX⟩ : ∃ X, wr.drewN q = X := ⟨_, rfl⟩
              rw [hX] at d1 d2 f1 f2 TH1 ⊢
              have n31 : (⟨g3, m, none⟩ : Addr) ≠ ⟨g1, m, none⟩ := fun e => TH1.out.n1 (by injection e)
              have d1' : (X.setCell ⟨g3, m, none⟩ (.bool true)).cell? ⟨g1, m, none⟩ = some (.int .u64 y) := (World.cell?_setCell_other _ _ _ _ n31).trans d1
              have f1' : (X.setCell ⟨g3, m, none⟩ (.bool true)).frozen? ⟨g1, m, none⟩ = false := by rw [World.frozen?_setCell]; exact f1
              have TH2 := Lib.hid (TH1.out.put hbl m (y + 1) HF.out)
              rw [HS.out] at TH2
              have m0 : decide ((m : Int) < 0) = false := decide_eq_false (by omega)
              have wy : IntKind.u64.wrap (y + 1) = y + 1 := by rw [IntKind.wrap_u64]; omega
              have wz : IntKind.u64.wrap (z - 1) = z - 1 := by rw [IntKind.wrap_u64]; omega
              clear ea hy hX n31 TH TH1 CR hrk HS HF hbl
              go_wp2_with fail
              go_roundw
              case rel => exact ⟨t + 1, z - 1, by have := HZ.out; omega, rfl, Lib.hid (by have := HZ.out; omega), by omega, by omega, TH2⟩
              case measure => simp [intOf]; omega
            · have htt : t = R := by have := HZ.out; omega
              rw [htt, HBA.out] at TH
              have TW := Lib.hid (show Two w 3 .i64 45 .u64 (.slice none 0 0) ((parts a ws).take 0) (.slice (some ⟨g1, 0, none⟩) ws.length c1) (shares A W ws) wr from ⟨OwnK.nil _ _ _ _, TH.out.t.one, (fun g h => by cases h), TH.out.t.b⟩)
              have HPA := Lib.hid (fun k (h1 : k < (parts a ws).length) (h2 : k < (shares (ab a) ws.sum ws).length) => parts_at a ws k h1 h2)
              rw [HA.out, HWW.out] at HPA
              have pl := parts_len a ws
              have sl := shares_len A W ws
              have SB := Lib.hid (shares_bd HV.out)
              obtain ⟨P, hP⟩ : ∃ P, parts a ws = P := ⟨_, rfl⟩
              rw [hP] at TW HPA pl
              have HPP := Lib.hid hP
              obtain ⟨SH, hSH⟩ : ∃ SH, shares A W ws = SH := ⟨_, rfl⟩
              rw [hSH] at TW HPA sl SB
              clear TH htt HBA HP1 hP hSH
              obtain ⟨i0, hi, hz0, hz1, hz2⟩ := info_parts Tryd.intInfo
              go_wp2_with fail
              go_loopw [19, 20] (fun v19 x20 wq => ∃ k : Nat, k ≤ ws.length ∧ x20 = .int .i64 k ∧ Hid (Two w 3 .i64 45 .u64 v19 (P.take k) (.slice (some ⟨g1, 0, none⟩) ws.length c1) SH wq)) (fun _ i _ => ws.length - (intOf i).toNat)
              case atStart => exact ⟨0, Nat.zero_le _, rfl, TW⟩
              case round =>
                clear TW
                obtain ⟨k, hk, rfl, T⟩ := hrel
                by_cases hlt : k < ws.length
                · have hks : k < SH.length := by omega
                  have hkp : k < P.length := by omega
                  have d1 := T.out.two.at_ k hks
                  have hpa := HPA.out k hkp hks
                  obtain ⟨s0, s1⟩ := SB.out _ (List.getElem_mem hks)
                  have HTK := Lib.hid (List.take_succ_eq_append_getElem hkp)
                  obtain ⟨x, hx⟩ : ∃ x, SH[k] = x := ⟨_, rfl⟩
                  obtain ⟨y, hy⟩ : ∃ y, P[k] = y := ⟨_, rfl⟩
                  rw [hx] at d1 hpa s0 s1
                  rw [hy] at hpa HTK
                  have tl : (P.take k).length = k := by rw [List.length_take]; omega
                  have wx : IntKind.i64.wrap x = x := by rw [IntKind.wrap_i64]; omega
                  have own1 := T.out.one
                  unfold OwnK at own1
                  rw [tl] at own1
                  have hb1 := T.out.b.size
                  clear hx hy
                  by_cases an : a < 0
                  · rw [if_pos an] at hpa
                    have wy : IntKind.i64.wrap (-x) = y := by rw [IntKind.wrap_i64]; omega
                    clear hpa
                    go_wp2_with (at_builtin; refine wpList_append_own_at _ rfl _ _ 32 rfl w.heap.size 3 i0 (.int .i64 0) 1 8 Tryd.underlying32 hi hz0 hz1 hz2 rfl (by decide) _ _ _ rfl (own1.alloc _) ⟨wr.heap.size, 0, none⟩ 1 1 [.int .i64 y] rfl rfl (one_cell wr _ _) (by simp [Value.oneCell']) (by unfold maxLen; omega) (by omega) (by simp; omega) ?_; intro v1 w7 hown1 hgrow1 _ hat1)
                    have T2 := Lib.hid (T.out.push (by rw [tl]; exact hown1) hgrow1 hat1)
                    rw [← HTK.out] at T2
                    clear own1 hown1 hgrow1 hat1 T hb1
                    go_wp2_with fail
                    go_roundw
                    case rel => exact ⟨k + 1, by omega, by go_num, T2⟩
                    case measure => simp [intOf]; omega
                  · rw [if_neg an] at hpa
                    have HYX := Lib.hid hpa
                    obtain rfl : y = x := hpa
                    go_wp2_with (at_builtin; refine wpList_append_own_at _ rfl _ _ 32 rfl w.heap.size 3 i0 (.int .i64 0) 1 8 Tryd.underlying32 hi hz0 hz1 hz2 rfl (by decide) _ _ _ rfl (own1.alloc _) ⟨wr.heap.size, 0, none⟩ 1 1 [.int .i64 y] rfl rfl (one_cell wr _ _) (by simp [Value.oneCell']) (by unfold maxLen; omega) (by omega) (by simp; omega) ?_; intro v1 w7 hown1 hgrow1 _ hat1)
                    have T2 := Lib.hid (T.out.push (by rw [tl]; exact hown1) hgrow1 hat1)
                    rw [← HTK.out] at T2
                    clear own1 hown1 hgrow1 hat1 T hb1
                    go_wp2_with fail
                    go_roundw
                    case rel => exact ⟨k + 1, by omega, by go_num, T2⟩
                    case measure => simp [intOf]; omega
                · have hkk : k = P.length := by omega
                  have TE := T.out
                  rw [hkk, List.take_length] at TE
                  have TE := Lib.hid TE
                  clear T HPA SB
                  go_wp2_with fail
                  go_ret2
                  exact ⟨_, rfl, by rw [HPP.out]; exact ownk_rdi TE.out.one, TE.out.b⟩
end Go.Proofs.YtjjhdbodjcffaaaDoor
