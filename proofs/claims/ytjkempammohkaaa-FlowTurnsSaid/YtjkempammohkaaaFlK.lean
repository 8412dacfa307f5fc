/-
  The residual graph is made: the walk.
-/
import Derived.Test.YtjkempammohkaaaFlJ
namespace Go.Proofs.Ytjkempammohkaaa
open Go.RowKit
open IntWalk
open Fl
set_option linter.unusedVariables false
set_option linter.unusedSimpArgs false

theorem make_ints (n : Nat) (h : n ≤ 2000000) (W : World) : (Instr.makeSlice 30 (.int .i64 (n : Int)) (.int .i64 (n : Int))).run Try.prog W = .ok (.slice (some ⟨W.heap.size, 0, none⟩) n n) (W.alloc (.cells (Array.replicate n (Value.int .i64 0)) 3)) := by
  obtain ⟨i0, hi, hz0, hz1, hz2⟩ := info_parts (show (Try.prog.info? 3).map (fun i => (i.zero, i.size, i.bytes)) = some (some (.int .i64 0), 1, 8) by kernel_rfl)
  have hr := run_make (P := Try.prog) W 30 3 i0 (.int .i64 0) Try.underlying30 hi hz0 .i64 .i64 n n (by omega) (by omega) (by rw [hz2]; omega) (by omega)
  rw [hz1, Int.toNat_natCast, Nat.mul_one] at hr
  have e : madeCells (Value.int .i64 0).cells n = Array.replicate n (Value.int .i64 0) := Array.toList_inj.1 ((toList_madeCells_one _ n).trans (by simp))
  rw [e] at hr
  exact hr

/-- The frame while six lists are made; which operations have come up. -/
def bgF (h N s t E ln c : Nat) (p : Option Addr) (f : Nat → Value) : Act := { tmps := #[.agg #[.int .i64 (N : Int), .slice p ln c], .int .i64 (s : Int), .int .i64 (t : Int), .pointer (some ⟨h, 0, none⟩), undef, undef, .pointer none, .int .i64 (E : Int), undef, undef, undef, .pointer (some ⟨h, 1, none⟩), .slice p ln c, .int .i64 (ln : Int), .int .i64 (E : Int), .int .i64 (s : Int), .int .i64 (t : Int), .pointer (some ⟨h, 0, none⟩), .int .i64 (N : Int), f 0, .int .i64 (E : Int), f 1, .int .i64 (E : Int), f 2, .int .i64 (E : Int), f 3, .pointer (some ⟨h, 0, none⟩), .int .i64 (N : Int), f 4, .pointer (some ⟨h, 0, none⟩), .int .i64 (N : Int), f 5, undef, undef, undef, undef, undef, undef, undef, undef, undef, undef, undef, undef, undef, undef, undef, undef, undef, undef, undef, undef, undef, undef, undef, undef, undef, undef, undef, undef, undef, undef, undef, undef, undef, undef, undef, undef], defers := [] }
def bgL (d : Nat → Bool) : Array Bool := #[true, true, true, true, d 0, true, d 1, true, d 2, true, d 3, true, true, d 4, true, true, d 5, false, false, false]
def bgI (i : Nat) : Nat := [4, 6, 8, 10, 13, 16].getD i 0
def bgN (N E : Nat) (i : Nat) : Nat := [N, E, E, E, N, N].getD i 0

theorem chk6 {rs : List Nat} {x0 x1 x2 x3 x4 x5 : Bool} (h : (!rs.isEmpty && rs.all fun j => (j == 4 && !x0) || (j == 6 && !x1) || (j == 8 && !x2) || (j == 10 && !x3) || (j == 13 && !x4) || (j == 16 && !x5)) = true) :
    rs ≠ [] ∧ ∀ j, j ∈ rs → ((j = 4 ∧ x0 = false) ∨ (j = 6 ∧ x1 = false) ∨ (j = 8 ∧ x2 = false) ∨ (j = 10 ∧ x3 = false) ∨ (j = 13 ∧ x4 = false) ∨ (j = 16 ∧ x5 = false)) := by
  rw [Bool.and_eq_true] at h
  refine ⟨fun e => by rw [e] at h; exact absurd h.1 (by decide), fun j hj => ?_⟩
  have := List.all_eq_true.1 h.2 j hj
  simp only [Bool.or_eq_true, Bool.and_eq_true, beq_iff_eq, Bool.not_eq_true'] at this
  rcases this with ((((a | a) | a) | a) | a) | a
  · exact .inl a
  · exact .inr (.inl a)
  · exact .inr (.inr (.inl a))
  · exact .inr (.inr (.inr (.inl a)))
  · exact .inr (.inr (.inr (.inr (.inl a))))
  · exact .inr (.inr (.inr (.inr (.inr a))))

theorem Bl.Ok.mono {q : Bl} {B B' : Nat} (h : q.Ok B) (hB : B' ≤ B) : q.Ok B' :=
  ⟨by obtain ⟨a1, a2, a3, a4, a5, a6, a7⟩ := h.b; exact ⟨by omega, by omega, by omega, by omega, by omega, by omega, by omega⟩, h.g, h.F, h.A, h.T, h.R, h.D⟩
/-- What the lists hold when some edges have been added. -/
def aF (G : Nt) (j : Nat) (u : Nat) : Int := G.lst j u
def aA (G : Nt) (j : Nat) (e : Nat) : Int := if e < j then G.lst e (G.ef e) else 0
def aT (G : Nt) (j : Nat) (e : Nat) : Int := if e < j then (G.et e : Int) else 0
def aR (G : Nt) (j : Nat) (e : Nat) : Int := if e < j then R0 G e else 0
theorem aF_step (G : Nt) (j : Nat) : upd (aF G j) (G.ef j) j = aF G (j + 1) := by
  funext u
  show (if u = G.ef j then (j : Int) else G.lst j u) = if G.ef j = u then (j : Int) else G.lst j u
  by_cases c : u = G.ef j
  · rw [if_pos c, if_pos c.symm]
  · rw [if_neg c, if_neg fun h => c h.symm]
theorem cut_step (j : Nat) (f : Nat → Int) : upd (fun e => if e < j then f e else 0) j (f j) = fun e => if e < j + 1 then f e else 0 := by
  funext e
  show (if e = j then f j else if e < j then f e else 0) = if e < j + 1 then f e else 0
  by_cases c : e = j
  · subst c; rw [if_pos rfl, if_pos (by omega)]
  · rw [if_neg c]
    by_cases d : e < j
    · rw [if_pos d, if_pos (by omega)]
    · rw [if_neg d, if_neg (by omega)]
theorem aA_step (G : Nt) (j : Nat) : upd (aA G j) j (aF G j (G.ef j)) = aA G (j + 1) := cut_step j fun e => G.lst e (G.ef e)
theorem aT_step (G : Nt) (j : Nat) : upd (aT G j) j (G.et j) = aT G (j + 1) := cut_step j fun e => (G.et e : Int)
theorem aR_step (G : Nt) (j : Nat) : upd (aR G j) j (R0 G j) = aR G (j + 1) := cut_step j fun e => R0 G e
/-- An edge is added, at the state of the lists. -/
theorem add_step {B : Nat} {q : Bl} (o : q.Ok B) {G : Nt} (hG : G.Ok) {N E s t j : Nat} (hE : E ≤ 20000) (hN : N ≤ 10000) (hNG : G.N = N) (hEG : E = 2 * G.m) {w : World} (h : Raw w q N E s t (aF G j) (aA G j) (aT G j) (aR G j)) (hj : j < E) {u x : Nat} {y : Int} (hu : u = G.ef j) (hx : x = G.et j) (hy : y = R0 G j) :
    Calls Try.prog 36 #[.pointer (some ⟨q.g, 0, none⟩), .int .i64 (j : Int), .int .i64 (u : Int), .int .i64 (x : Int), .int .i64 y] w fun r w' => r = .returned (.tuple #[]) ∧ Raw w' q N E s t (aF G (j + 1)) (aA G (j + 1)) (aT G (j + 1)) (aR G (j + 1)) ∧ Below B w w' ∧ Ex4 q w w' := by
  subst hu; subst hx; subst hy
  have r := add_run o hE hN h j (G.ef j) (G.et j) (R0 G j) hj (by rw [← hNG]; exact ef_lt hG (by omega))
  rw [aF_step, aA_step, aT_step, aR_step] at r
  exact r
def BgHd (w : World) (q : Bl) (N E s t : Nat) (G : Nt) (iv_ : Value) (wr : World) : Prop :=
  ∃ k : Nat, iv_ = .int .i64 (k : Int) ∧ k ≤ G.m ∧ Raw wr q N E s t (aF G (2 * k)) (aA G (2 * k)) (aT G (2 * k)) (aR G (2 * k)) ∧ Below w.heap.size w wr

set_option maxHeartbeats 4000000 in
set_option maxRecDepth 100000 in
theorem begin_run {N : Nat} {l : List Ac} {G : Nt} (eG : G = netG (N : Int) l) (hK : NetOk N l) (hN : N ≤ 10000) (hl : l.length ≤ 10000) {p : Option Addr} {c : Nat} {w : World} (hA : NetAt w p l) (s t : Nat) :
    Calls Try.prog 28 #[.agg #[.int .i64 (N : Int), .slice p l.length c], .int .i64 (s : Int), .int .i64 (t : Int)] w fun e w' =>
      ∃ q : Bl, e = .returned (.pointer (some ⟨q.g, 0, none⟩)) ∧ q.Ok w.heap.size ∧ Res w' q G s t (R0 G) (fun _ => 0) (fun _ => 0) ∧ Below w.heap.size w w' := by
  have AL0 := fun W => along_run l.length W (by omega)
  obtain ⟨E, hE⟩ : ∃ E, E = 2 * l.length := ⟨_, rfl⟩
  rw [← hE] at AL0
  have AL := Lib.hid AL0
  have HE := Lib.hid hE
  have hE2 : E ≤ 20000 := by omega
  clear AL0 hE
  have HA := Lib.hid hA
  have HK := Lib.hid hK
  have NG : Hid (G.N = N) := Lib.hid (by rw [eG]; show (N : Int).toNat = N; omega)
  have GM : Hid (G.m = l.length) := Lib.hid (by rw [eG]; rfl)
  have HG : Hid G.Ok := Lib.hid (by rw [eG]; exact hK.ok)
  have EG := Lib.hid eG
  clear hA hK eG
  go_enter Try.func28, Try.ntmps28
  go_upto_region 2 with (go_at_call 31; refine (AL.out _).mono ?_; rintro e w' ⟨rfl, rfl⟩)
  have B0 : Hid (Below w.heap.size w (w.alloc (.cells #[.int .i64 (N : Int), .slice p l.length c] 24))) := Lib.hid ((Below.refl _ _).alloc (Nat.le_refl _) _)
  have k0 : (w.alloc (.cells #[.int .i64 (N : Int), .slice p l.length c] 24)).cell? ⟨w.heap.size, 0, none⟩ = some (.int .i64 (N : Int)) := by simp
  have k1 : (w.alloc (.cells #[.int .i64 (N : Int), .slice p l.length c] 24)).cell? ⟨w.heap.size, 1, none⟩ = some (.slice p l.length c) := by simp
  have z1 : Hid ((w.alloc (.cells #[.int .i64 (N : Int), .slice p l.length c] 24)).heap.size = w.heap.size + 1) := Lib.hid (by simp)
  revert B0 k0 k1 z1
  generalize (w.alloc (.cells #[.int .i64 (N : Int), .slice p l.length c] 24)) = w1
  intro B0 k0 k1 z1
  refine wp_region_held_drew (S := fun w' => w'.cell? ⟨w.heap.size, 0, none⟩ = some (.int .i64 (N : Int)) ∧ w'.cell? ⟨w.heap.size, 1, none⟩ = some (.slice p l.length c)) (by kernel_rfl) ⟨k0, k1⟩ (fun hHeld => ?_)
  refine wpAnyH_takeD (i := 0) (oi := _) (d := some 15) (v := .int .i64 (s : Int)) rfl rfl (by kernel_rfl) (by kernel_rfl) (by kernel_rfl) (fun _ _ _ h => h) (Or.inl ⟨by rfl, ?_⟩) hHeld ?_
  · intro w' hSw
    obtain ⟨hs0, hs1⟩ := hSw
    go_simp
    done
  simp only [Act.put, List.setIfInBounds_toArray, List.set_cons_zero, List.set_cons_succ]
  refine wpAnyH_takeD (i := 1) (oi := _) (d := some 16) (v := .int .i64 (t : Int)) rfl rfl (by kernel_rfl) (by kernel_rfl) (by kernel_rfl) (fun _ _ _ h => h) (Or.inl ⟨by rfl, ?_⟩) hHeld ?_
  · intro w' hSw
    obtain ⟨hs0, hs1⟩ := hSw
    go_simp
    done
  simp only [Act.put, List.setIfInBounds_toArray, List.set_cons_zero, List.set_cons_succ]
  refine wpAnyH_takeD (i := 2) (oi := _) (d := some 17) (v := .pointer (some ⟨w.heap.size, 0, none⟩)) rfl rfl (by kernel_rfl) (by kernel_rfl) (by kernel_rfl) (fun _ _ _ h => h) (Or.inl ⟨by rfl, ?_⟩) hHeld ?_
  · intro w' hSw
    obtain ⟨hs0, hs1⟩ := hSw
    go_simp
    done
  simp only [Act.put, List.setIfInBounds_toArray, List.set_cons_zero, List.set_cons_succ]
  refine wpAnyH_takeD (i := 3) (oi := _) (d := some 18) (v := .int .i64 (N : Int)) rfl rfl (by kernel_rfl) (by kernel_rfl) (by kernel_rfl) (fun _ _ _ h => h) (Or.inl ⟨by rfl, ?_⟩) hHeld ?_
  · intro w' hSw
    obtain ⟨hs0, hs1⟩ := hSw
    go_simp
    done
  simp only [Act.put, List.setIfInBounds_toArray, List.set_cons_zero, List.set_cons_succ]
  refine wpAnyH_takeD (i := 5) (oi := _) (d := some 20) (v := .int .i64 (E : Int)) rfl rfl (by kernel_rfl) (by kernel_rfl) (by kernel_rfl) (fun _ _ _ h => h) (Or.inl ⟨by rfl, ?_⟩) hHeld ?_
  · intro w' hSw
    obtain ⟨hs0, hs1⟩ := hSw
    go_simp
    done
  simp only [Act.put, List.setIfInBounds_toArray, List.set_cons_zero, List.set_cons_succ]
  refine wpAnyH_takeD (i := 7) (oi := _) (d := some 22) (v := .int .i64 (E : Int)) rfl rfl (by kernel_rfl) (by kernel_rfl) (by kernel_rfl) (fun _ _ _ h => h) (Or.inl ⟨by rfl, ?_⟩) hHeld ?_
  · intro w' hSw
    obtain ⟨hs0, hs1⟩ := hSw
    go_simp
    done
  simp only [Act.put, List.setIfInBounds_toArray, List.set_cons_zero, List.set_cons_succ]
  refine wpAnyH_takeD (i := 9) (oi := _) (d := some 24) (v := .int .i64 (E : Int)) rfl rfl (by kernel_rfl) (by kernel_rfl) (by kernel_rfl) (fun _ _ _ h => h) (Or.inl ⟨by rfl, ?_⟩) hHeld ?_
  · intro w' hSw
    obtain ⟨hs0, hs1⟩ := hSw
    go_simp
    done
  simp only [Act.put, List.setIfInBounds_toArray, List.set_cons_zero, List.set_cons_succ]
  refine wpAnyH_takeD (i := 11) (oi := _) (d := some 26) (v := .pointer (some ⟨w.heap.size, 0, none⟩)) rfl rfl (by kernel_rfl) (by kernel_rfl) (by kernel_rfl) (fun _ _ _ h => h) (Or.inl ⟨by rfl, ?_⟩) hHeld ?_
  · intro w' hSw
    obtain ⟨hs0, hs1⟩ := hSw
    go_simp
    done
  simp only [Act.put, List.setIfInBounds_toArray, List.set_cons_zero, List.set_cons_succ]
  refine wpAnyH_takeD (i := 12) (oi := _) (d := some 27) (v := .int .i64 (N : Int)) rfl rfl (by kernel_rfl) (by kernel_rfl) (by kernel_rfl) (fun _ _ _ h => h) (Or.inl ⟨by rfl, ?_⟩) hHeld ?_
  · intro w' hSw
    obtain ⟨hs0, hs1⟩ := hSw
    go_simp
    done
  simp only [Act.put, List.setIfInBounds_toArray, List.set_cons_zero, List.set_cons_succ]
  refine wpAnyH_takeD (i := 14) (oi := _) (d := some 29) (v := .pointer (some ⟨w.heap.size, 0, none⟩)) rfl rfl (by kernel_rfl) (by kernel_rfl) (by kernel_rfl) (fun _ _ _ h => h) (Or.inl ⟨by rfl, ?_⟩) hHeld ?_
  · intro w' hSw
    obtain ⟨hs0, hs1⟩ := hSw
    go_simp
    done
  simp only [Act.put, List.setIfInBounds_toArray, List.set_cons_zero, List.set_cons_succ]
  refine wpAnyH_takeD (i := 15) (oi := _) (d := some 30) (v := .int .i64 (N : Int)) rfl rfl (by kernel_rfl) (by kernel_rfl) (by kernel_rfl) (fun _ _ _ h => h) (Or.inl ⟨by rfl, ?_⟩) hHeld ?_
  · intro w' hSw
    obtain ⟨hs0, hs1⟩ := hSw
    go_simp
    done
  simp only [Act.put, List.setIfInBounds_toArray, List.set_cons_zero, List.set_cons_succ]
  refine makes6 (S := fun w' => w'.cell? ⟨w.heap.size, 0, none⟩ = some (.int .i64 (N : Int)) ∧ w'.cell? ⟨w.heap.size, 1, none⟩ = some (.slice p l.length c)) 30 3 bgI
    (bgF w.heap.size N s t E l.length c p)
    bgL
    (bgN N E) 3 ?h1 ?h2 ?h3 ?h4 ?h5 ?h6 ?h7 w1.drew ?e1 ?e2 ?e3 ?h8 hHeld
  case e1 => kernel_rfl
  case e2 => kernel_rfl
  case e3 => rfl
  case h1 => exact six (⟨_, rfl, rfl, _, rfl, fun f => rfl, fun f v => rfl⟩) (⟨_, rfl, rfl, _, rfl, fun f => rfl, fun f v => rfl⟩) (⟨_, rfl, rfl, _, rfl, fun f => rfl, fun f v => rfl⟩) (⟨_, rfl, rfl, _, rfl, fun f => rfl, fun f v => rfl⟩) (⟨_, rfl, rfl, _, rfl, fun f => rfl, fun f v => rfl⟩) (⟨_, rfl, rfl, _, rfl, fun f => rfl, fun f v => rfl⟩)
  case h2 => exact six (fun d => rfl) (fun d => rfl) (fun d => rfl) (fun d => rfl) (fun d => rfl) (fun d => rfl)
  case h3 =>
    intro f f' e
    simp only [bgF, e 0 (by omega), e 1 (by omega), e 2 (by omega), e 3 (by omega), e 4 (by omega), e 5 (by omega)]
  case h4 =>
    intro f f' e
    simp only [bgL, e 0 (by omega), e 1 (by omega), e 2 (by omega), e 3 (by omega), e 4 (by omega), e 5 (by omega)]
  case h5 =>
    intro d ⟨i, hi, hd⟩
    have hd2 : d 0 = false ∨ d 1 = false ∨ d 2 = false ∨ d 3 = false ∨ d 4 = false ∨ d 5 = false := by
      rcases (by omega : i = 0 ∨ i = 1 ∨ i = 2 ∨ i = 3 ∨ i = 4 ∨ i = 5) with rfl | rfl | rfl | rfl | rfl | rfl <;> simp [hd]
    unfold bgL
    have h0 : d 0 = d 0 := rfl
    have h1 : d 1 = d 1 := rfl
    have h2 : d 2 = d 2 := rfl
    have h3 : d 3 = d 3 := rfl
    have h4 : d 4 = d 4 := rfl
    have h5 : d 5 = d 5 := rfl
    have fin : ∀ j : Nat, ((j = 4 ∧ d 0 = false) ∨ (j = 6 ∧ d 1 = false) ∨ (j = 8 ∧ d 2 = false) ∨ (j = 10 ∧ d 3 = false) ∨ (j = 13 ∧ d 4 = false) ∨ (j = 16 ∧ d 5 = false)) → ∃ i, i < 6 ∧ d i = false ∧ j = bgI i := by
      intro j hj
      rcases hj with ⟨a, b⟩ | ⟨a, b⟩ | ⟨a, b⟩ | ⟨a, b⟩ | ⟨a, b⟩ | ⟨a, b⟩
      · exact ⟨0, by omega, b, a⟩
      · exact ⟨1, by omega, b, a⟩
      · exact ⟨2, by omega, b, a⟩
      · exact ⟨3, by omega, b, a⟩
      · exact ⟨4, by omega, b, a⟩
      · exact ⟨5, by omega, b, a⟩
    refine (?_ : ∃ rs, _ = rs ∧ rs ≠ [] ∧ ∀ j, j ∈ rs → ((j = 4 ∧ d 0 = false) ∨ (j = 6 ∧ d 1 = false) ∨ (j = 8 ∧ d 2 = false) ∨ (j = 10 ∧ d 3 = false) ∨ (j = 13 ∧ d 4 = false) ∨ (j = 16 ∧ d 5 = false))).imp fun rs h => ⟨h.1, h.2.1, fun j hj => fin j (h.2.2 j hj)⟩
    clear fin hd hi h0 h1 h2 h3 h4 h5
    revert hd2
    generalize d 0 = x0
    generalize d 1 = x1
    generalize d 2 = x2
    generalize d 3 = x3
    generalize d 4 = x4
    generalize d 5 = x5
    cases x0 <;> cases x1 <;> cases x2 <;> cases x3 <;> cases x4 <;> cases x5 <;> intro hd2
    all_goals first
      | exact absurd hd2 (by decide)
      | exact ⟨_, rfl, chk6 (by kernel_rfl)⟩
  case h6 => exact six (fun W => make_ints N (by omega) W) (fun W => make_ints E (by omega) W) (fun W => make_ints E (by omega) W) (fun W => make_ints E (by omega) W) (fun W => make_ints N (by omega) W) (fun W => make_ints N (by omega) W)
  case h7 => exact fun w' ob h => ⟨(World.cell?_alloc_some w' _ ob (by rw [h.1]; rfl)).trans h.1, (World.cell?_alloc_some w' _ ob (by rw [h.2]; rfl)).trans h.2⟩
  case h8 =>
    intro b w2 hb1 hb2 hb3 hHeld
    have eF : bgF w.heap.size N s t E l.length c p (fun i => .slice (some ⟨b i, 0, none⟩) (bgN N E i) (bgN N E i)) = { tmps := #[.agg #[.int .i64 (N : Int), .slice p l.length c], .int .i64 (s : Int), .int .i64 (t : Int), .pointer (some ⟨w.heap.size, 0, none⟩), undef, undef, .pointer none, .int .i64 (E : Int), undef, undef, undef, .pointer (some ⟨w.heap.size, 1, none⟩), .slice p l.length c, .int .i64 (l.length : Int), .int .i64 (E : Int), .int .i64 (s : Int), .int .i64 (t : Int), .pointer (some ⟨w.heap.size, 0, none⟩), .int .i64 (N : Int), .slice (some ⟨b 0, 0, none⟩) N N, .int .i64 (E : Int), .slice (some ⟨b 1, 0, none⟩) E E, .int .i64 (E : Int), .slice (some ⟨b 2, 0, none⟩) E E, .int .i64 (E : Int), .slice (some ⟨b 3, 0, none⟩) E E, .pointer (some ⟨w.heap.size, 0, none⟩), .int .i64 (N : Int), .slice (some ⟨b 4, 0, none⟩) N N, .pointer (some ⟨w.heap.size, 0, none⟩), .int .i64 (N : Int), .slice (some ⟨b 5, 0, none⟩) N N, undef, undef, undef, undef, undef, undef, undef, undef, undef, undef, undef, undef, undef, undef, undef, undef, undef, undef, undef, undef, undef, undef, undef, undef, undef, undef, undef, undef, undef, undef, undef, undef, undef, undef, undef, undef], defers := [] } := rfl
    rw [eF]
    clear eF
    refine wpAnyH_takeD (i := 17) (oi := _) (d := some 32) (v := .agg #[.int .i64 (s : Int), .int .i64 (t : Int), .slice (some ⟨b 0, 0, none⟩) N N, .slice (some ⟨b 1, 0, none⟩) E E, .slice (some ⟨b 2, 0, none⟩) E E, .slice (some ⟨b 3, 0, none⟩) E E, .slice (some ⟨b 4, 0, none⟩) N N, .slice (some ⟨b 5, 0, none⟩) N N]) rfl rfl (by kernel_rfl) (by kernel_rfl) (by kernel_rfl) (fun _ _ _ h => h) (Or.inl ⟨by rfl, ?_⟩) hHeld ?_
    · intro w' hSw
      go_simp
      done
    simp only [Act.put, List.setIfInBounds_toArray, List.set_cons_zero, List.set_cons_succ]
    refine wpAnyH_ready (rs := [18]) (by kernel_rfl) (by simp) (AllReadyH.cons rfl (fun K hK => ?_) AllReadyH.nil)
    go_simp
    refine hK.out _ _ ⟨(World.cell?_alloc_some _ _ _ (by rw [hHeld.1]; rfl)).trans hHeld.1, (World.cell?_alloc_some _ _ _ (by rw [hHeld.2]; rfl)).trans hHeld.2⟩ (fun hHeld => ?_)
    clear hK K
    refine wpAnyH_takeD (i := 19) (oi := _) (d := some 8) (v := .pointer (some ⟨w2.heap.size, 0, none⟩)) rfl rfl (by kernel_rfl) (by kernel_rfl) (by kernel_rfl) (fun _ _ _ h => h) (Or.inl ⟨by rfl, ?_⟩) hHeld ?_
    · intro w' hSw
      go_simp
      done
    simp only [Act.put, List.setIfInBounds_toArray, List.set_cons_zero, List.set_cons_succ]
    refine wpAnyH_done (by kernel_rfl) ?_ _
    obtain ⟨q, hq⟩ : ∃ q : Bl, q = ⟨w2.heap.size, b 0, b 1, b 2, b 3, b 4, b 5⟩ := ⟨_, rfl⟩
    have zz : w1.drew.heap.size = w.heap.size + 1 := z1.out
    have z2 := hb3.size
    have lt : ∀ i, i < 6 → b i < w2.heap.size := fun i hi => (hb1 i hi).2.lt
    have Q0 : Hid (q.Ok (w.heap.size + 1)) := Lib.hid (by
      rw [hq]
      have d := fun i j hi hj hne => hb2 i j hi hj hne
      have g := fun i hi => (hb1 i hi).1
      have l0 := lt 0 (by omega)
      have l1 := lt 1 (by omega)
      have l2 := lt 2 (by omega)
      have l3 := lt 3 (by omega)
      have l4 := lt 4 (by omega)
      have l5 := lt 5 (by omega)
      have g0 := g 0 (by omega)
      have g1 := g 1 (by omega)
      have g2 := g 2 (by omega)
      have g3 := g 3 (by omega)
      have g4 := g 4 (by omega)
      have g5 := g 5 (by omega)
      refine ⟨by simp only; omega, by simp only; omega, ?_, ?_, ?_, ?_, ?_⟩
      · exact ⟨d 0 1 (by omega) (by omega) (by omega), d 0 2 (by omega) (by omega) (by omega), d 0 3 (by omega) (by omega) (by omega), d 0 4 (by omega) (by omega) (by omega), d 0 5 (by omega) (by omega) (by omega)⟩
      · exact ⟨d 1 2 (by omega) (by omega) (by omega), d 1 3 (by omega) (by omega) (by omega), d 1 4 (by omega) (by omega) (by omega), d 1 5 (by omega) (by omega) (by omega)⟩
      · exact ⟨d 2 3 (by omega) (by omega) (by omega), d 2 4 (by omega) (by omega) (by omega), d 2 5 (by omega) (by omega) (by omega)⟩
      · exact ⟨d 3 4 (by omega) (by omega) (by omega), d 3 5 (by omega) (by omega) (by omega)⟩
      · exact d 4 5 (by omega) (by omega) (by omega))
    have R1 : Hid (Raw (w2.alloc (.cells #[.int .i64 (s : Int), .int .i64 (t : Int), .slice (some ⟨b 0, 0, none⟩) N N, .slice (some ⟨b 1, 0, none⟩) E E, .slice (some ⟨b 2, 0, none⟩) E E, .slice (some ⟨b 3, 0, none⟩) E E, .slice (some ⟨b 4, 0, none⟩) N N, .slice (some ⟨b 5, 0, none⟩) N N] 59)) q N E s t (fun _ => 0) (fun _ => 0) (fun _ => 0) (fun _ => 0)) := Lib.hid (by
      rw [hq]
      exact ⟨heap_alloc_new _ _, (hb1 0 (by omega)).2.alloc _, (hb1 1 (by omega)).2.alloc _, (hb1 2 (by omega)).2.alloc _, (hb1 3 (by omega)).2.alloc _, (hb1 4 (by omega)).2.alloc _, (hb1 5 (by omega)).2.alloc _⟩)
    have B1 : Hid (Below w.heap.size w (w2.alloc (.cells #[.int .i64 (s : Int), .int .i64 (t : Int), .slice (some ⟨b 0, 0, none⟩) N N, .slice (some ⟨b 1, 0, none⟩) E E, .slice (some ⟨b 2, 0, none⟩) E E, .slice (some ⟨b 3, 0, none⟩) E E, .slice (some ⟨b 4, 0, none⟩) N N, .slice (some ⟨b 5, 0, none⟩) N N] 59))) := Lib.hid (((B0.out.drew).trans (hb3.mono (by omega))).alloc (by omega) _)
    obtain ⟨k0, k1⟩ := hHeld
    have hqg : w2.heap.size = q.g := by rw [hq]
    rw [hqg]
    have hqF : b 0 = q.F := by rw [hq]
    clear hb1 hb2 hb3 lt zz z2 z1 hq
    revert R1 B1 k0 k1
    generalize (w2.alloc (.cells #[.int .i64 (s : Int), .int .i64 (t : Int), .slice (some ⟨b 0, 0, none⟩) N N, .slice (some ⟨b 1, 0, none⟩) E E, .slice (some ⟨b 2, 0, none⟩) E E, .slice (some ⟨b 3, 0, none⟩) E E, .slice (some ⟨b 4, 0, none⟩) N N, .slice (some ⟨b 5, 0, none⟩) N N] 59)) = w3
    intro R1 B1 k0 k1
    clear hqg hqF B0
    have g2 := R1.out.g2
    have FI := Lib.hid (fill_run q.F N (iv fun _ => 0) (-1) w3 (by omega) R1.out.rF)
    go_wp2_with fail
    refine FI.out.mono ?_
    rintro _ w4 ⟨rfl, f1, f2⟩
    have R2 : Hid (Raw w4 q N E s t (aF G 0) (aA G 0) (aT G 0) (aR G 0)) := Lib.hid (by
      obtain ⟨hd, rF, rA, rT, rR, rD, rX⟩ := R1.out
      have O := Q0.out
      exact ⟨(f2.block _ O.g.1).trans hd, f1, rA.of_block (f2.block _ (Ne.symm O.F.1)), rT.of_block (f2.block _ (Ne.symm O.F.2.1)), rR.of_block (f2.block _ (Ne.symm O.F.2.2.1)), rD.of_block (f2.block _ (Ne.symm O.F.2.2.2.1)), rX.of_block (f2.block _ (Ne.symm O.F.2.2.2.2))⟩)
    have k1' : w4.cell? ⟨w.heap.size, 1, none⟩ = some (.slice p l.length c) := (World.cell?_of_block (f2.block w.heap.size (by have := Q0.out.b; omega))).trans k1
    have B2 := Lib.hid (B1.out.trans (f2.below (B := w.heap.size) (by have := Q0.out.b; omega)))
    clear f1 f2 k0 k1 g2 R1 B1 FI
    go_wp2_with fail
    clear k1'
    go_loopw [42] (fun i wr => BgHd w q N E s t G i wr) (fun i _ => l.length - (intOf i).toNat)
    case atStart => exact ⟨0, rfl, Nat.zero_le _, R2.out, B2.out⟩
    case round =>
      clear R2 B2
      obtain ⟨k, rfl, hk, hR, hb⟩ := hrel
      have hk2 : k ≤ l.length := by have := GM.out; omega
      have R1 := Lib.hid hR
      have B1 := Lib.hid hb
      clear hR hb hk
      by_cases hlt : k < l.length
      · obtain ⟨ba, oa, rfl, hba, hca⟩ := HA.out (by intro e; rw [e] at hlt; simp at hlt)
        obtain ⟨c1, c2, c3⟩ := hca k hlt
        obtain ⟨e1, e2, e3⟩ := HK.out.at_ k hlt
        rw [← EG.out] at e1 e2 e3
        rw [e1] at c1
        rw [e2] at c2
        rw [e3] at c3
        clear hca e1 e2 e3
        have d1 : wr.cell? ⟨ba, oa + k * 3, none⟩ = _ := (B1.out.cell (p := ⟨ba, _, none⟩) hba).trans c1
        have d2 : wr.cell? ⟨ba, oa + k * 3 + 1, none⟩ = _ := (B1.out.cell (p := ⟨ba, _, none⟩) hba).trans c2
        have d3 : wr.cell? ⟨ba, oa + k * 3 + 2, none⟩ = _ := (B1.out.cell (p := ⟨ba, _, none⟩) hba).trans c3
        clear c1 c2 c3
        go_upto_region 7 with fail
        have R3 := Lib.hid (R1.out.alloc (.cells #[.int .i64 (G.fr k : Int), .int .i64 (G.to k : Int), .int .i64 (G.cap k)] 50))
        have B3 := Lib.hid (B1.out.alloc (by have := B1.out.size; omega) (.cells #[.int .i64 (G.fr k : Int), .int .i64 (G.to k : Int), .int .i64 (G.cap k)] 50))
        obtain ⟨H, hH⟩ : ∃ H, H = wr.heap.size := ⟨_, rfl⟩
        have h0 : (wr.alloc (.cells #[.int .i64 (G.fr k : Int), .int .i64 (G.to k : Int), .int .i64 (G.cap k)] 50)).cell? ⟨H, 0, none⟩ = some (.int .i64 (G.fr k : Int)) := by rw [hH]; simp
        have h1 : (wr.alloc (.cells #[.int .i64 (G.fr k : Int), .int .i64 (G.to k : Int), .int .i64 (G.cap k)] 50)).cell? ⟨H, 1, none⟩ = some (.int .i64 (G.to k : Int)) := by rw [hH]; simp
        have h2 : (wr.alloc (.cells #[.int .i64 (G.fr k : Int), .int .i64 (G.to k : Int), .int .i64 (G.cap k)] 50)).cell? ⟨H, 2, none⟩ = some (.int .i64 (G.cap k)) := by rw [hH]; simp
        have SZ : Hid (q.F < H ∧ q.A < H ∧ q.T < H ∧ q.R < H) := Lib.hid (by rw [hH]; have := R1.out.size; exact ⟨this.2.1, this.2.2.1, this.2.2.2.1, this.2.2.2.2.1⟩)
        rw [← hH]
        clear d1 d2 d3 R1 B1 hH
        revert R3 B3 h0 h1 h2
        generalize (wr.alloc (.cells #[.int .i64 (G.fr k : Int), .int .i64 (G.to k : Int), .int .i64 (G.cap k)] 50)) = w5
        intro R3 B3 h0 h1 h2
        obtain ⟨j, hj⟩ : ∃ j, j = 2 * k := ⟨_, rfl⟩
        have AK0 := fun W => along_run k W (by omega)
        rw [← hj] at AK0
        have AK := Lib.hid AK0
        have HJ := Lib.hid hj
        rw [← hj] at R3
        have hjE : j + 1 < E := by have := HE.out; omega
        have BK0 := fun W => back_run j W (by omega)
        rw [show bk j = j + 1 by unfold bk; rw [if_pos (by omega)]] at BK0
        obtain ⟨z, hz⟩ : ∃ z, z = j + 1 := ⟨_, rfl⟩
        rw [← hz] at BK0
        have BK := Lib.hid BK0
        have HZ := Lib.hid hz
        have hzE : z < E := by omega
        have EF : Hid (G.fr k = G.ef j ∧ G.to k = G.et j ∧ G.cap k = R0 G j ∧ G.to k = G.ef (j + 1) ∧ G.fr k = G.et (j + 1) ∧ (0 : Int) = R0 G (j + 1)) := Lib.hid (by
          unfold Nt.ef Nt.et R0
          rw [hj, if_pos (by omega), if_pos (by omega), if_pos (by omega), if_neg (by omega), if_neg (by omega), if_neg (by omega), show 2 * k / 2 = k by omega, show (2 * k + 1) / 2 = k by omega]
          exact ⟨rfl, rfl, rfl, rfl, rfl, rfl⟩)
        clear hj AK0 BK0 hz
        have A1 := Lib.hid (add_step (u := G.fr k) (x := G.to k) (y := G.cap k) Q0.out HG.out hE2 hN NG.out (by rw [GM.out]; exact HE.out) R3.out.drew (by omega) EF.out.1 EF.out.2.1 EF.out.2.2.1)
        have s0 : World.cell? { heap := w5.heap, tape := w5.tape, drawn := w5.drawn + 1, os := w5.os, output := w5.output } ⟨H, 0, none⟩ = some (.int .i64 (G.fr k : Int)) := h0
        have s1 : World.cell? { heap := w5.heap, tape := w5.tape, drawn := w5.drawn + 1, os := w5.os, output := w5.output } ⟨H, 1, none⟩ = some (.int .i64 (G.to k : Int)) := h1
        have s2 : World.cell? { heap := w5.heap, tape := w5.tape, drawn := w5.drawn + 1, os := w5.os, output := w5.output } ⟨H, 2, none⟩ = some (.int .i64 (G.cap k)) := h2
        go_still_tail 9, (by kernel_rfl)
        still_call (AK.out _)
        repeat still_step
        refine wpStill_nil ?_
        change wpList _ _ _ _ _ w5.drew
        clear s0 s1 s2
        go_wp2_with fail
        refine A1.out.mono ?_
        rintro _ w6 ⟨rfl, r6, b6, x6⟩
        have R6 := Lib.hid r6
        have B6 := Lib.hid (B3.out.trans ((Below.drew (Below.refl _ w5)).trans (b6.mono (by omega))))
        have g0 : w6.cell? ⟨H, 0, none⟩ = some (.int .i64 (G.fr k : Int)) := (World.cell?_of_block (w := w5) (x6 H (by have := SZ.out; omega) (by have := SZ.out; omega) (by have := SZ.out; omega) (by have := SZ.out; omega))).trans h0
        have g1 : w6.cell? ⟨H, 1, none⟩ = some (.int .i64 (G.to k : Int)) := (World.cell?_of_block (w := w5) (x6 H (by have := SZ.out; omega) (by have := SZ.out; omega) (by have := SZ.out; omega) (by have := SZ.out; omega))).trans h1
        clear r6 b6 x6 h0 h1 h2 A1 R3 B3
        have R7 := R6.out.drew
        rw [← HZ.out] at R7
        have E7 := EF.out.2.2.2
        rw [← HZ.out] at E7
        have A2 := Lib.hid (add_step (u := G.to k) (x := G.fr k) (y := 0) Q0.out HG.out hE2 hN NG.out (by rw [GM.out]; exact HE.out) R7 hzE E7.1 E7.2.1 E7.2.2)
        clear R7 E7
        have s0 : World.cell? { heap := w6.heap, tape := w6.tape, drawn := w6.drawn + 1, os := w6.os, output := w6.output } ⟨H, 0, none⟩ = some (.int .i64 (G.fr k : Int)) := g0
        have s1 : World.cell? { heap := w6.heap, tape := w6.tape, drawn := w6.drawn + 1, os := w6.os, output := w6.output } ⟨H, 1, none⟩ = some (.int .i64 (G.to k : Int)) := g1
        go_wp2_with fail
        go_still_tail 8, (by kernel_rfl)
        still_call (AK.out _)
        repeat still_step
        still_call (BK.out _)
        repeat still_step
        refine wpStill_nil ?_
        change wpList _ _ _ _ _ w6.drew
        clear s0 s1 g0 g1
        go_wp2_with fail
        refine A2.out.mono ?_
        rintro _ w7 ⟨rfl, r7, b7, _⟩
        have R8 : Hid (Raw w7 q N E s t (aF G (2 * (k + 1))) (aA G (2 * (k + 1))) (aT G (2 * (k + 1))) (aR G (2 * (k + 1)))) := Lib.hid (by
          rw [show z + 1 = 2 * (k + 1) by have := HZ.out; have := HJ.out; omega] at r7
          exact r7)
        have B8 := Lib.hid (B6.out.trans ((Below.drew (Below.refl _ w6)).trans (b7.mono (by omega))))
        clear r7 b7 A2 R6 B6
        go_wp2_with fail
        go_roundw
        case rel => exact ⟨k + 1, by go_num, by have := GM.out; omega, R8.out, B8.out⟩
        case measure => simp [intOf]; omega
      · obtain rfl : k = l.length := by omega
        go_wp2_with fail
        go_ret
        refine ⟨q, rfl, Q0.out.mono (by omega), ?_, B1.out⟩
        obtain ⟨hd, rF, rA, rT, rR, rD, rX⟩ := R1.out
        have eN := NG.out
        have eM := GM.out
        have eE := HE.out
        refine ⟨by rw [eN, eM, ← eE]; exact hd, ?_, ?_, ?_, ?_, by rw [eN]; exact rD, by rw [eN]; exact rX⟩
        · rw [eN, eM]; exact rF
        · rw [eM, ← eE]; exact rA.congr fun i hi => by show Value.int _ (if i < 2 * l.length then _ else 0) = _; rw [if_pos (by omega)]; rfl
        · rw [eM, ← eE]; exact rT.congr fun i hi => by show Value.int _ (if i < 2 * l.length then _ else 0) = _; rw [if_pos (by omega)]; rfl
        · rw [eM, ← eE]; exact rR.congr fun i hi => by show Value.int _ (if i < 2 * l.length then _ else 0) = _; rw [if_pos (by omega)]; rfl
end Go.Proofs.Ytjkempammohkaaa
