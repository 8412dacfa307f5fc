/-
  What can be reached, in the reference.
-/
import Derived.Test.YtjkempammohkaaaFlP
namespace Go.Proofs.Ytjkempammohkaaa
open Go.RowKit
open IntWalk
open Fl
set_option linter.unusedVariables false

/-- Truths as values. -/
def bv (S : Nat → Bool) (i : Nat) : Value := .bool (S i)
def updB (S : Nat → Bool) (k : Nat) : Nat → Bool := fun i => if i = k then true else S i
/-- How many of the first n are true. -/
def ct (S : Nat → Bool) : Nat → Nat
  | 0 => 0
  | n + 1 => ct S n + if S n = true then 1 else 0
theorem ct_le (S : Nat → Bool) (n : Nat) : ct S n ≤ n := by
  induction n with
  | zero => exact Nat.le_refl _
  | succ n ih => show ct S n + (if _ then _ else _) ≤ _; split <;> omega
theorem ct_upd {S : Nat → Bool} {n v : Nat} (hv : v < n) (h : S v = false) : ct (updB S v) n = ct S n + 1 := by
  have far : ∀ k, k ≤ v → ct (updB S v) k = ct S k := by
    intro k
    induction k with
    | zero => intro _; rfl
    | succ k ih => intro hk; show ct _ k + (if (if k = v then true else S k) = true then 1 else 0) = ct S k + _; rw [ih (by omega), if_neg (show ¬ k = v by omega)]
  induction n with
  | zero => omega
  | succ n ih =>
    show ct _ n + (if (if n = v then true else S n) = true then 1 else 0) = ct S n + (if S n = true then 1 else 0) + 1
    by_cases c : v = n
    · subst c; rw [far v (Nat.le_refl _), if_pos (rfl : v = v), h]; simp
    · rw [ih (by omega), if_neg (show ¬ n = v from fun e => c e.symm)]; omega
theorem ct_pos {S : Nat → Bool} {n v : Nat} (hv : v < n) (h : S v = true) : 1 ≤ ct S n := by
  induction n with
  | zero => omega
  | succ n ih =>
    show 1 ≤ ct S n + (if S n = true then 1 else 0)
    by_cases c : v = n
    · subst c; rw [if_pos h]; omega
    · have := ih (by omega); omega
/-- The set so far. -/
structure RSt (G : Nt) (f : Nat → Int) (s : Nat) (S : Nat → Bool) : Prop where
  src : S s = true
  least : ∀ C : Nat → Bool, C s = true → G.Closed f C → ∀ v, v < G.N → S v = true → C v = true
/-- No edge of the first arcs leaves the set. -/
def DTo (G : Nt) (f : Nat → Int) (S : Nat → Bool) (k : Nat) : Prop := ∀ j, j < k → (S (G.fr j) = true → f j < G.cap j → S (G.to j) = true) ∧ (S (G.to j) = true → 0 < f j → S (G.fr j) = true)
theorem RSt.along {G : Nt} {f : Nat → Int} {s : Nat} {S : Nat → Bool} (h : RSt G f s S) {i : Nat} (hi : i < G.m) (hN : G.fr i < G.N) (h1 : S (G.fr i) = true) (h2 : f i < G.cap i) : RSt G f s (updB S (G.to i)) :=
  ⟨by show (if _ then _ else _) = _; split; rfl; exact h.src, fun C c1 c2 v hv hS => by
    have hS' : (if v = G.to i then true else S v) = true := hS
    split at hS'
    · rename_i e; rw [e]; exact c2.along i hi (h.least C c1 c2 _ hN h1) h2
    · exact h.least C c1 c2 v hv hS'⟩
theorem RSt.back {G : Nt} {f : Nat → Int} {s : Nat} {S : Nat → Bool} (h : RSt G f s S) {i : Nat} (hi : i < G.m) (hN : G.to i < G.N) (h1 : S (G.to i) = true) (h2 : 0 < f i) : RSt G f s (updB S (G.fr i)) :=
  ⟨by show (if _ then _ else _) = _; split; rfl; exact h.src, fun C c1 c2 v hv hS => by
    have hS' : (if v = G.fr i then true else S v) = true := hS
    split at hS'
    · rename_i e; rw [e]; exact c2.back i hi (h.least C c1 c2 _ hN h1) h2
    · exact h.least C c1 c2 v hv hS'⟩
theorem RSt.reach {G : Nt} {f : Nat → Int} {s : Nat} {S : Nat → Bool} (h : RSt G f s S) (d : DTo G f S G.m) : G.Reach f s S :=
  ⟨h.src, ⟨fun i hi a b => (d i hi).1 a b, fun i hi a b => (d i hi).2 a b⟩, h.least⟩
theorem bv_upd {w : World} {b n : Nat} {S : Nat → Bool} (h : w.rowIs b 4 n (bv S)) (i : Nat) : (w.setCell ⟨b, i, none⟩ (.bool true)).rowIs b 4 n (bv (updB S i)) :=
  (h.set i _).congr fun j hj => by
    show (if j = i then _ else _) = Value.bool (if j = i then true else S j)
    split <;> rfl
/-- What stays all the time. -/
structure RcB (w : World) (N : Nat) (p : Option Addr) (n c b : Nat) (wr : World) : Prop where
  below : Below w.heap.size w wr
  lt : b < wr.heap.size
  c0 : wr.cell? ⟨w.heap.size, 0, none⟩ = some (.int .i64 (N : Int))
  c1 : wr.cell? ⟨w.heap.size, 1, none⟩ = some (.slice p n c)
theorem RcB.alloc {w wr : World} {N : Nat} {p : Option Addr} {n c b : Nat} (h : RcB w N p n c b wr) (hb : w.heap.size < b) (o : Obj) : RcB w N p n c b (wr.alloc o) :=
  ⟨h.below.alloc (by have := h.lt; omega) o, by have := h.lt; simp; omega, (World.cell?_alloc_some _ _ _ (by rw [h.c0]; rfl)).trans h.c0, (World.cell?_alloc_some _ _ _ (by rw [h.c1]; rfl)).trans h.c1⟩
theorem RcB.drewN {w wr : World} {N : Nat} {p : Option Addr} {n c b : Nat} (h : RcB w N p n c b wr) (k : Nat) : RcB w N p n c b (wr.drewN k) := ⟨b_draws h.below k, h.lt, h.c0, h.c1⟩
theorem RcB.set {w wr : World} {N : Nat} {p : Option Addr} {n c b : Nat} (h : RcB w N p n c b wr) (hb : w.heap.size < b) (i : Nat) (v : Value) : RcB w N p n c b (wr.setCell ⟨b, i, none⟩ v) :=
  ⟨h.below.setCell (p := ⟨b, i, none⟩) (by simp only; omega) v, by simpa using h.lt, (World.cell?_setCell_far wr _ _ _ (by simp only; omega)).trans h.c0, (World.cell?_setCell_far wr _ _ _ (by simp only; omega)).trans h.c1⟩
def ROut (w : World) (N : Nat) (G : Nt) (f : Nat → Int) (s : Nat) (p : Option Addr) (n c b : Nat) (r : Value) (wr : World) : Prop :=
  ∃ (k : Nat) (S : Nat → Bool), r = .int .i64 (k : Int) ∧ k ≤ N ∧ k + 1 ≤ ct S N ∧ RSt G f s S ∧ wr.rowIs b 4 N (bv S) ∧ RcB w N p n c b wr
def RIn (w : World) (N : Nat) (G : Nt) (f : Nat → Int) (s : Nat) (p : Option Addr) (n c b k0 : Nat) (dn i : Value) (wr : World) : Prop :=
  ∃ (k : Nat) (S : Nat → Bool) (d : Bool), i = .int .i64 (k : Int) ∧ dn = .bool d ∧ k ≤ n ∧ (d = true → DTo G f S k) ∧ k0 + 1 ≤ ct S N ∧ (d = false → k0 + 2 ≤ ct S N) ∧ RSt G f s S ∧ wr.rowIs b 4 N (bv S) ∧ RcB w N p n c b wr
def ReachPost (N : Nat) (G : Nt) (f : Nat → Int) (s : Nat) (w : World) (e : Ending) (w' : World) : Prop :=
  ∃ (S : Nat → Bool) (b : Nat), e = .returned (.slice (some ⟨b, 0, none⟩) N N) ∧ w.heap.size ≤ b ∧ w'.rowIs b 4 N (bv S) ∧ G.Reach f s S ∧ Below w.heap.size w w'

set_option maxHeartbeats 8000000 in
set_option maxRecDepth 100000 in
theorem reach_run {N : Nat} {l : List Ac} {G : Nt} (eG : G = netG (N : Int) l) (NK : NetOk (N : Int) l) (hN : N ≤ 10000) (hl : l.length ≤ 10000) (p : Option Addr) (c : Nat) (s : Nat) (hs : s < N) (L : List Int) (pl : Option Addr) (cl : Nat) (w : World) (hA : NetAt w p l) (hI : IAt w pl L) (hL : L.length = l.length) :
    Calls Try.prog 20 #[.agg #[.int .i64 (N : Int), .slice p l.length c], .int .i64 (s : Int), .slice pl L.length cl] w (ReachPost N G (fL L) s w) := by
  have HA := Lib.hid hA
  have HI := Lib.hid hI
  have HK := Lib.hid NK
  have NG : Hid (G.N = N) := Lib.hid (by rw [eG]; show (N : Int).toNat = N; omega)
  have GM : Hid (G.m = l.length) := Lib.hid (by rw [eG]; rfl)
  have HG : Hid G.Ok := Lib.hid (by rw [eG]; exact NK.ok)
  have EG := Lib.hid eG
  have HLL := Lib.hid hL
  rw [hL]
  clear hA hI NK eG hL
  have mk1 := fun W => make_bools N (by omega) W
  go_enter Try.func20, Try.ntmps20
  go_upto_region 2 with fail
  clear mk1
  have RB : ((w.alloc (.cells #[.int .i64 (N : Int), .slice p l.length c] 24)).alloc (.cells (Array.replicate N (.bool false)) 4)).rowIs (w.heap.size + 1) 4 N (bv fun _ => false) := by
    have := World.rowIs_alloc (w.alloc (.cells #[.int .i64 (N : Int), .slice p l.length c] 24)) (Array.replicate N (.bool false)) 4 (bv fun _ => false) (fun q hq => by
      have hq' : q < N := by simpa using hq
      simp [hq', bv])
    simpa using this
  have RC : Hid (RcB w N p l.length c (w.heap.size + 1) ((w.alloc (.cells #[.int .i64 (N : Int), .slice p l.length c] 24)).alloc (.cells (Array.replicate N (.bool false)) 4))) := Lib.hid
    ⟨((Below.refl _ _).alloc (Nat.le_refl _) _).alloc (by simp) _, by simp, by simp, by simp⟩
  have R0 := Lib.hid (bv_upd RB s)
  have R1 := Lib.hid (RC.out.set (by omega) s (.bool true))
  have kb := RB.cell hs
  have kf := RB.frozen s
  unfold bv at kb
  clear RB RC
  revert R0 R1 kb kf
  generalize ((w.alloc (.cells #[.int .i64 (N : Int), .slice p l.length c] 24)).alloc (.cells (Array.replicate N (.bool false)) 4)) = w1
  intro R0 R1 kb kf
  obtain ⟨b, hb⟩ : ∃ b, b = w.heap.size + 1 := ⟨_, rfl⟩
  rw [← hb] at R0 R1 kb kf ⊢
  have hbz : w.heap.size < b := by omega
  clear hb
  have A0 : Hid (ROut w N G (fL L) s p l.length c b (.int .i64 0) (w1.setCell ⟨b, s, none⟩ (.bool true))) := Lib.hid ⟨0, updB (fun _ => false) s, rfl, Nat.zero_le _, ct_pos hs (by simp [updB]), ⟨by simp [updB], fun C c1 c2 v hv hS => by
    have hS' : (if v = s then true else false) = true := hS
    split at hS'
    · rename_i e; rw [e]; exact c1
    · exact absurd hS' (by decide)⟩, R0.out, R1.out⟩
  clear R0 R1
  go_wp2_with fail
  clear kb kf
  go_loopw [8] (fun r wr => ROut w N G (fL L) s p l.length c b r wr) (fun r _ => N - (intOf r).toNat)
  case atStart => exact A0.out
  case round =>
    clear A0
    obtain ⟨k0, S0, rfl, hk0, hct, hst, hrow, hrb⟩ := hrel
    have c0 := hrb.c0
    have c1 := hrb.c1
    by_cases hlt0 : k0 < N
    · have A1 : Hid (RIn w N G (fL L) s p l.length c b k0 (.bool true) (.int .i64 0) wr) := Lib.hid ⟨0, S0, true, rfl, rfl, Nat.zero_le _, fun _ j hj => by omega, hct, fun h => by simp at h, hst, hrow, hrb⟩
      clear hct hst hrow hrb
      go_wp2_with fail
      obtain ⟨wo, rfl⟩ : ∃ wo : World, wo = wr := ⟨_, rfl⟩
      clear c0 c1
      go_loopw [9, 10] (fun dn i wr => RIn w N G (fL L) s p l.length c b k0 dn i wr) (fun _ i _ => l.length - (intOf i).toNat)
      case atStart => exact A1.out
      case round =>
        clear A1
        obtain ⟨k, S, d, rfl, rfl, hk, hd, hct, hct2, hst, hrow, hrb⟩ := hrel
        have c0 := hrb.c0
        have c1 := hrb.c1
        have RB := Lib.hid hrow
        have RC := Lib.hid hrb
        have HD := Lib.hid hd
        have HCT := Lib.hid hct
        have HCT2 := Lib.hid hct2
        have HST := Lib.hid hst
        clear hd hct hct2 hst hrow
        by_cases hlt : k < l.length
        · obtain ⟨ba, oa, rfl, hba, hca⟩ := HA.out (by intro e; rw [e] at hlt; simp at hlt)
          obtain ⟨bl, ol, rfl, hbl, hcl⟩ := HI.out (by intro e; have := HLL.out; rw [e] at this; simp at this; omega)
          obtain ⟨a1, a2, a3⟩ := hca k hlt
          obtain ⟨e1, e2, e3⟩ := HK.out.at_ k hlt
          rw [← EG.out] at e1 e2 e3
          rw [e1] at a1
          rw [e2] at a2
          rw [e3] at a3
          have d1 : wr.cell? ⟨ba, oa + k * 3, none⟩ = _ := (hrb.below.cell (p := ⟨ba, _, none⟩) hba).trans a1
          have d2 : wr.cell? ⟨ba, oa + k * 3 + 1, none⟩ = _ := (hrb.below.cell (p := ⟨ba, _, none⟩) hba).trans a2
          have d3 : wr.cell? ⟨ba, oa + k * 3 + 2, none⟩ = _ := (hrb.below.cell (p := ⟨ba, _, none⟩) hba).trans a3
          have hkL : k < L.length := by have := HLL.out; omega
          have a4 := hcl k hkL
          rw [← fL_at hkL] at a4
          have d4 : wr.cell? ⟨bl, ol + k, none⟩ = some (.int .i64 (fL L k)) := (hrb.below.cell (p := ⟨bl, _, none⟩) hbl).trans a4
          have hkm : k < G.m := by have := GM.out; omega
          have f0 := HG.out.frN k hkm
          have g0 := HG.out.toN k hkm
          have ne := HG.out.ne k hkm
          have NE := Lib.hid (⟨f0, g0, ne⟩ : G.fr k < G.N ∧ G.to k < G.N ∧ G.fr k ≠ G.to k)
          rw [NG.out] at f0 g0
          have KM := Lib.hid hkm
          have hlb : bl ≠ b := by omega
          have hab : ba ≠ b := by omega
          clear hca hcl e1 e2 e3 a1 a2 a3 a4 hkm hrb hkL
          obtain ⟨x, hx⟩ : ∃ x, x = fL L k := ⟨_, rfl⟩
          obtain ⟨u, hu⟩ : ∃ u, u = G.fr k := ⟨_, rfl⟩
          obtain ⟨v, hv⟩ : ∃ v, v = G.to k := ⟨_, rfl⟩
          obtain ⟨z, hz2⟩ : ∃ z, z = G.cap k := ⟨_, rfl⟩
          rw [← hx] at d4
          rw [← hu] at d1 f0 ne
          rw [← hv] at d2 g0 ne
          rw [← hz2] at d3
          have EQ := Lib.hid (⟨hx, hu, hv, hz2⟩ : x = fL L k ∧ u = G.fr k ∧ v = G.to k ∧ z = G.cap k)
          clear hx hu hv hz2
          go_upto_region 11 with fail
          have RC2 := Lib.hid (RC.out.alloc hbz (.cells #[.int .i64 (u : Int), .int .i64 (v : Int), .int .i64 z] 50))
          have R2 := Lib.hid (RB.out.alloc (.cells #[.int .i64 (u : Int), .int .i64 (v : Int), .int .i64 z] 50))
          have kl : (wr.alloc (.cells #[.int .i64 (u : Int), .int .i64 (v : Int), .int .i64 z] 50)).cell? ⟨bl, ol + k, none⟩ = some (.int .i64 x) := (World.cell?_alloc_some _ _ _ (by rw [d4]; rfl)).trans d4
          obtain ⟨H, hH⟩ : ∃ H, H = wr.heap.size := ⟨_, rfl⟩
          have h0 : (wr.alloc (.cells #[.int .i64 (u : Int), .int .i64 (v : Int), .int .i64 z] 50)).cell? ⟨H, 0, none⟩ = some (.int .i64 (u : Int)) := by rw [hH]; simp
          have h1 : (wr.alloc (.cells #[.int .i64 (u : Int), .int .i64 (v : Int), .int .i64 z] 50)).cell? ⟨H, 1, none⟩ = some (.int .i64 (v : Int)) := by rw [hH]; simp
          have h2 : (wr.alloc (.cells #[.int .i64 (u : Int), .int .i64 (v : Int), .int .i64 z] 50)).cell? ⟨H, 2, none⟩ = some (.int .i64 z) := by rw [hH]; simp
          have hHb : b ≠ H := by have := RC.out.lt; omega
          rw [← hH]
          clear d1 d2 d3 d4 c0 c1 RB RC hH
          revert RC2 R2 kl h0 h1 h2
          generalize (wr.alloc (.cells #[.int .i64 (u : Int), .int .i64 (v : Int), .int .i64 z] 50)) = w2
          intro RC2 R2 kl h0 h1 h2
          have c0 := RC2.out.c0
          have c1 := RC2.out.c1
          have ku := R2.out.cell f0
          have kv := R2.out.cell g0
          unfold bv at ku kv
          have i0 : (0 : Int) ≤ (u : Int) := by omega
          have i1 : (u : Int) < (N : Int) := by omega
          have i2 : (0 : Int) ≤ (v : Int) := by omega
          have i3 : (v : Int) < (N : Int) := by omega
          have i4 : (0 : Int) ≤ (k : Int) := by omega
          have i5 : (k : Int) < (l.length : Int) := by omega
          have DN : Hid ((d = true → (S u = true → x < z → S v = true) ∧ (S v = true → 0 < x → S u = true)) → d = true → DTo G (fL L) S (k + 1)) := Lib.hid (fun h hd j hj => by
            by_cases e : j = k
            · subst e; have := h hd; rw [EQ.out.1, EQ.out.2.1, EQ.out.2.2.1, EQ.out.2.2.2] at this; exact this
            · exact HD.out hd j (by omega))
          cases pu : S u
          · rw [pu] at ku
            cases pv : S v
            · rw [pv] at kv
              go_quiet (fail)
              go_wp2_with fail
              go_roundw
              case rel => exact ⟨k + 1, S, d, by go_num, rfl, by omega, DN.out (fun _ => ⟨fun h => absurd (pu.symm.trans h) (by decide), fun h => absurd (pv.symm.trans h) (by decide)⟩), HCT.out, HCT2.out, HST.out, R2.out.of_block rfl, RC2.out.drewN _⟩
              case measure => simp [intOf]; omega
            · rw [pv] at kv
              by_cases xp : 0 < x
              · have fz := R2.out.frozen u
                have cu := ct_upd f0 pu
                have CU := Lib.hid cu
                clear cu
                have ST : Hid (RSt G (fL L) s (updB S u)) := Lib.hid (EQ.out.2.1 ▸ HST.out.back KM.out NE.out.2.1 (by rw [← EQ.out.2.2.1]; exact pv) (by rw [← EQ.out.1]; exact xp))
                have R5 : Hid (∀ n, ((w2.drewN n).setCell ⟨b, u, none⟩ (.bool true)).rowIs b 4 N (bv (updB S u))) := Lib.hid (fun n => bv_upd (R2.out.of_block (w' := w2.drewN n) rfl) u)
                have RC5 : Hid (∀ n, RcB w N (some ⟨ba, oa, none⟩) l.length c b ((w2.drewN n).setCell ⟨b, u, none⟩ (.bool true))) := Lib.hid (fun n => (RC2.out.drewN n).set hbz u _)
                have PU := Lib.hid pu
                have PV := Lib.hid pv
                clear pu pv
                go_quiet (fail)
                go_wp2_with fail
                go_roundw
                case rel => exact ⟨k + 1, updB S u, false, by go_num, rfl, by omega, fun h => absurd h (by decide), by rw [CU.out]; have := HCT.out; omega, fun _ => by rw [CU.out]; have := HCT.out; omega, ST.out, R5.out _, RC5.out _⟩
                case measure => simp [intOf]; omega
              · go_quiet (fail)
                go_wp2_with fail
                go_roundw
                case rel => exact ⟨k + 1, S, d, by go_num, rfl, by omega, DN.out (fun _ => ⟨fun h => absurd (pu.symm.trans h) (by decide), fun _ h => absurd h xp⟩), HCT.out, HCT2.out, HST.out, R2.out.of_block rfl, RC2.out.drewN _⟩
                case measure => simp [intOf]; omega
          · rw [pu] at ku
            cases pv : S v
            · rw [pv] at kv
              by_cases xz : x < z
              · have fz := R2.out.frozen v
                have cu := ct_upd g0 pv
                have CU := Lib.hid cu
                clear cu
                have ST : Hid (RSt G (fL L) s (updB S v)) := Lib.hid (EQ.out.2.2.1 ▸ HST.out.along KM.out NE.out.1 (by rw [← EQ.out.2.1]; exact pu) (by rw [← EQ.out.1, ← EQ.out.2.2.2]; exact xz))
                have R5 : Hid (∀ n, ((w2.drewN n).setCell ⟨b, v, none⟩ (.bool true)).rowIs b 4 N (bv (updB S v))) := Lib.hid (fun n => bv_upd (R2.out.of_block (w' := w2.drewN n) rfl) v)
                have RC5 : Hid (∀ n, RcB w N (some ⟨ba, oa, none⟩) l.length c b ((w2.drewN n).setCell ⟨b, v, none⟩ (.bool true))) := Lib.hid (fun n => (RC2.out.drewN n).set hbz v _)
                have PU := Lib.hid pu
                have PV := Lib.hid pv
                clear pu pv
                go_quiet (fail)
                go_wp2_with fail
                go_roundw
                case rel => exact ⟨k + 1, updB S v, false, by go_num, rfl, by omega, fun h => absurd h (by decide), by rw [CU.out]; have := HCT.out; omega, fun _ => by rw [CU.out]; have := HCT.out; omega, ST.out, R5.out _, RC5.out _⟩
                case measure => simp [intOf]; omega
              · go_quiet (fail)
                go_wp2_with fail
                go_roundw
                case rel => exact ⟨k + 1, S, d, by go_num, rfl, by omega, DN.out (fun _ => ⟨fun _ h => absurd h xz, fun h => absurd (pv.symm.trans h) (by decide)⟩), HCT.out, HCT2.out, HST.out, R2.out.of_block rfl, RC2.out.drewN _⟩
                case measure => simp [intOf]; omega
            · rw [pv] at kv
              go_quiet (fail)
              go_wp2_with fail
              go_roundw
              case rel => exact ⟨k + 1, S, d, by go_num, rfl, by omega, DN.out (fun _ => ⟨fun _ _ => pv, fun _ _ => pu⟩), HCT.out, HCT2.out, HST.out, R2.out.of_block rfl, RC2.out.drewN _⟩
              case measure => simp [intOf]; omega
        · obtain rfl : k = l.length := by omega
          cases d with
          | true =>
            go_wp2_with fail
            go_ret
            exact ⟨S, b, rfl, by omega, RB.out, HST.out.reach (by rw [GM.out]; first | exact HD.out rfl | exact HD.out trivial), RC.out.below⟩
          | false =>
            go_wp2_with fail
            go_roundw
            case rel => exact ⟨k0 + 1, S, by go_num, by omega, by first | exact HCT2.out rfl | exact HCT2.out trivial, HST.out, RB.out, RC.out⟩
            case measure => simp [intOf]; omega
    · have := ct_le S0 N
      omega
end Go.Proofs.Ytjkempammohkaaa
