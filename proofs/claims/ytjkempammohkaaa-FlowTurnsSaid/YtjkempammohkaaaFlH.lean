/-
  The greatest flow: the walk of its loop.
-/
import Derived.Test.YtjkempammohkaaaFlE
import Derived.Test.YtjkempammohkaaaFlG
import Derived.Laws.CopyOwn
namespace Go.Proofs.Ytjkempammohkaaa
open Go.RowKit
open IntWalk
open Fl
set_option linter.unusedVariables false

/-- A row is copied over another one. -/
theorem wpList_copy_rows {P : Program} (w : World) {ops : Array Oper} {rest : List Oper} {o : Oper} {a : Act} {Q : Exit → Act → World → Prop} (hgd : o.guard = none) (d s : Operand) (dT sT : TypeId)
    (ho : o.op = .call { callee := .builtin .copy, args := #[d, s], argTypes := #[dT, sT] }) (elem : TypeId) (hu : P.underlying dT = some (.slice elem)) (hsz : (P.info? elem).map (·.size) = some 1)
    (g g2 n : Nat) (t : TypeId) (f f2 : Nat → Value) (hd : a.eval d = .slice (some ⟨g, 0, none⟩) n n) (hs : a.eval s = .slice (some ⟨g2, 0, none⟩) n n)
    (h1 : w.rowIs g t n f) (h2 : w.rowIs g2 t n f2) (one : ∀ i, i < n → (f2 i).oneCell' = true)
    (h : ∀ w', w'.rowIs g t n f2 → Only g w w' → wpList P ops Q rest (a.put o.dst (goInt n)) w') : wpList P ops Q (o :: rest) a w := by
  obtain ⟨cur, hg, hc, _⟩ := h1
  have hl : ((List.range n).map f2).length = n := by simp
  refine wpList_copy_own hgd d s dT sT ho elem hu hsz g 0 n n ⟨g2, 0, none⟩ n n hd hs cur t hg ((List.range n).map f2) (by rw [hl]; exact (Nat.min_self n).symm) (fun j v hj => ?_) (by rw [hl]; omega) (fun v hv => ?_) ?_
  · have hjn : j < n := by have := (List.getElem?_eq_some_iff.1 hj).1; rwa [hl] at this
    rw [Addr.add_lit, Nat.zero_add, h2.cell hjn]
    rw [List.getElem?_map, List.getElem?_range hjn] at hj
    simpa using hj
  · obtain ⟨i, hi, rfl⟩ := List.mem_map.1 hv
    exact one i (List.mem_range.1 hi)
  · rw [hl]
    refine h _ ⟨_, setRow_heap w g cur _ t _ hg, ?_, fun i hi => ?_⟩ ⟨rfl, rfl, rfl, by simp [World.setRow], fun k hk => setRow_other w g k _ hk⟩
    · simp; omega
    · simp only [List.take_zero, List.nil_append, List.getElem?_toArray]
      rw [List.getElem?_append_left (by simpa using hi), List.getElem?_map, List.getElem?_range hi]
      rfl

/-- What the loop returns and leaves. -/
def MaxPost (B : Nat) (q : Bl) (G : Nt) (s t : Nat) (w : World) (e : Ending) (w' : World) : Prop :=
  ∃ (v : Int) (R D X : Nat → Int), e = .returned (.int .i64 v) ∧ Res w' q G s t R D X ∧ RS G R ∧ (∀ u, G.out (fl R) u = give s t v u) ∧ Dst G s R D ∧ D t = -1 ∧ (∀ e, e < 2 * G.m → D (G.ef e) ≠ -1 → 0 < R e → D (G.et e) ≠ -1) ∧ Below B w w'
def MaxHd (B : Nat) (q : Bl) (G : Nt) (s t K : Nat) (w : World) (gk : Nat) (p : Value) (wr : World) : Prop :=
  ∃ (v : Int) (R D X : Nat → Int), p = .int .i64 v ∧ 0 ≤ v ∧ Res wr q G s t R D X ∧ RS G R ∧ (∀ u, G.out (fl R) u = give s t v u) ∧ K - v.toNat ≤ gk ∧ Below B w wr
theorem val_bd {G : Nt} (hG : G.Ok) {s t : Nat} (hs : s < G.N) (hst : s ≠ t) {R : Nat → Int} {v : Int} (rs : RS G R) (ho : ∀ u, G.out (fl R) u = give s t v u) : v ≤ G.m * 1099511627776 := by
  have a := out_bound hG hs hst (rs.flow (s := s) (t := t) fun u hu h1 h2 => by rw [ho]; unfold give; rw [if_neg (Ne.symm h1), if_neg (Ne.symm h2)]; rfl)
  rw [ho] at a
  unfold give at a
  rw [if_pos rfl, if_neg (Ne.symm hst)] at a
  omega

set_option maxHeartbeats 4000000 in
set_option maxRecDepth 100000 in
theorem maximize_run {B : Nat} {q : Bl} (o : q.Ok B) {G : Nt} (hG : G.Ok) (hm : G.m ≤ 10000) (hN : G.N ≤ 10000) {s t : Nat} (hs : s < G.N) (ht : t < G.N) (hst : s ≠ t) {D X : Nat → Int} {w : World} (hR : Res w q G s t (R0 G) D X) :
    Calls Try.prog 29 #[.pointer (some ⟨q.g, 0, none⟩)] w (MaxPost B q G s t w) := by
  obtain ⟨K, hK⟩ : ∃ K : Nat, K = G.m * 1099511627776 := ⟨_, rfl⟩
  have HK := Lib.hid hK
  clear hK
  have A0 : Hid (MaxHd B q G s t K w K (.int .i64 0) w) := Lib.hid ⟨0, _, _, _, rfl, Int.le_refl _, hR, RS0 hG, fun u => by rw [out0, give_zero], by omega, Below.refl _ _⟩
  have O := Lib.hid o
  have HG := Lib.hid hG
  have HST := Lib.hid hst
  clear o hG hst hR
  go_enter Try.func29, Try.ntmps29
  go_wp2_with fail
  go_loopg [3] K (fun gk p wr => MaxHd B q G s t K w gk p wr)
  case atStart => exact A0.out
  case round =>
    clear A0
    obtain ⟨v, R, D, X, rfl, v0, hR, rs, ho, n1, b1⟩ := hrel
    have vb := val_bd HG.out hs HST.out rs ho
    have HR := Lib.hid hR
    have RS1 := Lib.hid rs
    have HO := Lib.hid ho
    have B1 := Lib.hid b1
    have VB := Lib.hid vb
    clear hR rs ho b1 vb
    have SC := Lib.hid (search_run O.out HG.out hm hN hs ht HST.out HR.out RS1.out)
    go_wp2_with fail
    refine SC.out.mono ?_
    rintro _ w1 ⟨D1, rfl, r1, d1, c1, b1⟩
    have H1 := Lib.hid r1
    have HD := Lib.hid d1
    have HC := Lib.hid c1
    have B2 := Lib.hid (B1.out.trans b1)
    clear r1 d1 c1 b1 SC
    by_cases td : D1 t = -1
    · have tb : (D1 t != -1) = false := by rw [td]; rfl
      have TD := Lib.hid td
      rw [tb]
      clear td tb
      go_wp2_with fail
      go_ret
      exact ⟨v, R, D1, X, rfl, H1.out, RS1.out, HO.out, HD.out, TD.out, HC.out TD.out, B2.out⟩
    · have tb : (D1 t != -1) = true := by simpa using td
      have TD := Lib.hid td
      rw [tb]
      clear td tb
      have k7 := H1.out.g7
      have k2 := H1.out.g2
      have d7 : World.cell? { heap := w1.heap, tape := w1.tape, drawn := w1.drawn + 1, os := w1.os, output := w1.output } ⟨q.g, 7, none⟩ = some (.slice (some ⟨q.X, 0, none⟩) G.N G.N) := k7
      have d2 : World.cell? { heap := w1.heap, tape := w1.tape, drawn := w1.drawn + 1, os := w1.os, output := w1.output } ⟨q.g, 2, none⟩ = some (.slice (some ⟨q.F, 0, none⟩) G.N G.N) := k2
      go_upto_region 3 with fail
      go_still_tail 8, (by kernel_rfl)
      change wpList _ _ _ _ _ w1.drew
      clear d7 d2
      refine wpList_copy_rows _ rfl _ _ 30 30 rfl 3 Try.underlying30 (by kernel_rfl) q.X q.F G.N 3 (iv X) (iv fun u => G.lst (2 * G.m) u) (by rfl) (by rfl) H1.out.rX.drew H1.out.rF.drew (fun i _ => rfl) ?_
      intro w2 x2 o2
      have H2 : Hid (Res w2 q G s t R D1 (fun u => G.lst (2 * G.m) u)) := Lib.hid (by
        obtain ⟨hd, rF, rA, rT, rR, rD, rX⟩ := H1.out
        have O := O.out
        exact ⟨(o2.block _ O.g.2.2.2.2.2).trans hd, rF.of_block (o2.block _ O.F.2.2.2.2), rA.of_block (o2.block _ O.A.2.2.2), rT.of_block (o2.block _ O.T.2.2), rR.of_block (o2.block _ O.R.2), rD.of_block (o2.block _ O.D), x2⟩)
      have B3 := Lib.hid (B2.out.trans (Below.trans (Below.drew (Below.refl B w1)) (o2.below O.out.b.2.2.2.2.2.2)))
      clear x2 o2 k7 k2 H1 B2
      have k0 := H2.out.g0
      have PR := Lib.hid (push_run O.out HG.out hm hN ht hN HD.out.bd (G.N + 1) s R _ 9223372036854775807 w2 hs (by have := HD.out.ds; omega) H2.out RS1.out XOk.first (by omega) (by omega))
      go_wp2_with fail
      refine PR.out.mono ?_
      rintro _ w3 ⟨p, R2, X2, rfl, r2, P2, bb⟩
      have pp : 0 < p := by
        have := P2.p0
        rcases (by omega : 0 < p ∨ p = 0) with c | c
        · exact c
        · obtain ⟨_, c3, _, c4⟩ := P2.dead (JJ.first D1 R) c
          exact (HD.out.moves HG.out ht TD.out c3 HST.out c4).elim
      have ho2 : ∀ u, G.out (fl R2) u = give s t (v + p) u := fun u => by rw [P2.out, HO.out, give_add]
      have vb2 := val_bd HG.out hs HST.out P2.rs ho2
      have HO2 := Lib.hid ho2
      have VB2 := Lib.hid vb2
      have vs : v + p ≤ 10995116277760000 := by omega
      have H3 := Lib.hid r2
      have RS2 := Lib.hid P2.rs
      have B4 := Lib.hid (B3.out.trans bb)
      clear r2 P2 bb ho2 vb2 PR k0
      go_wp2_with fail
      go_roundg (K - (v + p).toNat)
      case measure => have := VB2.out; have := HK.out; omega
      case rel => exact ⟨v + p, R2, D1, X2, rfl, by omega, H3.out, RS2.out, HO2.out, Nat.le_refl _, B4.out⟩
end Go.Proofs.Ytjkempammohkaaa
