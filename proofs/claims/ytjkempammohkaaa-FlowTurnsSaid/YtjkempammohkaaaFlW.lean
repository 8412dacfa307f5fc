/-
  Networks that a law makes out of the one that came in.
-/
import Derived.Test.YtjkempammohkaaaFlU
import Derived.Test.YtjkempammohkaaaFlV
import Derived.Deep.AppendLies
namespace Go.Proofs.Ytjkempammohkaaa
open Go.RowKit
open IntWalk
open Fl
set_option linter.unusedVariables false

/-- The cells of arcs. -/
def acv (l : List Ac) : List Value := l.flatMap fun a => [.int .i64 a.f, .int .i64 a.t, .int .i64 a.c]
theorem acv_len (l : List Ac) : (acv l).length = l.length * 3 := by
  induction l with
  | nil => rfl
  | cons a l ih =>
    have e : acv (a :: l) = [.int .i64 a.f, .int .i64 a.t, .int .i64 a.c] ++ acv l := rfl
    rw [e, List.length_append, ih]; simp; omega
theorem acv_append (l m : List Ac) : acv (l ++ m) = acv l ++ acv m := by unfold acv; rw [List.flatMap_append]
theorem acv_one (l : List Ac) : ∀ u ∈ acv l, u.oneCell' = true := by
  intro u hu
  obtain ⟨a, _, h⟩ := List.mem_flatMap.1 hu
  simp at h
  rcases h with rfl | rfl | rfl <;> rfl
theorem acv_get (l : List Ac) (i : Nat) (h : i < l.length) : (acv l)[i * 3]? = some (.int .i64 (l[i]'h).f) ∧ (acv l)[i * 3 + 1]? = some (.int .i64 (l[i]'h).t) ∧ (acv l)[i * 3 + 2]? = some (.int .i64 (l[i]'h).c) := by
  induction l generalizing i with
  | nil => simp at h
  | cons a l ih =>
    have e : acv (a :: l) = [.int .i64 a.f, .int .i64 a.t, .int .i64 a.c] ++ acv l := rfl
    rw [e]
    cases i with
    | zero => exact ⟨rfl, rfl, rfl⟩
    | succ i =>
      obtain ⟨h0, h1, h2⟩ := ih i (by simpa using h)
      have g : ∀ k, ([.int .i64 a.f, .int .i64 a.t, .int .i64 a.c] ++ acv l : List Value)[k + 3]? = (acv l)[k]? := fun k => by
        rw [List.getElem?_append_right (by simp)]; simp
      refine ⟨?_, ?_, ?_⟩
      · rw [show (i + 1) * 3 = i * 3 + 3 by omega, g]; exact h0
      · rw [show (i + 1) * 3 + 1 = i * 3 + 1 + 3 by omega, g]; exact h1
      · rw [show (i + 1) * 3 + 2 = i * 3 + 2 + 3 by omega, g]; exact h2
/-- The cells of a network's arcs, as a list. -/
theorem NetAt.cells {w : World} {b o : Nat} {l : List Ac} (h : ∀ i (h : i < l.length), w.cell? ⟨b, o + i * 3, none⟩ = some (.int .i64 (l[i]'h).f) ∧ w.cell? ⟨b, o + i * 3 + 1, none⟩ = some (.int .i64 (l[i]'h).t) ∧ w.cell? ⟨b, o + i * 3 + 2, none⟩ = some (.int .i64 (l[i]'h).c)) : ∀ j u, (acv l)[j]? = some u → w.cell? ((⟨b, o, none⟩ : Addr).add j) = some u := by
  intro j u hj
  have hl := (List.getElem?_eq_some_iff.1 hj).1
  rw [acv_len] at hl
  have hi : j / 3 < l.length := by omega
  obtain ⟨c0, c1, c2⟩ := h _ hi
  obtain ⟨a0, a1, a2⟩ := acv_get l _ hi
  rw [Addr.add_lit]
  rcases (by omega : j = j / 3 * 3 ∨ j = j / 3 * 3 + 1 ∨ j = j / 3 * 3 + 2) with e | e | e
  · rw [e] at hj
    rw [a0] at hj
    rw [e, c0]; exact hj
  · rw [e] at hj
    rw [a1] at hj
    rw [e, ← Nat.add_assoc, c1]; exact hj
  · rw [e] at hj
    rw [a2] at hj
    rw [e, ← Nat.add_assoc, c2]; exact hj
/-- A row that owns arcs. -/
theorem net_own {w : World} {base g n cap : Nat} {l : List Ac} (h : w.ownsRow base 50 3 (.slice (some ⟨g, 0, none⟩) n cap) n (acv l)) (hn : n = l.length) : NetAt w (some ⟨g, 0, none⟩) l := fun _ => by
  subst hn
  have hc := h.cells (g := g) rfl
  rcases h.2 with ⟨e, _⟩ | ⟨g', cap', cur, e, hb, hg, _⟩
  · cases e
  · injection e with e1 e2 e3
    injection e1 with e1
    injection e1 with e1
    subst e1
    refine ⟨g, 0, rfl, (Array.getElem?_eq_some_iff.1 hg).1, fun i hi => ?_⟩
    obtain ⟨a0, a1, a2⟩ := acv_get l i hi
    have c0 := hc _ _ a0
    have c1 := hc _ _ a1
    have c2 := hc _ _ a2
    rw [Addr.add_lit] at c0 c1 c2
    exact ⟨c0, by rw [Nat.add_assoc]; exact c1, by rw [Nat.add_assoc]; exact c2⟩
theorem arcInfo : (Try.prog.info? 50).map (fun i => (i.size, i.bytes)) = some (3, 24) := by kernel_rfl

theorem arcInfoZ : (Try.prog.info? 50).map (fun i => (i.zero, i.size, i.bytes)) = some (some (.agg #[.int .i64 0, .int .i64 0, .int .i64 0]), 3, 24) := by kernel_rfl
theorem own_empty {w : World} {base b : Nat} {e : TypeId} {size : Nat} (h : w.heap[b]? = some (.cells #[] e (0, 0))) (hb : base ≤ b) : w.ownsRow base e size (.slice (some ⟨b, 0, none⟩) 0 0) 0 [] :=
  ⟨by simp, .inr ⟨b, 0, #[], rfl, hb, h, Nat.le_refl _, Nat.zero_le _, by simp, by simp⟩⟩
/-! Networks that are alike. -/
theorem out_like {G H : Nt} (k : G.Like H) {f : Nat → Int} (v : Nat) : G.out f v = H.out f v := by
  unfold Nt.out
  rw [← k.m]
  exact sm_congr fun i hi => by show give _ _ _ _ = give _ _ _ _; rw [k.fr i hi, k.to i hi]
theorem closed_like {G H : Nt} (k : G.Like H) {f : Nat → Int} {S : Nat → Bool} : G.Closed f S ↔ H.Closed f S := by
  constructor
  · intro c
    refine ⟨fun i hi a b => ?_, fun i hi a b => ?_⟩
    · have hi' : i < G.m := by rw [k.m]; exact hi
      rw [← k.to i hi']; exact c.along i hi' (by rw [k.fr i hi']; exact a) (by rw [k.cap i hi']; exact b)
    · have hi' : i < G.m := by rw [k.m]; exact hi
      rw [← k.fr i hi']; exact c.back i hi' (by rw [k.to i hi']; exact a) b
  · intro c
    refine ⟨fun i hi a b => ?_, fun i hi a b => ?_⟩
    · rw [k.to i hi]; exact c.along i (by rw [← k.m]; exact hi) (by rw [← k.fr i hi]; exact a) (by rw [← k.cap i hi]; exact b)
    · rw [k.fr i hi]; exact c.back i (by rw [← k.m]; exact hi) (by rw [← k.to i hi]; exact a) b
theorem Nt.Best.like {G H : Nt} (k : G.Like H) {s t : Nat} {f : Nat → Int} {c : Nat → Bool} (B : G.Best s t f c) : H.Best s t f c :=
  ⟨⟨fun i hi => B.flow.lo i (by rw [k.m]; exact hi), fun i hi => by rw [← k.cap i (by rw [k.m]; exact hi)]; exact B.flow.hi i (by rw [k.m]; exact hi), fun v hv h1 h2 => by rw [← out_like k]; exact B.flow.keep v (by rw [k.N]; exact hv) h1 h2⟩,
    ⟨B.reach.src, (closed_like k).1 B.reach.closed, fun S h1 h2 v hv h3 => B.reach.least S h1 ((closed_like k).2 h2) v (by rw [k.N]; exact hv) h3⟩, B.not⟩

/-- One arc that carries more. -/
def moreAt (l : List Ac) (i : Nat) (x : Int) : List Ac := l.set i ⟨(l.getD i ⟨0, 0, 0⟩).f, (l.getD i ⟨0, 0, 0⟩).t, (l.getD i ⟨0, 0, 0⟩).c + x⟩
theorem moreAt_len (l : List Ac) (i : Nat) (x : Int) : (moreAt l i x).length = l.length := by simp [moreAt]
theorem moreAt_get (l : List Ac) (i : Nat) (x : Int) (j : Nat) (h : j < l.length) : (moreAt l i x)[j]'(by rw [moreAt_len]; exact h) = if j = i then ⟨(l[j]'h).f, (l[j]'h).t, (l[j]'h).c + x⟩ else l[j]'h := by
  unfold moreAt
  rw [List.getElem_set]
  by_cases e : i = j
  · subst e
    rw [if_pos rfl, if_pos rfl]
    have : l.getD i ⟨0, 0, 0⟩ = l[i] := by simp [h]
    rw [this]
  · rw [if_neg e, if_neg (fun k => e k.symm)]
theorem netG_more (N : Int) (l : List Ac) (i : Nat) (x : Int) : (netG N (moreAt l i x)).Like ((netG N l).grown i x) := by
  have e : ∀ j, j < l.length → (moreAt l i x).getD j ⟨0, 0, 0⟩ = if j = i then ⟨(l.getD j ⟨0, 0, 0⟩).f, (l.getD j ⟨0, 0, 0⟩).t, (l.getD j ⟨0, 0, 0⟩).c + x⟩ else l.getD j ⟨0, 0, 0⟩ := fun j hj => by
    have h1 : (moreAt l i x).getD j ⟨0, 0, 0⟩ = (moreAt l i x)[j]'(by rw [moreAt_len]; exact hj) := by simp [moreAt_len, hj]
    have h2 : l.getD j ⟨0, 0, 0⟩ = l[j] := by simp [hj]
    rw [h1, h2, moreAt_get]
  have m : (netG N (moreAt l i x)).m = l.length := moreAt_len l i x
  refine ⟨rfl, moreAt_len l i x, fun j hj => ?_, fun j hj => ?_, fun j hj => ?_⟩
  · rw [m] at hj
    show ((moreAt l i x).getD j ⟨0, 0, 0⟩).f.toNat = (l.getD j ⟨0, 0, 0⟩).f.toNat
    rw [e j hj]; split <;> rfl
  · rw [m] at hj
    show ((moreAt l i x).getD j ⟨0, 0, 0⟩).t.toNat = (l.getD j ⟨0, 0, 0⟩).t.toNat
    rw [e j hj]; split <;> rfl
  · rw [m] at hj
    show ((moreAt l i x).getD j ⟨0, 0, 0⟩).c = if j = i then (l.getD j ⟨0, 0, 0⟩).c + x else (l.getD j ⟨0, 0, 0⟩).c
    rw [e j hj]; split <;> rfl
/-- Arcs turned. -/
def turnL (l : List Ac) : List Ac := l.map fun a => ⟨a.t, a.f, a.c⟩
theorem netG_turn (N : Int) (l : List Ac) : (netG N (turnL l)).Like (netG N l).turned := by
  have e : ∀ j, j < l.length → (turnL l).getD j ⟨0, 0, 0⟩ = ⟨(l.getD j ⟨0, 0, 0⟩).t, (l.getD j ⟨0, 0, 0⟩).f, (l.getD j ⟨0, 0, 0⟩).c⟩ := fun j hj => by
    simp [turnL, hj]
  have m : (netG N (turnL l)).m = l.length := by show (turnL l).length = _; simp [turnL]
  refine ⟨rfl, m, fun j hj => ?_, fun j hj => ?_, fun j hj => ?_⟩ <;> rw [m] at hj
  · show ((turnL l).getD j ⟨0, 0, 0⟩).f.toNat = (l.getD j ⟨0, 0, 0⟩).t.toNat
    rw [e j hj]
  · show ((turnL l).getD j ⟨0, 0, 0⟩).t.toNat = (l.getD j ⟨0, 0, 0⟩).f.toNat
    rw [e j hj]
  · show ((turnL l).getD j ⟨0, 0, 0⟩).c = (l.getD j ⟨0, 0, 0⟩).c
    rw [e j hj]
theorem netG_back (N : Int) (l : List Ac) : (netG N l.reverse).Like (netG N l).back := by
  have e : ∀ j, j < l.length → l.reverse.getD j ⟨0, 0, 0⟩ = l.getD (l.length - 1 - j) ⟨0, 0, 0⟩ := fun j hj => by
    have h1 : l.reverse.getD j ⟨0, 0, 0⟩ = l.reverse[j]'(by simpa using hj) := by simp [hj]
    have h2 : l.getD (l.length - 1 - j) ⟨0, 0, 0⟩ = l[l.length - 1 - j]'(by omega) := by simp [show l.length - 1 - j < l.length by omega]
    rw [h1, h2, List.getElem_reverse]
  have m : (netG N l.reverse).m = l.length := by show l.reverse.length = _; simp
  refine ⟨rfl, m, fun j hj => ?_, fun j hj => ?_, fun j hj => ?_⟩ <;> rw [m] at hj
  · show (l.reverse.getD j ⟨0, 0, 0⟩).f.toNat = (l.getD (l.length - 1 - j) ⟨0, 0, 0⟩).f.toNat
    rw [e j hj]
  · show (l.reverse.getD j ⟨0, 0, 0⟩).t.toNat = (l.getD (l.length - 1 - j) ⟨0, 0, 0⟩).t.toNat
    rw [e j hj]
  · show (l.reverse.getD j ⟨0, 0, 0⟩).c = (l.getD (l.length - 1 - j) ⟨0, 0, 0⟩).c
    rw [e j hj]
/-! The error of these networks. -/
theorem acsE_zero {N : Int} {l : List Ac} (h : ∀ a ∈ l, acE N a = 0) : acsE N l = 0 := by
  induction l with
  | nil => rfl
  | cons a l ih =>
    show (if acE N a = 0 then acsE N l else acE N a) = 0
    rw [if_pos (h a (List.mem_cons_self ..))]
    exact ih fun b hb => h b (List.mem_cons_of_mem _ hb)
theorem acE_zero {N : Int} {a : Ac} (h1 : 0 ≤ a.f ∧ a.f < N) (h2 : 0 ≤ a.t ∧ a.t < N) (h3 : a.f ≠ a.t) (h4 : 0 ≤ a.c ∧ a.c ≤ 1099511627776) : acE N a = 0 := by
  unfold acE
  rw [if_pos ⟨isnB_true.2 h1, isnB_true.2 h2⟩, if_neg h3, if_pos h4]
theorem endE_new {N : Int} {l l' : List Ac} {s t s' t' : Int} (h : endE N l s t = 0) (hl : l'.length = l.length) (hm : ∀ a ∈ l', acE N a = 0) (hs : 0 ≤ s' ∧ s' < N) (ht : 0 ≤ t' ∧ t' < N) (hst : s' ≠ t') : endE N l' s' t' = 0 := by
  obtain ⟨ve, _⟩ := endE_ok h
  obtain ⟨NK, n1, n2⟩ := valE_ok ve
  have v : valE N l' = 0 := by
    unfold valE
    rw [if_neg (by have := NK.n2; omega), if_neg (by omega)]
    exact acsE_zero hm
  unfold endE
  rw [if_pos v, if_pos ⟨isnB_true.2 hs, isnB_true.2 ht, hst⟩]
theorem endE_all {N : Int} {l : List Ac} {s t : Int} (h : endE N l s t = 0) : ∀ a ∈ l, acE N a = 0 := by
  obtain ⟨ve, _⟩ := endE_ok h
  obtain ⟨NK, n1, n2⟩ := valE_ok ve
  exact fun a ha => acE_zero (NK.f0 a ha) (NK.t0 a ha) (NK.ne a ha) (NK.c0 a ha)
end Go.Proofs.Ytjkempammohkaaa
