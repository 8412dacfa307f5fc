/-
  The residual graph in plain numbers: two edges for each arc; what a push along one edge does; what a push to the sink leaves.
-/
import Derived.Test.YtjkempammohkaaaFlB
namespace Go.Proofs.Ytjkempammohkaaa
namespace Fl
set_option linter.unusedVariables false

/-- Where an edge begins, where it ends, and the edge against it. -/
def Nt.ef (G : Nt) (e : Nat) : Nat := if e % 2 = 0 then G.fr (e / 2) else G.to (e / 2)
def Nt.et (G : Nt) (e : Nat) : Nat := if e % 2 = 0 then G.to (e / 2) else G.fr (e / 2)
def bk (e : Nat) : Nat := if e % 2 = 0 then e + 1 else e - 1
theorem bk_lt {e m : Nat} (h : e < 2 * m) : bk e < 2 * m := by unfold bk; split <;> omega
theorem bk_ne (e : Nat) : bk e ≠ e := by unfold bk; split <;> omega
theorem ef_bk (G : Nt) (e : Nat) : G.ef (bk e) = G.et e := by
  unfold bk Nt.ef Nt.et
  by_cases h : e % 2 = 0
  · rw [if_pos h, if_pos h, if_neg (by omega), show (e + 1) / 2 = e / 2 by omega]
  · rw [if_neg h, if_neg h, if_pos (by omega), show (e - 1) / 2 = e / 2 by omega]
theorem et_bk (G : Nt) (e : Nat) : G.et (bk e) = G.ef e := by
  unfold bk Nt.ef Nt.et
  by_cases h : e % 2 = 0
  · rw [if_pos h, if_pos h, if_neg (by omega), show (e + 1) / 2 = e / 2 by omega]
  · rw [if_neg h, if_neg h, if_pos (by omega), show (e - 1) / 2 = e / 2 by omega]
theorem ef_lt {G : Nt} (h : G.Ok) {e : Nat} (he : e < 2 * G.m) : G.ef e < G.N := by
  unfold Nt.ef; split
  · exact h.frN _ (by omega)
  · exact h.toN _ (by omega)
theorem et_lt {G : Nt} (h : G.Ok) {e : Nat} (he : e < 2 * G.m) : G.et e < G.N := by
  unfold Nt.et; split
  · exact h.toN _ (by omega)
  · exact h.frN _ (by omega)

/-- What the edges can still carry is in order. -/
structure RS (G : Nt) (R : Nat → Int) : Prop where
  lo : ∀ e, e < 2 * G.m → 0 ≤ R e
  sum : ∀ e, e < 2 * G.m → R e + R (bk e) = G.cap (e / 2)
/-- The flow of each arc. -/
def fl (R : Nat → Int) (i : Nat) : Int := R (2 * i + 1)
/-- A push along an edge. -/
def bump (R : Nat → Int) (e : Nat) (p : Int) : Nat → Int := fun x => if x = bk e then R (bk e) + p else if x = e then R e - p else R x
theorem bump_at (R : Nat → Int) (e : Nat) (p : Int) : bump R e p e = R e - p := by unfold bump; rw [if_neg (bk_ne e).symm, if_pos rfl]
theorem bump_bk (R : Nat → Int) (e : Nat) (p : Int) : bump R e p (bk e) = R (bk e) + p := by unfold bump; rw [if_pos rfl]
theorem bump_far {R : Nat → Int} {e : Nat} {p : Int} {x : Nat} (h1 : x ≠ e) (h2 : x ≠ bk e) : bump R e p x = R x := by unfold bump; rw [if_neg h2, if_neg h1]
theorem bump_zero (R : Nat → Int) (e : Nat) : bump R e 0 = R := by
  funext x
  unfold bump
  split
  · subst x; omega
  · split
    · subst x; omega
    · rfl
theorem bk_bk (e : Nat) : bk (bk e) = e := by unfold bk; split <;> split <;> omega
theorem bk_div (e : Nat) : bk e / 2 = e / 2 := by unfold bk; split <;> omega
theorem RS.bump {G : Nt} {R : Nat → Int} (h : RS G R) {e : Nat} (he : e < 2 * G.m) {p : Int} (h0 : 0 ≤ p) (h1 : p ≤ R e) : RS G (bump R e p) := by
  refine ⟨fun x hx => ?_, fun x hx => ?_⟩
  · have a := h.lo x hx
    have b := h.lo _ (bk_lt he)
    unfold Fl.bump
    split
    · omega
    · split <;> omega
  · have a := h.sum x hx
    by_cases x1 : x = e
    · subst x1; rw [bump_at, bump_bk]; omega
    · by_cases x2 : x = bk e
      · subst x2; rw [bump_bk, bk_bk, bump_at]; rw [bk_bk] at a; omega
      · rw [bump_far x1 x2, bump_far (fun c => x2 (by rw [← c, bk_bk])) (fun c => x1 (by have := congrArg bk c; rwa [bk_bk, bk_bk] at this))]; exact a
theorem RS.hi {G : Nt} {R : Nat → Int} (h : RS G R) (hG : G.Ok) {e : Nat} (he : e < 2 * G.m) : R e ≤ 1099511627776 := by
  have a := h.sum e he
  have b := h.lo _ (bk_lt he)
  have c := hG.cap1 (e / 2) (by omega)
  omega
/-- What leaves each node after a push. -/
theorem out_bump {G : Nt} {R : Nat → Int} {e : Nat} (he : e < 2 * G.m) (p : Int) (v : Nat) : G.out (fl (bump R e p)) v = G.out (fl R) v + give (G.ef e) (G.et e) p v := by
  have hi : e / 2 < G.m := by omega
  have t := sm_turn (g := fun i => give (G.fr i) (G.to i) (fl R i) v) (h := fun i => give (G.fr i) (G.to i) (fl (bump R e p) i) v) hi (fun i hi hne => by
    show give _ _ (fl (bump R e p) i) v = give _ _ (fl R i) v
    unfold fl
    rw [bump_far (by omega) (by unfold bk; split <;> omega)])
  show sm _ _ = sm _ _ + _
  rw [t]
  congr 1
  unfold fl Nt.ef Nt.et give
  by_cases h : e % 2 = 0
  · have e1 : bk e = 2 * (e / 2) + 1 := by unfold bk; rw [if_pos h]; omega
    have := bump_bk R e p
    rw [← e1, this, if_pos h, if_pos h]
    split <;> split <;> omega
  · have e1 : e = 2 * (e / 2) + 1 := by omega
    have := bump_at R e p
    rw [← e1, this, if_neg h, if_neg h]
    split <;> split <;> omega
theorem give_same (u : Nat) (p : Int) (v : Nat) : give u u p v = 0 := by unfold give; omega
theorem give_zero (a b v : Nat) : give a b 0 v = 0 := by unfold give; split <;> split <;> rfl
theorem give_add (a b : Nat) (p q : Int) (v : Nat) : give a b (p + q) v = give a b p v + give a b q v := by unfold give; split <;> split <;> omega
theorem give_chain (a b c : Nat) (p : Int) (v : Nat) : give a b p v + give b c p v = give a c p v := by unfold give; split <;> split <;> split <;> omega
/-- The flow of a residual graph in order. -/
theorem RS.flow {G : Nt} {R : Nat → Int} (h : RS G R) {s t : Nat} (hk : ∀ v, v < G.N → v ≠ s → v ≠ t → G.out (fl R) v = 0) : G.Flow s t (fl R) :=
  ⟨fun i hi => h.lo _ (by omega), fun i hi => by
    have a := h.sum (2 * i + 1) (by omega)
    have b := h.lo (bk (2 * i + 1)) (bk_lt (by omega))
    rw [show (2 * i + 1) / 2 = i by omega] at a
    show R (2 * i + 1) ≤ _
    omega, hk⟩
/-- The residual graph of the flow 0. -/
def R0 (G : Nt) (e : Nat) : Int := if e % 2 = 0 then G.cap (e / 2) else 0
theorem RS0 {G : Nt} (hG : G.Ok) : RS G (R0 G) := by
  refine ⟨fun e he => ?_, fun e he => ?_⟩
  · unfold R0; split
    · exact hG.cap0 _ (by omega)
    · exact Int.le_refl _
  · unfold R0 bk
    by_cases h : e % 2 = 0
    · rw [if_pos h, if_pos h, if_neg (by omega)]; omega
    · rw [if_neg h, if_neg h, if_pos (by omega), show (e - 1) / 2 = e / 2 by omega]; omega
theorem out0 (G : Nt) (v : Nat) : G.out (fl (R0 G)) v = 0 := sm_zero fun i hi => by
  show give _ _ (R0 G (2 * i + 1)) v = 0
  unfold R0
  rw [if_neg (by omega), give_zero]

/-- The last edge below k that leaves a node, or -1. -/
def Nt.lst (G : Nt) : Nat → Nat → Int
  | 0, _ => -1
  | k + 1, u => if G.ef k = u then (k : Int) else Nt.lst G k u
theorem lst_lt (G : Nt) (k u : Nat) : -1 ≤ G.lst k u ∧ G.lst k u < k := by
  induction k with
  | zero => exact ⟨Int.le_refl _, by show (-1 : Int) < _; omega⟩
  | succ k ih =>
    show -1 ≤ (if G.ef k = u then (k : Int) else _) ∧ (if G.ef k = u then (k : Int) else _) < _
    split <;> omega
theorem lst_gap (G : Nt) {k u e : Nat} (h : e < k) (he : G.ef e = u) : (e : Int) ≤ G.lst k u := by
  induction k with
  | zero => omega
  | succ k ih =>
    show (e : Int) ≤ (if G.ef k = u then (k : Int) else _)
    by_cases c : G.ef k = u
    · rw [if_pos c]; omega
    · rw [if_neg c]; exact ih (by
        by_cases e1 : e = k
        · subst e1; exact absurd he c
        · omega)
theorem lst_is (G : Nt) (k u : Nat) : G.lst k u = -1 ∨ ∃ e : Nat, e < k ∧ G.lst k u = e ∧ G.ef e = u := by
  induction k with
  | zero => exact .inl rfl
  | succ k ih =>
    show (if G.ef k = u then (k : Int) else _) = -1 ∨ ∃ e : Nat, e < k + 1 ∧ (if G.ef k = u then (k : Int) else _) = e ∧ _
    by_cases c : G.ef k = u
    · rw [if_pos c]; exact .inr ⟨k, by omega, rfl, c⟩
    · rw [if_neg c]
      rcases ih with h | ⟨e, h1, h2, h3⟩
      · exact .inl h
      · exact .inr ⟨e, by omega, h2, h3⟩

/-- The next edges are edges of their nodes. -/
def XOk (G : Nt) (X : Nat → Int) : Prop := ∀ v, v < G.N → X v = -1 ∨ ∃ e : Nat, e < 2 * G.m ∧ X v = e ∧ G.ef e = v
/-- An edge that is passed by leads nowhere. -/
def JJ (G : Nt) (t : Nat) (D R X : Nat → Int) : Prop := ∀ e : Nat, e < 2 * G.m → X (G.ef e) < e → 0 < R e → D (G.et e) = D (G.ef e) + 1 → G.et e ≠ t ∧ X (G.et e) = -1
/-- What a push leaves. -/
structure Psd (G : Nt) (t : Nat) (D : Nat → Int) (u : Nat) (am p : Int) (R X R' X' : Nat → Int) : Prop where
  p0 : 0 ≤ p
  p1 : p ≤ am
  rs : RS G R'
  out : ∀ v, G.out (fl R') v = G.out (fl R) v + give u t p v
  fr : ∀ e, e < 2 * G.m → (D (G.ef e) < D u ∨ D (G.et e) < D u) → R' e = R e
  xf : ∀ v, v < G.N → D v < D u → X' v = X v
  xok : XOk G X'
  dead : JJ G t D R X → p = 0 → (∀ e, e < 2 * G.m → R' e = R e) ∧ JJ G t D R X' ∧ u ≠ t ∧ X' u = -1
/-- What holds at the head of a push's loop. -/
structure Phd (G : Nt) (t : Nat) (D : Nat → Int) (u : Nat) (am p : Int) (R X R' X' : Nat → Int) : Prop where
  p0 : 0 ≤ p
  p1 : p < am
  rs : RS G R'
  out : ∀ v, G.out (fl R') v = G.out (fl R) v + give u t p v
  fr : ∀ e, e < 2 * G.m → (D (G.ef e) < D u ∨ D (G.et e) < D u) → R' e = R e
  xf : ∀ v, v < G.N → D v < D u → X' v = X v
  xok : XOk G X'
  dead : JJ G t D R X → p = 0 → (∀ e, e < 2 * G.m → R' e = R e) ∧ JJ G t D R X'
def upd (f : Nat → Int) (k : Nat) (x : Int) : Nat → Int := fun i => if i = k then x else f i
theorem upd_at (f : Nat → Int) (k : Nat) (x : Int) : upd f k x k = x := by unfold upd; rw [if_pos rfl]
theorem upd_far {f : Nat → Int} {k i : Nat} {x : Int} (h : i ≠ k) : upd f k x i = f i := by unfold upd; rw [if_neg h]

section
variable {G : Nt} {t u : Nat} {D R X : Nat → Int} {am : Int}
/-- At the sink. -/
theorem Psd.sink (hR : RS G R) (hX : XOk G X) (ha : 0 < am) : Psd G t D t am am R X R X :=
  ⟨by omega, Int.le_refl _, hR, fun v => by rw [give_same]; omega, fun _ _ _ => rfl, fun _ _ _ => rfl, hX, fun _ h => by omega⟩
theorem Phd.start (hR : RS G R) (hX : XOk G X) (ha : 0 < am) : Phd G t D u am 0 R X R X :=
  ⟨by omega, ha, hR, fun v => by rw [give_zero]; omega, fun _ _ _ => rfl, fun _ _ _ => rfl, hX, fun h _ => ⟨fun _ _ => rfl, h⟩⟩
variable {p : Int} {R1 X1 : Nat → Int}
/-- The list of edges is exhausted. -/
theorem Phd.stop (h : Phd G t D u am p R X R1 X1) (hut : u ≠ t) (hx : X1 u = -1) : Psd G t D u am p R X R1 X1 :=
  ⟨h.p0, by have := h.p1; omega, h.rs, h.out, h.fr, h.xf, h.xok, fun j z => ⟨(h.dead j z).1, (h.dead j z).2, hut, hx⟩⟩
theorem JJ.step {e : Nat} (hx : X1 u = e) (hef : G.ef e = u) (he : e < 2 * G.m) (h : JJ G t D R X1) (hd : 0 < R e → D (G.et e) = D u + 1 → G.et e ≠ t ∧ X1 (G.et e) = -1) : JJ G t D R (upd X1 u (G.lst e u)) := by
  intro x hx1 hx2 hx3 hx4
  have key : G.et x ≠ t ∧ X1 (G.et x) = -1 := by
    by_cases hxu : G.ef x = u
    · by_cases hxe : x = e
      · subst hxe; exact hd hx3 (by rw [hx4, hxu])
      · rw [hxu, upd_at] at hx2
        have : ¬ x < e := fun c => by have := lst_gap G c hxu; omega
        exact h x hx1 (by rw [hxu, hx]; omega) hx3 hx4
    · rw [upd_far hxu] at hx2
      exact h x hx1 hx2 hx3 hx4
  refine ⟨key.1, ?_⟩
  by_cases c : G.et x = u
  · exfalso
    rw [c, hx] at key
    omega
  · rw [upd_far c]; exact key.2
theorem XOk.step {e : Nat} (h : XOk G X1) (he : e < 2 * G.m) : XOk G (upd X1 u (G.lst e u)) := by
  intro v hv
  by_cases c : v = u
  · subst c
    rw [upd_at]
    rcases lst_is G e v with h1 | ⟨x, h1, h2, h3⟩
    · exact .inl h1
    · exact .inr ⟨x, by omega, h2, h3⟩
  · rw [upd_far c]; exact h v hv
/-- An edge that is of no use is passed by. -/
theorem Phd.pass (h : Phd G t D u am p R X R1 X1) {e : Nat} (he : e < 2 * G.m) (hef : G.ef e = u) (hx : X1 u = e) (hno : ¬ (0 < R1 e ∧ D (G.et e) = D u + 1)) : Phd G t D u am p R X R1 (upd X1 u (G.lst e u)) :=
  ⟨h.p0, h.p1, h.rs, h.out, h.fr, fun v hv hl => by rw [upd_far (by rintro rfl; omega)]; exact h.xf v hv hl, h.xok.step he, fun j z => by
    obtain ⟨a, b⟩ := h.dead j z
    exact ⟨a, b.step hx hef he fun r d => absurd ⟨by rw [a e he]; exact r, d⟩ hno⟩⟩
/-- What holds when something went along an edge, or nothing. -/
structure Mid (G : Nt) (t : Nat) (D : Nat → Int) (u : Nat) (am p : Int) (R X R' X' : Nat → Int) (e : Nat) : Prop where
  p0 : 0 ≤ p
  p1 : p ≤ am
  rs : RS G R'
  out : ∀ v, G.out (fl R') v = G.out (fl R) v + give u t p v
  fr : ∀ e, e < 2 * G.m → (D (G.ef e) < D u ∨ D (G.et e) < D u) → R' e = R e
  xf : ∀ v, v < G.N → D v < D u → X' v = X v
  xok : XOk G X'
  xu : X' u = e
  dead : JJ G t D R X → p = 0 → (∀ e, e < 2 * G.m → R' e = R e) ∧ JJ G t D R X' ∧ G.et e ≠ t ∧ X' (G.et e) = -1
/-- The edge from which a child was called, behind the call. -/
theorem went_same {e : Nat} (he : e < 2 * G.m) (hef : G.ef e = u) (hlv : D (G.et e) = D u + 1) {bd q : Int} {R2 X2 : Nat → Int} (c : Psd G t D (G.et e) bd q R1 X1 R2 X2) : R2 e = R1 e ∧ R2 (bk e) = R1 (bk e) :=
  ⟨c.fr e he (.inl (by rw [hef]; omega)), c.fr _ (bk_lt he) (.inr (by rw [et_bk, hef]; omega))⟩
theorem Phd.went (h : Phd G t D u am p R X R1 X1) (hu : u < G.N) {e : Nat} (he : e < 2 * G.m) (hef : G.ef e = u) (hx : X1 u = e) (hlv : D (G.et e) = D u + 1) (hr : 0 < R1 e) {bd q : Int} {R2 X2 : Nat → Int} (c : Psd G t D (G.et e) bd q R1 X1 R2 X2) (b1 : bd ≤ R1 e) (b2 : bd ≤ am - p) :
    Mid G t D u am (p + q) R X (bump R2 e q) X2 e := by
  have g := (went_same he hef hlv c).1
  have h0 := h.p0
  have c0 := c.p0
  have c1 := c.p1
  refine ⟨by omega, by omega, c.rs.bump he c0 (by omega), fun v => ?_, fun x hx1 hx2 => ?_, fun v hv hl => ?_, c.xok, ?_, fun j z => ?_⟩
  · rw [out_bump he, c.out, h.out, hef, give_add, ← give_chain u (G.et e) t q v]; omega
  · have x1 : x ≠ e := by rintro rfl; rw [hef, hlv] at hx2; omega
    have x2 : x ≠ bk e := by rintro rfl; rw [et_bk, ef_bk, hef, hlv] at hx2; omega
    rw [bump_far x1 x2, c.fr x hx1 (by omega), h.fr x hx1 hx2]
  · rw [c.xf v hv (by omega), h.xf v hv hl]
  · rw [c.xf u hu (by omega), hx]
  · have z1 : p = 0 := by omega
    have z2 : q = 0 := by omega
    subst z2
    obtain ⟨a, b⟩ := h.dead j z1
    have b' : JJ G t D R1 X1 := fun x k1 k2 k3 k4 => b x k1 k2 (by rw [← a x k1]; exact k3) k4
    obtain ⟨d1, d2, d3, d4⟩ := c.dead b' rfl
    refine ⟨fun x hx1 => by rw [bump_zero, d1 x hx1, a x hx1], fun x k1 k2 k3 k4 => d2 x k1 k2 (by rw [a x k1]; exact k3) k4, d3, d4⟩
theorem Mid.full {R' X' : Nat → Int} {e : Nat} (h : Mid G t D u am p R X R' X' e) (ha : 0 < am) (hp : p = am) : Psd G t D u am p R X R' X' :=
  ⟨h.p0, h.p1, h.rs, h.out, h.fr, h.xf, h.xok, fun _ z => by omega⟩
theorem Mid.next {R' X' : Nat → Int} {e : Nat} (h : Mid G t D u am p R X R' X' e) (hu : u < G.N) (he : e < 2 * G.m) (hef : G.ef e = u) (hp : p ≠ am) : Phd G t D u am p R X R' (upd X' u (G.lst e u)) :=
  ⟨h.p0, by have := h.p1; omega, h.rs, h.out, h.fr, fun v hv hl => by rw [upd_far (by rintro rfl; omega)]; exact h.xf v hv hl, h.xok.step he, fun j z => by
    obtain ⟨a, b, c, d⟩ := h.dead j z
    exact ⟨a, b.step h.xu hef he fun _ _ => ⟨c, d⟩⟩⟩
end
end Fl
end Go.Proofs.Ytjkempammohkaaa
