/-
  Flows in plain numbers: sums over arcs and over nodes, cuts, and what a cut says of a flow.
-/
import Derived.RowKit
namespace Go.Proofs.Ytjkempammohkaaa
namespace Fl
set_option linter.unusedVariables false

/-- The sum of the first n numbers. -/
def sm (g : Nat → Int) : Nat → Int
  | 0 => 0
  | n + 1 => sm g n + g n
theorem sm_congr {g h : Nat → Int} {n : Nat} (e : ∀ i, i < n → g i = h i) : sm g n = sm h n := by
  induction n with
  | zero => rfl
  | succ n ih => show sm g n + g n = sm h n + h n; rw [ih fun i hi => e i (by omega), e n (by omega)]
theorem sm_le {g h : Nat → Int} {n : Nat} (e : ∀ i, i < n → g i ≤ h i) : sm g n ≤ sm h n := by
  induction n with
  | zero => exact Int.le_refl _
  | succ n ih => have a := ih fun i hi => e i (by omega); have b := e n (by omega); show sm g n + g n ≤ sm h n + h n; omega
theorem sm_zero {g : Nat → Int} {n : Nat} (e : ∀ i, i < n → g i = 0) : sm g n = 0 := by
  induction n with
  | zero => rfl
  | succ n ih => show sm g n + g n = 0; rw [ih fun i hi => e i (by omega), e n (by omega)]; rfl
theorem sm_add (g h : Nat → Int) (n : Nat) : sm (fun i => g i + h i) n = sm g n + sm h n := by
  induction n with
  | zero => rfl
  | succ n ih => show sm _ n + (g n + h n) = sm g n + g n + (sm h n + h n); rw [ih]; omega
theorem sm_sub (g h : Nat → Int) (n : Nat) : sm (fun i => g i - h i) n = sm g n - sm h n := by
  induction n with
  | zero => rfl
  | succ n ih => show sm _ n + (g n - h n) = sm g n + g n - (sm h n + h n); rw [ih]; omega
/-- Equal sums of numbers of which none is greater are sums of equal numbers. -/
theorem sm_eq_all {g h : Nat → Int} {n : Nat} (e : ∀ i, i < n → g i ≤ h i) (s : sm g n = sm h n) : ∀ i, i < n → g i = h i := by
  induction n with
  | zero => intro i hi; omega
  | succ n ih =>
    have a := sm_le (n := n) (fun i hi => e i (by omega))
    have b := e n (by omega)
    have s' : sm g n + g n = sm h n + h n := s
    intro i hi
    by_cases hin : i = n
    · subst hin; omega
    · exact ih (fun i hi => e i (by omega)) (by omega) i (by omega)
/-- One number alone. -/
theorem sm_one {g : Nat → Int} {n k : Nat} (hk : k < n) (e : ∀ i, i < n → i ≠ k → g i = 0) : sm g n = g k := by
  induction n with
  | zero => omega
  | succ n ih =>
    show sm g n + g n = g k
    by_cases h : k = n
    · subst h; rw [sm_zero fun i hi => e i (by omega) (by omega)]; omega
    · rw [ih (by omega) fun i hi hne => e i (by omega) hne, e n (by omega) (by omega)]; omega
/-- One number turned. -/
theorem sm_turn {g h : Nat → Int} {n k : Nat} (hk : k < n) (e : ∀ i, i < n → i ≠ k → h i = g i) : sm h n = sm g n + (h k - g k) := by
  have a := sm_sub h g n
  rw [sm_one (g := fun i => h i - g i) hk (fun i hi hne => by show h i - g i = 0; rw [e i hi hne]; omega)] at a
  omega
/-- Sums exchanged. -/
theorem sm_swap (g : Nat → Nat → Int) (n m : Nat) : sm (fun i => sm (g i) m) n = sm (fun j => sm (fun i => g i j) n) m := by
  induction n with
  | zero => exact (sm_zero fun _ _ => rfl).symm
  | succ n ih =>
    show sm _ n + sm (g n) m = _
    rw [ih, ← sm_add]; rfl
/-- Sums backwards. -/
theorem sm_head (g : Nat → Int) (n : Nat) : sm g (n + 1) = g 0 + sm (fun i => g (i + 1)) n := by
  induction n with
  | zero => show 0 + g 0 = g 0 + 0; omega
  | succ n ih => show sm g (n + 1) + g (n + 1) = _; rw [ih]; show _ = g 0 + (sm (fun i => g (i + 1)) n + g (n + 1)); omega
theorem sm_rev (g : Nat → Int) (n : Nat) : sm (fun i => g (n - 1 - i)) n = sm g n := by
  induction n with
  | zero => rfl
  | succ n ih =>
    rw [sm_head]
    show g (n + 1 - 1 - 0) + _ = sm g n + g n
    rw [show n + 1 - 1 - 0 = n by omega, ← ih, sm_congr (g := fun i => g (n + 1 - 1 - (i + 1))) (h := fun i => g (n - 1 - i)) fun i hi => by
      show g _ = g _; congr 1; omega]
    omega

/-- A network: the nodes, the arcs, where they begin, where they end, what they carry at most. -/
structure Nt where
  N : Nat
  m : Nat
  fr : Nat → Nat
  to : Nat → Nat
  cap : Nat → Int
/-- The network is in order. -/
structure Nt.Ok (G : Nt) : Prop where
  frN : ∀ i, i < G.m → G.fr i < G.N
  toN : ∀ i, i < G.m → G.to i < G.N
  ne : ∀ i, i < G.m → G.fr i ≠ G.to i
  cap0 : ∀ i, i < G.m → 0 ≤ G.cap i
  cap1 : ∀ i, i < G.m → G.cap i ≤ 1099511627776

/-- What an arc gives a node: what leaves it, less what enters it. -/
def give (a b : Nat) (x : Int) (v : Nat) : Int := (if a = v then x else 0) - (if b = v then x else 0)
/-- What leaves a node, less what enters it. -/
def Nt.out (G : Nt) (f : Nat → Int) (v : Nat) : Int := sm (fun i => give (G.fr i) (G.to i) (f i) v) G.m

/-- A flow. -/
structure Nt.Flow (G : Nt) (s t : Nat) (f : Nat → Int) : Prop where
  lo : ∀ i, i < G.m → 0 ≤ f i
  hi : ∀ i, i < G.m → f i ≤ G.cap i
  keep : ∀ v, v < G.N → v ≠ s → v ≠ t → G.out f v = 0

/-- The capacity of a cut. -/
def Nt.capC (G : Nt) (S : Nat → Bool) : Int := sm (fun i => if S (G.fr i) = true ∧ S (G.to i) = false then G.cap i else 0) G.m
/-- No edge of the residual graph leaves the set. -/
structure Nt.Closed (G : Nt) (f : Nat → Int) (S : Nat → Bool) : Prop where
  along : ∀ i, i < G.m → S (G.fr i) = true → f i < G.cap i → S (G.to i) = true
  back : ∀ i, i < G.m → S (G.to i) = true → 0 < f i → S (G.fr i) = true
/-- The set is what can be reached in the residual graph. -/
structure Nt.Reach (G : Nt) (f : Nat → Int) (s : Nat) (c : Nat → Bool) : Prop where
  src : c s = true
  closed : G.Closed f c
  least : ∀ S : Nat → Bool, S s = true → G.Closed f S → ∀ v, v < G.N → c v = true → S v = true

/-- What leaves a set of nodes by an arc, less what enters it. -/
def cross (S : Nat → Bool) (a b : Nat) (x : Int) : Int := (if S a = true then x else 0) - (if S b = true then x else 0)

theorem sum_ind (S : Nat → Bool) (a n : Nat) (x : Int) (h : a < n) : sm (fun v => if S v = true then (if a = v then x else 0) else 0) n = if S a = true then x else 0 := by
  rw [sm_one (k := a) h fun i hi hne => by show (if S i = true then (if a = i then x else 0) else 0) = 0; rw [if_neg (show ¬ a = i from fun e => hne e.symm)]; split <;> rfl]
  show (if S a = true then (if a = a then x else 0) else 0) = _
  rw [if_pos rfl]
theorem sum_give (S : Nat → Bool) (a b n : Nat) (x : Int) (ha : a < n) (hb : b < n) : sm (fun v => if S v = true then give a b x v else 0) n = cross S a b x := by
  unfold cross
  rw [← sum_ind S a n x ha, ← sum_ind S b n x hb, ← sm_sub]
  refine sm_congr fun v hv => ?_
  show (if S v = true then give a b x v else 0) = (if S v = true then (if a = v then x else 0) else 0) - (if S v = true then (if b = v then x else 0) else 0)
  unfold give
  by_cases h : S v = true
  · rw [if_pos h, if_pos h, if_pos h]
  · rw [if_neg h, if_neg h, if_neg h]; rfl
theorem out_cross (G : Nt) (hG : G.Ok) (f : Nat → Int) (S : Nat → Bool) : sm (fun v => if S v = true then G.out f v else 0) G.N = sm (fun i => cross S (G.fr i) (G.to i) (f i)) G.m := by
  rw [sm_congr (h := fun i => sm (fun v => if S v = true then give (G.fr i) (G.to i) (f i) v else 0) G.N) fun i hi => (sum_give S _ _ G.N (f i) (hG.frN i hi) (hG.toN i hi)).symm]
  rw [← sm_swap (fun v i => if S v = true then give (G.fr i) (G.to i) (f i) v else 0) G.N G.m]
  refine sm_congr fun v hv => ?_
  show (if S v = true then G.out f v else 0) = sm (fun i => if S v = true then give (G.fr i) (G.to i) (f i) v else 0) G.m
  by_cases h : S v = true
  · rw [if_pos h]; exact sm_congr fun i hi => by show _ = if S v = true then _ else _; rw [if_pos h]
  · rw [if_neg h]; exact (sm_zero fun i hi => by show (if S v = true then _ else _) = _; rw [if_neg h]).symm
/-- The value of a flow is what crosses a cut. -/
theorem value_cut {G : Nt} (hG : G.Ok) {s t : Nat} (hs : s < G.N) {f : Nat → Int} (F : G.Flow s t f) {S : Nat → Bool} (h1 : S s = true) (h2 : S t = false) : G.out f s = sm (fun i => cross S (G.fr i) (G.to i) (f i)) G.m := by
  rw [← out_cross G hG f S, sm_one (k := s) hs fun v hv hne => ?_]
  · show _ = if S s = true then _ else _; rw [if_pos h1]
  · show (if S v = true then G.out f v else 0) = 0
    by_cases h : S v = true
    · rw [if_pos h]
      exact F.keep v hv hne (fun e => by subst e; rw [h2] at h; exact absurd h (by decide))
    · rw [if_neg h]
theorem cross_le {S : Nat → Bool} {a b : Nat} {x c : Int} (h0 : 0 ≤ x) (h1 : x ≤ c) : cross S a b x ≤ if S a = true ∧ S b = false then c else 0 := by
  unfold cross
  cases ha : S a <;> cases hb : S b <;> simp <;> omega
theorem value_le {G : Nt} (hG : G.Ok) {s t : Nat} (hs : s < G.N) {f : Nat → Int} (F : G.Flow s t f) {S : Nat → Bool} (h1 : S s = true) (h2 : S t = false) : G.out f s ≤ G.capC S := by
  rw [value_cut hG hs F h1 h2]
  exact sm_le fun i hi => cross_le (F.lo i hi) (F.hi i hi)
/-- A closed set that lacks the sink has the capacity of the flow's value. -/
theorem closed_cap {G : Nt} (hG : G.Ok) {s t : Nat} (hs : s < G.N) {f : Nat → Int} (F : G.Flow s t f) {S : Nat → Bool} (h1 : S s = true) (h2 : S t = false) (hc : G.Closed f S) : G.out f s = G.capC S := by
  rw [value_cut hG hs F h1 h2]
  refine sm_congr fun i hi => ?_
  show cross S (G.fr i) (G.to i) (f i) = if S (G.fr i) = true ∧ S (G.to i) = false then G.cap i else 0
  have lo := F.lo i hi
  have hi' := F.hi i hi
  unfold cross
  cases ha : S (G.fr i) <;> cases hb : S (G.to i)
  · simp
  · have : ¬ 0 < f i := fun h => by have := hc.back i hi hb h; rw [ha] at this; exact absurd this (by decide)
    simp; omega
  · have : ¬ f i < G.cap i := fun h => by have := hc.along i hi ha h; rw [hb] at this; exact absurd this (by decide)
    simp; omega
  · simp
/-- A cut of the flow's value is closed. -/
theorem cap_closed {G : Nt} (hG : G.Ok) {s t : Nat} (hs : s < G.N) {f : Nat → Int} (F : G.Flow s t f) {S : Nat → Bool} (h1 : S s = true) (h2 : S t = false) (he : G.out f s = G.capC S) : G.Closed f S := by
  rw [value_cut hG hs F h1 h2] at he
  have all := sm_eq_all (fun i hi => cross_le (F.lo i hi) (F.hi i hi)) he
  refine ⟨fun i hi ha hlt => ?_, fun i hi hb hlt => ?_⟩
  · have e := all i hi
    cases hb : S (G.to i)
    · unfold cross at e; simp [ha, hb] at e; omega
    · rfl
  · have e := all i hi
    cases ha : S (G.fr i)
    · unfold cross at e; simp [ha, hb] at e; omega
    · rfl

/-- A greatest flow, with what its residual graph reaches. -/
structure Nt.Best (G : Nt) (s t : Nat) (f : Nat → Int) (c : Nat → Bool) : Prop where
  flow : G.Flow s t f
  reach : G.Reach f s c
  not : c t = false
theorem Nt.Best.cap {G : Nt} (hG : G.Ok) {s t : Nat} (hs : s < G.N) {f : Nat → Int} {c : Nat → Bool} (B : G.Best s t f c) : G.capC c = G.out f s :=
  (closed_cap hG hs B.flow B.reach.src B.not B.reach.closed).symm
theorem Nt.Best.max {G : Nt} (hG : G.Ok) {s t : Nat} (hs : s < G.N) {f g : Nat → Int} {c : Nat → Bool} (B : G.Best s t f c) (F : G.Flow s t g) : G.out g s ≤ G.out f s := by
  rw [← B.cap hG hs]
  exact value_le hG hs F B.reach.src B.not
theorem Nt.Best.value {G : Nt} (hG : G.Ok) {s t : Nat} (hs : s < G.N) {f g : Nat → Int} {c d : Nat → Bool} (B : G.Best s t f c) (D : G.Best s t g d) : G.out f s = G.out g s := by
  have := B.max hG hs D.flow
  have := D.max hG hs B.flow
  omega
/-- A cut of the greatest value holds all that is reached. -/
theorem Nt.Best.sub {G : Nt} (hG : G.Ok) {s t : Nat} (hs : s < G.N) {f : Nat → Int} {c S : Nat → Bool} (B : G.Best s t f c) (h1 : S s = true) (h2 : S t = false) (he : G.capC S = G.out f s) : ∀ v, v < G.N → c v = true → S v = true :=
  B.reach.least S h1 (cap_closed hG hs B.flow h1 h2 he.symm)
/-- What is reached is one, whatever the flow. -/
theorem Nt.Best.same {G : Nt} (hG : G.Ok) {s t : Nat} (hs : s < G.N) {f g : Nat → Int} {c d : Nat → Bool} (B : G.Best s t f c) (D : G.Best s t g d) : ∀ v, v < G.N → c v = d v := by
  have hv := B.value hG hs D
  have a := B.sub hG hs D.reach.src D.not (by rw [D.cap hG hs, hv])
  have b := D.sub hG hs B.reach.src B.not (by rw [B.cap hG hs, hv])
  intro v hv
  have a := a v hv
  have b := b v hv
  cases hc : c v <;> cases hd : d v
  · rfl
  · rw [hc] at b; exact absurd (b hd) (by decide)
  · rw [hd] at a; exact absurd (a hc) (by decide)
  · rfl
/-- A flow whose residual graph's closed set lacks the sink is greatest. -/
theorem out_bound {G : Nt} (hG : G.Ok) {s t : Nat} (hs : s < G.N) (hst : s ≠ t) {f : Nat → Int} (F : G.Flow s t f) : G.out f s ≤ G.m * 1099511627776 := by
  have a := value_le hG hs F (S := fun v => decide (v = s)) (by simp) (by simp; omega)
  have b : G.capC (fun v => decide (v = s)) ≤ sm (fun _ => 1099511627776) G.m := sm_le fun i hi => by
    show (if _ then _ else _) ≤ _
    have := hG.cap1 i hi
    split <;> omega
  have c : ∀ n : Nat, sm (fun _ => 1099511627776) n = n * 1099511627776 := fun n => by
    induction n with
    | zero => rfl
    | succ n ih => show sm _ n + _ = _; rw [ih]; push_cast; omega
  rw [c] at b
  omega
end Fl
end Go.Proofs.Ytjkempammohkaaa
