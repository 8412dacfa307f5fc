/-
  A search in breadth, in plain numbers.
-/
import Derived.Test.YtjkempammohkaaaFlC
namespace Go.Proofs.Ytjkempammohkaaa
namespace Fl
set_option linter.unusedVariables false

/-- How many of the first n nodes have a distance. -/
def mk (D : Nat → Int) : Nat → Nat
  | 0 => 0
  | n + 1 => mk D n + if D n = -1 then 0 else 1
theorem mk_le (D : Nat → Int) (n : Nat) : mk D n ≤ n := by
  induction n with
  | zero => exact Nat.le_refl _
  | succ n ih => show mk D n + (if _ then _ else _) ≤ _; split <;> omega
theorem mk_upd {D : Nat → Int} {n v : Nat} {x : Int} (hv : v < n) (h1 : D v = -1) (h2 : x ≠ -1) : mk (upd D v x) n = mk D n + 1 := by
  have far : ∀ k, k ≤ v → mk (upd D v x) k = mk D k := by
    intro k
    induction k with
    | zero => intro _; rfl
    | succ k ih => intro hk; show mk _ k + (if upd D v x k = -1 then 0 else 1) = mk D k + _; rw [ih (by omega), upd_far (by omega)]
  induction n with
  | zero => omega
  | succ n ih =>
    show mk _ n + (if upd D v x n = -1 then 0 else 1) = mk D n + (if D n = -1 then 0 else 1) + 1
    by_cases c : v = n
    · subst c; rw [far v (Nat.le_refl _), upd_at, if_neg h2, if_pos h1]
    · rw [ih (by omega), upd_far (fun e => c e.symm)]; omega
theorem mk_pos {D : Nat → Int} {n v : Nat} (hv : v < n) (h : D v ≠ -1) : 1 ≤ mk D n := by
  induction n with
  | zero => omega
  | succ n ih =>
    show 1 ≤ mk D n + (if D n = -1 then 0 else 1)
    by_cases c : v = n
    · subst c; rw [if_neg h]; omega
    · have := ih (by omega); omega
/-- A mark that is missing. -/
theorem mk_lt {D : Nat → Int} {n v : Nat} (hv : v < n) (h : D v = -1) : mk D n < n := by
  have := mk_upd (x := 0) hv h (by decide)
  have := mk_le (upd D v 0) n
  omega

section
variable (G : Nt) (s t : Nat) (R : Nat → Int)
/-- What holds of the distances at all times. -/
structure Dst (D : Nat → Int) : Prop where
  ds : D s = 0
  dv : ∀ v, v < G.N → D v = -1 ∨ (0 ≤ D v ∧ D v < mk D G.N)
  par : ∀ v, v < G.N → D v ≠ -1 → v ≠ s → ∃ e, e < 2 * G.m ∧ G.et e = v ∧ 0 < R e ∧ D (G.ef e) ≠ -1 ∧ D v = D (G.ef e) + 1
/-- What holds while a node's edges are looked through, down to a place. -/
structure Bfs (D : Nat → Int) (Q : List Nat) (u : Nat) (c : Int) : Prop where
  dst : Dst G s R D
  q : ∀ x, x ∈ Q → x < G.N ∧ D x ≠ -1
  done : ∀ e : Nat, e < 2 * G.m → D (G.ef e) ≠ -1 → 0 < R e → G.ef e ∈ Q ∨ (G.ef e = u ∧ (e : Int) ≤ c) ∨ D (G.et e) ≠ -1
  tn : D t = -1
end
section
variable {G : Nt} {s t : Nat} {R : Nat → Int}
/-- The distances at the beginning. -/
theorem bfs_start (hs : s < G.N) (ht : t < G.N) (hst : s ≠ t) : Bfs G s t R (upd (fun _ => -1) s 0) [s] s (-1) := by
  have mkd : ∀ x, upd (fun _ => (-1 : Int)) s 0 x ≠ -1 → x = s := fun x h => by
    by_cases c : x = s
    · exact c
    · exact absurd (upd_far c) h
  refine ⟨⟨upd_at _ _ _, fun v hv => ?_, fun v hv h1 h2 => absurd (mkd v h1) h2⟩, fun x hx => ?_, fun e he h1 h2 => .inl (by rw [mkd _ h1]; simp), upd_far (Ne.symm hst)⟩
  · by_cases c : v = s
    · subst c
      right
      have := mk_pos hv (D := upd (fun _ => (-1 : Int)) v 0) (by rw [upd_at]; decide)
      rw [upd_at]
      omega
    · left; exact upd_far c
  · obtain rfl : x = s := by simpa using hx
    exact ⟨hs, by rw [upd_at]; decide⟩
variable {D : Nat → Int} {Q : List Nat} {u : Nat} {c : Int}
/-- The next node's edges begin. -/
theorem Bfs.begin_ {u' : Nat} (h : Bfs G s t R D (u :: Q) u' (-1)) : Bfs G s t R D Q u (G.lst (2 * G.m) u) :=
  ⟨h.dst, fun x hx => h.q x (List.mem_cons_of_mem _ hx), fun e he h1 h2 => by
    rcases h.done e he h1 h2 with a | a | a
    · rcases List.mem_cons.1 a with b | b
      · exact .inr (.inl ⟨b, lst_gap G he b⟩)
      · exact .inl b
    · omega
    · exact .inr (.inr a), h.tn⟩
/-- An edge is looked at. -/
theorem Bfs.pass {e : Nat} (h : Bfs G s t R D Q u e) (hef : G.ef e = u) (hno : R e ≤ 0 ∨ D (G.et e) ≠ -1) : Bfs G s t R D Q u (G.lst e u) :=
  ⟨h.dst, h.q, fun x hx h1 h2 => by
    rcases h.done x hx h1 h2 with a | ⟨a, b⟩ | a
    · exact .inl a
    · by_cases c : x = e
      · subst c
        rcases hno with n | n
        · omega
        · exact .inr (.inr n)
      · exact .inr (.inl ⟨a, lst_gap G (by omega) a⟩)
    · exact .inr (.inr a), h.tn⟩
theorem Dst.mark (h : Dst G s R D) (hG : G.Ok) {e : Nat} (he : e < 2 * G.m) (hu : D (G.ef e) ≠ -1) (hr : 0 < R e) (hv : D (G.et e) = -1) : Dst G s R (upd D (G.et e) (D (G.ef e) + 1)) := by
  have uN := ef_lt hG he
  have vN := et_lt hG he
  have hu2 := (h.dv _ uN).resolve_left hu
  have hne : G.ef e ≠ G.et e := fun x => hu (by rw [x]; exact hv)
  have hs : s ≠ G.et e := fun x => by have := h.ds; rw [x, hv] at this; omega
  have hm := mk_upd (x := D (G.ef e) + 1) vN hv (by omega)
  refine ⟨by rw [upd_far hs]; exact h.ds, fun v hvN => ?_, fun v hvN h1 h2 => ?_⟩
  · rw [hm]
    by_cases c : v = G.et e
    · subst c; rw [upd_at]; right; omega
    · rw [upd_far c]
      rcases h.dv v hvN with a | a
      · exact .inl a
      · exact .inr (by omega)
  · by_cases c : v = G.et e
    · subst c
      exact ⟨e, he, rfl, hr, by rw [upd_far hne]; exact hu, by rw [upd_at, upd_far hne]⟩
    · rw [upd_far c] at h1
      obtain ⟨x, a1, a2, a3, a4, a5⟩ := h.par v hvN h1 h2
      have hx : G.ef x ≠ G.et e := fun y => a4 (by rw [y]; exact hv)
      exact ⟨x, a1, a2, a3, by rw [upd_far hx]; exact a4, by rw [upd_far c, upd_far hx]; exact a5⟩
theorem Bfs.mark {e : Nat} (h : Bfs G s t R D Q u e) (hG : G.Ok) (he : e < 2 * G.m) (hef : G.ef e = u) (hu : D u ≠ -1) (hr : 0 < R e) (hv : D (G.et e) = -1) (ht : G.et e ≠ t) : Bfs G s t R (upd D (G.et e) (D u + 1)) (Q ++ [G.et e]) u (G.lst e u) := by
  have uN := ef_lt hG he
  have hu2 := (h.dst.dv _ uN).resolve_left (by rw [hef]; exact hu)
  rw [hef] at hu2
  refine ⟨hef ▸ h.dst.mark hG he (by rw [hef]; exact hu) hr hv, fun x hx => ?_, fun x hx h1 h2 => ?_, by rw [upd_far (Ne.symm ht)]; exact h.tn⟩
  · rcases List.mem_append.1 hx with a | a
    · obtain ⟨b1, b2⟩ := h.q x a
      exact ⟨b1, by rw [upd_far (fun y => b2 (by rw [y]; exact hv))]; exact b2⟩
    · obtain rfl : x = G.et e := by simpa using a
      exact ⟨et_lt hG he, by rw [upd_at]; omega⟩
  · by_cases c : G.ef x = G.et e
    · exact .inl (by rw [c]; simp)
    · rw [upd_far c] at h1
      by_cases d : G.et x = G.et e
      · exact .inr (.inr (by rw [d, upd_at]; omega))
      · rw [upd_far d]
        rcases h.done x hx h1 h2 with a | ⟨a, b⟩ | a
        · exact .inl (List.mem_append_left _ a)
        · by_cases k : x = e
          · subst k; exact absurd rfl d
          · exact .inr (.inl ⟨a, lst_gap G (by omega) a⟩)
        · exact .inr (.inr a)
/-- The end of a node's edges. -/
theorem Bfs.end_ (h : Bfs G s t R D Q u (-1)) (u' : Nat) : Bfs G s t R D Q u' (-1) :=
  ⟨h.dst, h.q, fun e he h1 h2 => by rcases h.done e he h1 h2 with a | a | a; exact .inl a; omega; exact .inr (.inr a), h.tn⟩
/-- The queue is empty: nothing leads out. -/
theorem Bfs.closed (h : Bfs G s t R D [] u (-1)) : ∀ e, e < 2 * G.m → D (G.ef e) ≠ -1 → 0 < R e → D (G.et e) ≠ -1 := fun e he h1 h2 => by
  rcases h.done e he h1 h2 with a | a | a
  · simp at a
  · omega
  · exact a
theorem Dst.bd (h : Dst G s R D) : ∀ v, v < G.N → -1 ≤ D v ∧ D v < G.N := fun v hv => by
  have := mk_le D G.N
  rcases h.dv v hv with a | a <;> omega
/-- What has a distance lies in each closed set. -/
theorem Dst.least (h : Dst G s R D) (hG : G.Ok) (rs : RS G R) {S : Nat → Bool} (h1 : S s = true) (hc : G.Closed (fl R) S) : ∀ v, v < G.N → D v ≠ -1 → S v = true := by
  have go : ∀ n : Nat, ∀ v, v < G.N → D v ≠ -1 → D v ≤ n → S v = true := by
    intro n
    induction n with
    | zero =>
      intro v hv h2 h3
      by_cases c : v = s
      · rw [c]; exact h1
      · obtain ⟨e, a1, a2, a3, a4, a5⟩ := h.par v hv h2 c
        have := (h.dv _ (ef_lt hG a1)).resolve_left a4
        omega
    | succ n ih =>
      intro v hv h2 h3
      by_cases c : v = s
      · rw [c]; exact h1
      · obtain ⟨e, a1, a2, a3, a4, a5⟩ := h.par v hv h2 c
        have i := ih _ (ef_lt hG a1) a4 (by omega)
        subst a2
        have sm := rs.sum e a1
        unfold Nt.ef at i
        unfold Nt.et
        by_cases k : e % 2 = 0
        · rw [if_pos k] at i ⊢
          refine hc.along _ (by omega) i ?_
          unfold bk at sm
          rw [if_pos k] at sm
          unfold fl
          rw [show 2 * (e / 2) + 1 = e + 1 by omega]
          omega
        · rw [if_neg k] at i ⊢
          refine hc.back _ (by omega) i ?_
          unfold fl
          rw [show 2 * (e / 2) + 1 = e by omega]
          exact a3
  intro v hv h2
  have := (h.dv v hv).resolve_left h2
  exact go (D v).toNat v hv h2 (by omega)
/-- The distances tell what can be reached. -/
theorem Dst.reach (h : Dst G s R D) (hG : G.Ok) (rs : RS G R) (hc : ∀ e, e < 2 * G.m → D (G.ef e) ≠ -1 → 0 < R e → D (G.et e) ≠ -1) : G.Reach (fl R) s (fun v => D v != -1) := by
  refine ⟨by simp [h.ds], ⟨fun i hi h1 h2 => ?_, fun i hi h1 h2 => ?_⟩, fun S h1 h2 v hv h3 => h.least hG rs h1 h2 v hv (by simpa using h3)⟩
  · have a := hc (2 * i) (by omega)
    have sm := rs.sum (2 * i) (by omega)
    unfold Nt.ef Nt.et at a
    unfold bk at sm
    rw [if_pos (by omega)] at sm
    rw [if_pos (by omega), if_pos (by omega), show 2 * i / 2 = i by omega] at a
    rw [show 2 * i / 2 = i by omega] at sm
    unfold fl at h2
    have := a (by simpa using h1) (by omega)
    simpa using this
  · have a := hc (2 * i + 1) (by omega)
    unfold Nt.ef Nt.et at a
    rw [if_neg (by omega), if_neg (by omega), show (2 * i + 1) / 2 = i by omega] at a
    have := a (by simpa using h1) (by unfold fl at h2; omega)
    simpa using this
/-- Where the sink has a distance, a push from the source moves something. -/
theorem Dst.moves (h : Dst G s R D) (hG : G.Ok) (ht : t < G.N) (htd : D t ≠ -1) {X : Nat → Int} (hj : JJ G t D R X) (hst : s ≠ t) (hs : X s = -1) : False := by
  have go : ∀ n : Nat, ∀ v, v < G.N → D v ≠ -1 → D v ≤ n → v ≠ t ∧ X v = -1 := by
    intro n
    induction n with
    | zero =>
      intro v hv h2 h3
      by_cases c : v = s
      · subst c; exact ⟨hst, hs⟩
      · obtain ⟨e, a1, a2, a3, a4, a5⟩ := h.par v hv h2 c
        have := (h.dv _ (ef_lt hG a1)).resolve_left a4
        omega
    | succ n ih =>
      intro v hv h2 h3
      by_cases c : v = s
      · subst c; exact ⟨hst, hs⟩
      · obtain ⟨e, a1, a2, a3, a4, a5⟩ := h.par v hv h2 c
        have i := ih _ (ef_lt hG a1) a4 (by omega)
        subst a2
        exact hj e a1 (by rw [i.2]; omega) a3 a5
  have := (h.dv t ht).resolve_left htd
  exact (go (D t).toNat t ht htd (by omega)).1 rfl
/-- The lists of edges from their beginning: nothing is passed by. -/
theorem JJ.first (D R : Nat → Int) : JJ G t D R (fun u => G.lst (2 * G.m) u) := fun e he h1 => by
  have := lst_gap G he (rfl : G.ef e = G.ef e)
  have h2 : G.lst (2 * G.m) (G.ef e) < e := h1
  omega
theorem XOk.first : XOk G (fun u => G.lst (2 * G.m) u) := fun v _ => lst_is G (2 * G.m) v
end
end Fl
end Go.Proofs.Ytjkempammohkaaa
