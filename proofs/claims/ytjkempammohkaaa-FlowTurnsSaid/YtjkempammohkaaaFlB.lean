/-
  Networks that are turned, listed backwards, or of which one capacity grows.
-/
import Derived.Test.YtjkempammohkaaaFlA
namespace Go.Proofs.Ytjkempammohkaaa
namespace Fl
set_option linter.unusedVariables false

/-- What leaves the source enters the sink. -/
theorem out_ends {G : Nt} (hG : G.Ok) {s t : Nat} (hs : s < G.N) (ht : t < G.N) (hst : s ≠ t) {f : Nat → Int} (F : G.Flow s t f) : G.out f s + G.out f t = 0 := by
  have a := out_cross G hG f (fun _ => true)
  rw [sm_zero (g := fun i => cross (fun _ => true) (G.fr i) (G.to i) (f i)) fun i hi => by simp [cross]] at a
  have b := sm_turn (g := fun v => if v = s then G.out f s else 0) (h := fun v => if (fun _ : Nat => true) v = true then G.out f v else 0) ht (fun v hv hne => by
    show (if true = true then _ else _) = (if v = s then _ else _)
    rw [if_pos rfl]
    by_cases e : v = s
    · subst e; rw [if_pos rfl]
    · rw [if_neg e]; exact F.keep v hv e hne)
  rw [a] at b
  rw [sm_one (g := fun v => if v = s then G.out f s else 0) hs fun v hv hne => by show (if _ then _ else _) = _; rw [if_neg hne]] at b
  simp [Ne.symm hst] at b
  omega

/-- The network with all arcs turned. -/
def Nt.turned (G : Nt) : Nt := ⟨G.N, G.m, G.to, G.fr, G.cap⟩
theorem Nt.Ok.turned {G : Nt} (h : G.Ok) : G.turned.Ok := ⟨h.toN, h.frN, fun i hi => (h.ne i hi).symm, h.cap0, h.cap1⟩
theorem out_turned (G : Nt) (f : Nat → Int) (v : Nat) : G.turned.out f v = - G.out f v := by
  have a := sm_add (fun i => give (G.to i) (G.fr i) (f i) v) (fun i => give (G.fr i) (G.to i) (f i) v) G.m
  rw [sm_zero fun i hi => by show give _ _ _ _ + give _ _ _ _ = 0; unfold give; omega] at a
  show sm (fun i => give (G.to i) (G.fr i) (f i) v) G.m = - sm _ _
  omega
theorem Nt.Flow.turned {G : Nt} {s t : Nat} {f : Nat → Int} (F : G.Flow s t f) : G.turned.Flow t s f :=
  ⟨F.lo, F.hi, fun v hv h1 h2 => by rw [out_turned, F.keep v hv h2 h1]; rfl⟩
theorem value_turned {G : Nt} (hG : G.Ok) {s t : Nat} (hs : s < G.N) (ht : t < G.N) (hst : s ≠ t) {f g : Nat → Int} {c d : Nat → Bool} (B : G.Best s t f c) (D : G.turned.Best t s g d) : G.out f s = G.turned.out g t := by
  have a := D.max hG.turned ht B.flow.turned
  have b := B.max hG hs (g := g) (show G.turned.turned.Flow s t g from D.flow.turned)
  have c := out_ends hG hs ht hst B.flow
  have d := out_ends hG.turned ht hs (Ne.symm hst) D.flow
  rw [out_turned] at a
  have e := out_turned G g s
  omega

/-- The network with the arcs listed backwards. -/
def Nt.back (G : Nt) : Nt := ⟨G.N, G.m, fun i => G.fr (G.m - 1 - i), fun i => G.to (G.m - 1 - i), fun i => G.cap (G.m - 1 - i)⟩
theorem Nt.Ok.back {G : Nt} (h : G.Ok) : G.back.Ok :=
  ⟨fun i hi => h.frN _ (by show G.m - 1 - i < G.m; have : i < G.m := hi; omega), fun i hi => h.toN _ (by show G.m - 1 - i < G.m; have : i < G.m := hi; omega), fun i hi => h.ne _ (by have : i < G.m := hi; omega),
    fun i hi => h.cap0 _ (by have : i < G.m := hi; omega), fun i hi => h.cap1 _ (by have : i < G.m := hi; omega)⟩
theorem out_back (G : Nt) (f : Nat → Int) (v : Nat) : G.back.out (fun i => f (G.m - 1 - i)) v = G.out f v :=
  sm_rev (fun i => give (G.fr i) (G.to i) (f i) v) G.m
theorem out_back2 (G : Nt) (g : Nat → Int) (v : Nat) : G.out (fun i => g (G.m - 1 - i)) v = G.back.out g v := by
  rw [← out_back]
  refine sm_congr fun i hi => ?_
  have h : i < G.m := hi
  show give _ _ (g (G.m - 1 - (G.m - 1 - i))) v = give _ _ (g i) v
  rw [show G.m - 1 - (G.m - 1 - i) = i by omega]
theorem value_back {G : Nt} (hG : G.Ok) {s t : Nat} (hs : s < G.N) {f g : Nat → Int} {c d : Nat → Bool} (B : G.Best s t f c) (D : G.back.Best s t g d) : G.out f s = G.back.out g s := by
  have a := D.max hG.back hs (g := fun i => f (G.m - 1 - i)) ⟨fun i hi => B.flow.lo _ (by have : i < G.m := hi; omega), fun i hi => B.flow.hi _ (by have : i < G.m := hi; omega), fun v hv h1 h2 => by rw [out_back]; exact B.flow.keep v hv h1 h2⟩
  have b := B.max hG hs (g := fun i => g (G.m - 1 - i)) ⟨fun i hi => D.flow.lo _ (by show G.m - 1 - i < G.m; omega), fun i hi => by
    have := D.flow.hi (G.m - 1 - i) (by show G.m - 1 - i < G.m; omega)
    have e : G.back.cap (G.m - 1 - i) = G.cap i := by show G.cap (G.m - 1 - (G.m - 1 - i)) = _; rw [show G.m - 1 - (G.m - 1 - i) = i by omega]
    rw [e] at this; exact this, fun v hv h1 h2 => by rw [out_back2]; exact D.flow.keep v hv h1 h2⟩
  rw [out_back] at a
  rw [out_back2] at b
  omega

/-- The network in which one arc carries more. -/
def Nt.grown (G : Nt) (k : Nat) (x : Int) : Nt := ⟨G.N, G.m, G.fr, G.to, fun i => if i = k then G.cap i + x else G.cap i⟩
theorem value_grown {G : Nt} (hG : G.Ok) {s t : Nat} (hs : s < G.N) {k : Nat} {x : Int} (hk : k < G.m) (h0 : 0 ≤ x) (hO : (G.grown k x).Ok) {f g : Nat → Int} {c d : Nat → Bool} (B : G.Best s t f c) (D : (G.grown k x).Best s t g d) :
    G.out f s ≤ (G.grown k x).out g s ∧ (G.grown k x).out g s - G.out f s ≤ x := by
  refine ⟨D.max hO hs (g := f) ⟨B.flow.lo, fun i hi => ?_, B.flow.keep⟩, ?_⟩
  · have := B.flow.hi i hi
    show f i ≤ if i = k then _ else _
    split <;> omega
  · have a := value_le hO hs D.flow B.reach.src B.not
    have e := B.cap hG hs
    have h := sm_turn (g := fun i => if c (G.fr i) = true ∧ c (G.to i) = false then G.cap i else 0) (h := fun i => if c (G.fr i) = true ∧ c (G.to i) = false then (if i = k then G.cap i + x else G.cap i) else 0) hk (fun i hi hne => by
      show (if _ then _ else _) = if _ then _ else _
      rw [if_neg hne])
    have h' : (G.grown k x).capC c = G.capC c + ((if c (G.fr k) = true ∧ c (G.to k) = false then (if k = k then G.cap k + x else G.cap k) else 0) - (if c (G.fr k) = true ∧ c (G.to k) = false then G.cap k else 0)) := h
    rw [h', e] at a
    rw [if_pos rfl] at a
    split at a <;> omega

/-- Networks that agree where they have nodes and arcs. -/
structure Nt.Like (G H : Nt) : Prop where
  N : G.N = H.N
  m : G.m = H.m
  fr : ∀ i, i < G.m → G.fr i = H.fr i
  to : ∀ i, i < G.m → G.to i = H.to i
  cap : ∀ i, i < G.m → G.cap i = H.cap i
end Fl
end Go.Proofs.Ytjkempammohkaaa
