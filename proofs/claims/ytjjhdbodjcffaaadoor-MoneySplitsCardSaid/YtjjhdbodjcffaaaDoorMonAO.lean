/-
  Two rows of a call's own that grow side by side; multiplied and divided, as the reference does it; the parts by rank.
-/
import Derived.Test.YtjjhdbodjcffaaaDoorMonAN
import Derived.Test.YtjjhdbodjcffaaaDoorMonAM
import Derived.Maps.AppendAt
namespace Go.Proofs.YtjjhdbodjcffaaaDoor
open Go.RowKit
open IntWalk
set_option linter.unusedVariables false

/-- A row of integers of the call's own. -/
def OwnK (w : World) (base : Nat) (t : TypeId) (k : IntKind) (v : Value) (l : List Int) : Prop := w.ownsRow base t 1 v l.length (l.map (Value.int k))
theorem OwnK.block {w w' : World} {base : Nat} {t : TypeId} {k : IntKind} {v : Value} {l : List Int} (h : OwnK w base t k v l) (hb : ∀ g, g < w.heap.size → v.ownBlock = some g → w'.heap[g]? = w.heap[g]?) : OwnK w' base t k v l := by
  refine ⟨h.1, ?_⟩
  rcases h.2 with e | ⟨g, cap, cur, rfl, h2, hh, h3⟩
  · exact .inl e
  · exact .inr ⟨g, cap, cur, rfl, h2, (hb g (Array.getElem?_eq_some_iff.1 hh).1 rfl).trans hh, h3⟩
theorem OwnK.low {w : World} {base : Nat} {t : TypeId} {k : IntKind} {v : Value} {l : List Int} (h : OwnK w base t k v l) (g : Nat) (hg : v.ownBlock = some g) : base ≤ g ∧ g < w.heap.size := World.ownsRow.lt h g hg
theorem OwnK.form {w : World} {base : Nat} {t : TypeId} {k : IntKind} {v : Value} {l : List Int} (h : OwnK w base t k v l) (hl : l ≠ []) : ∃ g cap, v = .slice (some ⟨g, 0, none⟩) l.length cap ∧ l.length ≤ cap ∧ cap ≤ maxLen := by
  rcases h.2 with ⟨_, e⟩ | ⟨g, cap, cur, rfl, _, _, h3, h4, _⟩
  · exact absurd (List.length_eq_zero_iff.1 e) hl
  · exact ⟨g, cap, rfl, h3, h4⟩
theorem OwnK.at_ {w : World} {base g n cap : Nat} {t : TypeId} {k : IntKind} {l : List Int} (h : OwnK w base t k (.slice (some ⟨g, 0, none⟩) n cap) l) (i : Nat) (hi : i < l.length) : w.cell? ⟨g, i, none⟩ = some (.int k l[i]) := by
  have := World.ownsRow.cells h (g := g) rfl i (.int k l[i]) (by simp [hi])
  rw [Addr.add_lit, Nat.zero_add] at this
  exact this
theorem OwnK.put {w : World} {base g cap : Nat} {t : TypeId} {k : IntKind} {l : List Int} (h : OwnK w base t k (.slice (some ⟨g, 0, none⟩) l.length cap) l) (i : Nat) (x : Int) : OwnK (w.setCell ⟨g, i, none⟩ (.int k x)) base t k (.slice (some ⟨g, 0, none⟩) (l.set i x).length cap) (l.set i x) := by
  unfold OwnK at h ⊢
  rw [List.length_set, List.map_set]
  exact (World.ownsRow.stored h i (.int k x)).1
theorem OwnK.nil (w : World) (base : Nat) (t : TypeId) (k : IntKind) : OwnK w base t k (.slice none 0 0) [] := World.ownsRow_nil _ _ _ _
/-- Two rows in blocks of their own. -/
structure Two (w0 : World) (t1 : TypeId) (k1 : IntKind) (t2 : TypeId) (k2 : IntKind) (v1 : Value) (l1 : List Int) (v2 : Value) (l2 : List Int) (w : World) : Prop where
  one : OwnK w w0.heap.size t1 k1 v1 l1
  two : OwnK w w0.heap.size t2 k2 v2 l2
  ap : ∀ g, v1.ownBlock = some g → v2.ownBlock = some g → False
  b : Below w0.heap.size w0 w
section
variable {w0 w w1 : World} {t1 t2 : TypeId} {k1 k2 : IntKind} {v1 v2 v1' : Value} {l1 l2 : List Int}
theorem Two.swap (h : Two w0 t1 k1 t2 k2 v1 l1 v2 l2 w) : Two w0 t2 k2 t1 k1 v2 l2 v1 l1 w := ⟨h.two, h.one, fun g a b => h.ap g b a, h.b⟩
theorem Two.below (h : Two w0 t1 k1 t2 k2 v1 l1 v2 l2 w) (hb : Below w.heap.size w w1) : Two w0 t1 k1 t2 k2 v1 l1 v2 l2 w1 :=
  ⟨h.one.block fun g hg _ => hb.block g hg, h.two.block fun g hg _ => hb.block g hg, h.ap, h.b.trans (hb.mono h.b.size)⟩
theorem Two.push (h : Two w0 t1 k1 t2 k2 v1 l1 v2 l2 w) {o : Obj} {x : Int} (hown : w1.ownsRow w0.heap.size t1 1 v1' (l1.length + 1) (l1.map (Value.int k1) ++ [.int k1 x])) (hg : (w.alloc o).grownBy w1 v1.ownBlock)
    (hat : v1'.ownBlock = v1.ownBlock ∨ v1'.ownBlock = some (w.alloc o).heap.size) : Two w0 t1 k1 t2 k2 v1' (l1 ++ [x]) v2 l2 w1 := by
  have hal : ∀ g, g < w.heap.size → (w.alloc o).heap[g]? = w.heap[g]? := fun g hg => Below.heap_alloc w o g hg
  have hsz : (w.alloc o).heap.size = w.heap.size + 1 := by simp
  refine ⟨?_, ?_, ?_, ?_⟩
  · unfold OwnK; rw [List.length_append, List.map_append]; exact hown
  · exact h.two.block fun g hlt e => (hg.block g (by omega) (fun e2 => h.ap g e2.symm e)).trans (hal g hlt)
  · intro g e1 e2
    have hlt := (h.two.low g e2).2
    rcases hat with e | e
    · exact h.ap g (e.symm.trans e1) e2
    · rw [e] at e1
      have := Option.some.inj e1
      omega
  · exact ((h.b.alloc h.b.size o).grown hg (by rw [hsz]; have := h.b.size; omega) (fun j hj => (h.one.low j hj).1))
end
/-- Multiplied and divided, as the reference does it. -/
theorem rmuldiv {A W : Int} {ws : List Int} (h : Wts A W ws) (k : Nat) (hk : k < ws.length) :
    ∃ H L Z, (∀ W0 : World, Calls Tryd.prog 30 #[.int .u64 A, .int .u64 (ws.getD k 0)] W0 fun e w' => e = .returned (.tuple #[.int .u64 H, .int .u64 L]) ∧ W0 = w') ∧
    (∀ W0 : World, Calls Tryd.prog 32 #[.int .u64 H, .int .u64 L, .int .u64 W] W0 fun e w' => e = .returned (.tuple #[.int .u64 Z, .int .u64 (quo A W ws k), .int .u64 (rem A W ws k)]) ∧ W0 = w') := by
  obtain ⟨x0, x1, x2⟩ := h.at_ k hk
  have a0 := h.a0
  have a1 := h.a1
  have hp := h.pos
  have hw := w_in h
  obtain ⟨q0, q1⟩ := quo_in h k hk
  obtain ⟨X, hX⟩ : ∃ X, X = A * ws.getD k 0 := ⟨_, rfl⟩
  have X0 : 0 ≤ X := by rw [hX]; exact Int.mul_nonneg a0 x0
  have X1 : X ≤ W * 1099511627776 := by
    rw [hX]
    calc A * ws.getD k 0 ≤ 1099511627776 * ws.getD k 0 := Int.mul_le_mul_of_nonneg_right a1 x0
      _ ≤ _ := by omega
  have hq : X / W = quo A W ws k := by rw [hX]; rfl
  have hr : X % W = rem A W ws k := by rw [hX]; rfl
  refine ⟨X / 18446744073709551616, X % 18446744073709551616, quo A W ws k / 18446744073709551616, fun W0 => ?_, fun W0 => ?_⟩
  · have := rmul_run A (ws.getD k 0) W0 a0 x0 (by omega) (by omega)
    rw [← hX] at this
    exact this
  · have hm := rdiv_run (X / 18446744073709551616) (X % 18446744073709551616) W W0 hp (by omega) (by omega) (by omega) (by omega) (by omega)
    have e : X / 18446744073709551616 * 18446744073709551616 + X % 18446744073709551616 = X := by omega
    rw [e, hq, hr, show quo A W ws k % 18446744073709551616 = quo A W ws k by omega] at hm
    exact hm
/-- The parts when those of rank less than t have got one more. -/
def bmp (n : Nat) (q : Nat → Int) (rs : List Int) (t : Nat) : List Int := (List.range n).map (fun i => q i + if rankN rs i < t then 1 else 0)
theorem bmp_len (n : Nat) (q : Nat → Int) (rs : List Int) (t : Nat) : (bmp n q rs t).length = n := by simp [bmp]
theorem bmp_zero (n : Nat) (q : Nat → Int) (rs : List Int) : bmp n q rs 0 = (List.range n).map q := by simp [bmp]
theorem bmp_at (n : Nat) (q : Nat → Int) (rs : List Int) (t m : Nat) (hm : m < n) (h : rankN rs m = t) (hm' : m < (bmp n q rs t).length) : (bmp n q rs t)[m] = q m := by
  have e : (bmp n q rs t)[m] = q m + if rankN rs m < t then 1 else 0 := (List.getElem_map ..).trans (by rw [List.getElem_range])
  rw [e, if_neg (by omega)]; omega
theorem bmp_set (n : Nat) (q : Nat → Int) (rs : List Int) (hn : rs.length = n) (t m : Nat) (hm : m < n) (h : rankN rs m = t) : (bmp n q rs t).set m (q m + 1) = bmp n q rs (t + 1) := by
  apply List.ext_getElem
  · simp [bmp]
  · intro i h1 h2
    have hi : i < n := by simpa [bmp] using h2
    rw [List.getElem_set]
    have e1 : (bmp n q rs t)[i]'(by rw [bmp_len]; exact hi) = q i + if rankN rs i < t then 1 else 0 := (List.getElem_map ..).trans (by rw [List.getElem_range])
    have e2 : (bmp n q rs (t + 1))[i]'h2 = q i + if rankN rs i < t + 1 then 1 else 0 := (List.getElem_map ..).trans (by rw [List.getElem_range])
    by_cases c : m = i
    · subst c
      rw [if_pos rfl, e2, if_pos (by omega)]
    · rw [if_neg c, e1, e2]
      have hne : rankN rs i ≠ t := fun e => c (rank_inj (by omega) (by omega) (h.trans e.symm))
      by_cases d : rankN rs i < t
      · rw [if_pos d, if_pos (by omega)]
      · rw [if_neg d, if_neg (by omega)]
theorem bmp_all (A W : Int) (ws : List Int) (L : Nat) (hL : left A W ws ws.length = L) : bmp ws.length (quo A W ws) ((List.range ws.length).map (rem A W ws)) L = shares A W ws := by
  unfold bmp shares
  apply List.map_congr_left
  intro i _
  rw [hL]
  congr 1
  by_cases c : rankN ((List.range ws.length).map (rem A W ws)) i < L
  · rw [if_pos c, if_pos (by omega)]
  · rw [if_neg c, if_neg (by omega)]
end Go.Proofs.YtjjhdbodjcffaaaDoor
