/-
  The parts of an amount: the walk.
-/
import Derived.Test.YtjjhdbodjcffaaaDoorMonW
namespace Go.Proofs.YtjjhdbodjcffaaaDoor
open Go.RowKit
open IntWalk

/-- What a loop over places has written so far. -/
def mix (n k : Nat) (f : Nat → Int) : List Int := (List.range n).map (fun i => if i < k then f i else 0)
theorem mix_len (n k : Nat) (f : Nat → Int) : (mix n k f).length = n := by simp [mix]
theorem mix_zero (n : Nat) (f : Nat → Int) : mix n 0 f = List.replicate n 0 := by
  apply List.ext_getElem
  · simp [mix]
  · intro i h1 h2; simp [mix]
theorem mix_put (n k : Nat) (f : Nat → Int) : (mix n k f).set k (f k) = mix n (k + 1) f := by
  apply List.ext_getElem
  · simp [mix]
  · intro i h1 h2
    rw [List.getElem_set]
    simp only [mix, List.getElem_map, List.getElem_range]
    by_cases e : k = i
    · subst e; simp
    · rw [if_neg e]
      by_cases c : i < k
      · rw [if_pos c, if_pos (by omega)]
      · rw [if_neg c, if_neg (by omega)]
theorem mix_all (n : Nat) (f : Nat → Int) : mix n n f = (List.range n).map f := by
  apply List.ext_getElem
  · simp [mix]
  · intro i h1 h2
    simp [mix] at h1 ⊢
    intro h; omega
/-- Quotient and remainder of a weight. -/
def quo (A W : Int) (ws : List Int) (i : Nat) : Int := A * ws.getD i 0 / W
def rem (A W : Int) (ws : List Int) (i : Nat) : Int := A * ws.getD i 0 % W
def left (A W : Int) (ws : List Int) : Nat → Int
  | 0 => A
  | k + 1 => left A W ws k - quo A W ws k
/-- What the amount and the weights keep to. -/
structure Wts (A W : Int) (ws : List Int) : Prop where
  a0 : 0 ≤ A
  a1 : A ≤ 1099511627776
  n1 : 1 ≤ ws.length
  n2 : ws.length ≤ 520
  w0 : ∀ x ∈ ws, 0 ≤ x ∧ x ≤ 1099511627776
  sum : W = ws.sum
  pos : 0 < W
theorem pre_mono (ws : List Int) (h : ∀ x ∈ ws, 0 ≤ x) (k : Nat) : 0 ≤ pre ws k ∧ pre ws k ≤ ws.sum := by
  have e : ws.sum = pre ws k + (ws.drop k).sum := by unfold pre; rw [← List.sum_append, List.take_append_drop]
  have nn : ∀ l : List Int, (∀ x ∈ l, 0 ≤ x) → 0 ≤ l.sum := by
    intro l
    induction l with
    | nil => intro _; simp
    | cons a l ih =>
      intro hl
      have := ih (fun x hx => hl x (List.mem_cons_of_mem _ hx))
      have := hl a (List.mem_cons_self ..)
      rw [List.sum_cons]; omega
  have h1 := nn (ws.take k) (fun x hx => h x (List.mem_of_mem_take hx))
  have h2 := nn (ws.drop k) (fun x hx => h x (List.mem_of_mem_drop hx))
  unfold pre at e ⊢
  omega
theorem Wts.at_ {A W : Int} {ws : List Int} (h : Wts A W ws) (i : Nat) (hi : i < ws.length) : 0 ≤ ws.getD i 0 ∧ ws.getD i 0 ≤ 1099511627776 ∧ ws.getD i 0 ≤ W := by
  have e : ws.getD i 0 = ws[i] := by simp [hi]
  obtain ⟨a, b⟩ := h.w0 ws[i] (List.getElem_mem hi)
  have p1 := pre_mono ws (fun x hx => (h.w0 x hx).1) i
  have p2 := pre_mono ws (fun x hx => (h.w0 x hx).1) (i + 1)
  have p3 := pre_succ ws i hi
  have := h.sum
  rw [e]; omega
/-- What is left is the sum of the parts that were lost, at least nothing. -/
theorem left_bd {A W : Int} {ws : List Int} (h : Wts A W ws) (k : Nat) (hk : k ≤ ws.length) : left A W ws k * W + A * pre ws k ≤ A * W + (k : Int) * W ∧ A * W ≤ left A W ws k * W + A * pre ws k ∧ (0 < k → left A W ws k * W + A * pre ws k < A * W + (k : Int) * W) := by
  induction k with
  | zero => simp [left, pre]
  | succ k ih =>
    obtain ⟨i1, i2, i3⟩ := ih (by omega)
    have e := pre_succ ws k (by omega)
    have e2 : ws.getD k 0 = ws[k]'(by omega) := by simp [show k < ws.length by omega]
    have hp := h.pos
    have q1 := Int.emod_add_mul_ediv (A * ws.getD k 0) W
    have q2 := Int.emod_nonneg (A * ws.getD k 0) (show W ≠ 0 by omega)
    have q3 := Int.emod_lt_of_pos (A * ws.getD k 0) hp
    have e3 : left A W ws (k + 1) * W = left A W ws k * W - W * (A * ws.getD k 0 / W) := by
      show (left A W ws k - A * ws.getD k 0 / W) * W = _
      rw [Int.sub_mul, Int.mul_comm (A * ws.getD k 0 / W)]
    have e4 : A * pre ws (k + 1) = A * pre ws k + A * ws.getD k 0 := by rw [e, ← e2, Int.mul_add]
    have e5 : ((k + 1 : Nat) : Int) * W = k * W + W := by rw [Int.natCast_add, Int.add_mul]; simp
    rw [e3, e4, e5]
    omega
theorem left_in {A W : Int} {ws : List Int} (h : Wts A W ws) (k : Nat) (hk : k ≤ ws.length) : 0 ≤ left A W ws k ∧ left A W ws k ≤ 1099511627776 := by
  have hq : ∀ k, k ≤ ws.length → left A W ws k ≤ A := by
    intro k
    induction k with
    | zero => intro _; exact Int.le_refl _
    | succ k ih =>
      intro hk
      have i := ih (by omega)
      have a := h.at_ k (by omega)
      have : 0 ≤ quo A W ws k := Int.ediv_nonneg (Int.mul_nonneg h.a0 a.1) (by have := h.pos; omega)
      show left A W ws k - quo A W ws k ≤ A
      omega
  have i1 := hq k hk
  obtain ⟨b1, b2, b3⟩ := left_bd h k hk
  have p := pre_mono ws (fun x hx => (h.w0 x hx).1) k
  have hp := h.pos
  have hs := h.sum
  have a1 := h.a1
  refine ⟨?_, by omega⟩
  have c : A * pre ws k ≤ A * W := Int.mul_le_mul_of_nonneg_left (by omega) h.a0
  rcases Int.lt_or_le (left A W ws k) 0 with c2 | c2
  · have : left A W ws k * W < 0 := Int.mul_neg_of_neg_of_pos c2 hp
    omega
  · exact c2
theorem left_all {A W : Int} {ws : List Int} (h : Wts A W ws) : 0 ≤ left A W ws ws.length ∧ left A W ws ws.length < ws.length := by
  obtain ⟨b1, b2, b3⟩ := left_bd h ws.length (Nat.le_refl _)
  refine ⟨(left_in h _ (Nat.le_refl _)).1, ?_⟩
  have b4 := b3 h.n1
  rw [pre_all, ← h.sum] at b4
  have : left A W ws ws.length * W < (ws.length : Int) * W := by omega
  exact Int.lt_of_mul_lt_mul_right this (by have := h.pos; omega)
theorem quo_in {A W : Int} {ws : List Int} (h : Wts A W ws) (k : Nat) (hk : k < ws.length) : 0 ≤ quo A W ws k ∧ quo A W ws k ≤ 1099511627776 := by
  have a := h.at_ k hk
  have hp := h.pos
  refine ⟨Int.ediv_nonneg (Int.mul_nonneg h.a0 a.1) (by omega), ?_⟩
  have l1 := left_in h k (by omega)
  have l2 := left_in h (k + 1) (by omega)
  have : left A W ws (k + 1) = left A W ws k - quo A W ws k := rfl
  omega
theorem rem_in {A W : Int} {ws : List Int} (h : Wts A W ws) (k : Nat) : 0 ≤ rem A W ws k ∧ rem A W ws k < W :=
  ⟨Int.emod_nonneg _ (by have := h.pos; omega), Int.emod_lt_of_pos _ h.pos⟩
theorem w_in {A W : Int} {ws : List Int} (h : Wts A W ws) : W ≤ 571746046443520 := by
  have e := h.sum
  have n2 := h.n2
  have : ∀ l : List Int, (∀ x ∈ l, 0 ≤ x ∧ x ≤ 1099511627776) → l.sum ≤ l.length * 1099511627776 := by
    intro l
    induction l with
    | nil => intro _; simp
    | cons a l ih =>
      intro hl
      have := ih (fun x hx => hl x (List.mem_cons_of_mem _ hx))
      have := hl a (List.mem_cons_self ..)
      rw [List.sum_cons, List.length_cons]; omega
  have := this ws h.w0
  omega
/-- Multiplied and divided. -/
theorem muldiv {A W : Int} {ws : List Int} (h : Wts A W ws) (k : Nat) (hk : k < ws.length) :
    ∃ H L, 0 ≤ H ∧ H < 18446744073709551616 ∧ 0 ≤ L ∧ L < 18446744073709551616 ∧
    (∀ W0 : World, Calls Tryd.prog 25 #[.int .u64 A, .int .u64 (ws.getD k 0)] W0 fun e w' => e = .returned (.tuple #[.int .u64 H, .int .u64 L]) ∧ W0 = w') ∧
    (∀ W0 : World, Calls Tryd.prog 27 #[.int .u64 H, .int .u64 L, .int .u64 W] W0 fun e w' => e = .returned (.tuple #[.int .u64 (quo A W ws k), .int .u64 (rem A W ws k)]) ∧ ∃ q, w' = W0.drewN q) := by
  obtain ⟨x0, x1, x2⟩ := h.at_ k hk
  have a0 := h.a0
  have a1 := h.a1
  have hp := h.pos
  have hw := w_in h
  obtain ⟨X, hX⟩ : ∃ X, X = A * ws.getD k 0 := ⟨_, rfl⟩
  have X0 : 0 ≤ X := by rw [hX]; exact Int.mul_nonneg a0 x0
  have X1 : X ≤ W * 1099511627776 := by
    rw [hX]
    calc A * ws.getD k 0 ≤ 1099511627776 * ws.getD k 0 := Int.mul_le_mul_of_nonneg_right a1 x0
      _ ≤ _ := by omega
  refine ⟨X / 18446744073709551616, X % 18446744073709551616, by omega, by omega, by omega, by omega, fun W0 => ?_, fun W0 => ?_⟩
  · obtain ⟨x, hx⟩ := Int.eq_ofNat_of_zero_le a0
    obtain ⟨y, hy⟩ := Int.eq_ofNat_of_zero_le x0
    rw [hx, hy]
    rw [hx] at a1 hX
    rw [hy] at x1 hX
    refine (Tryd.bits_Mul64 x y (by omega) (by omega) W0).mono ?_
    rintro e w' ⟨he, hw⟩
    exact ⟨he.trans (two_is (by rw [hX]; rfl) (by rw [hX]; rfl)), hw.symm⟩
  · refine (div64_any _ _ W W0 (by omega) (by omega) (by omega) (by omega) (by omega)).mono ?_
    rintro e w' ⟨he, hw⟩
    refine ⟨he.trans (two_is ?_ ?_).symm, hw⟩
    · rw [word_two, hX]; rfl
    · rw [word_two, hX]; rfl
end Go.Proofs.YtjjhdbodjcffaaaDoor
