/-
  What the parts of an amount keep to: plain facts.
-/
import Derived.Test.YtjjhdbodjcffaaaDoorMonAA
namespace Go.Proofs.YtjjhdbodjcffaaaDoor
open Go.RowKit
open IntWalk
set_option linter.unusedVariables false

theorem count_lt {α : Type} (p q : α → Bool) (z : α) (hq : q z = true) (hp : p z = false) : ∀ l : List α, (∀ y ∈ l, p y = true → q y = true) → z ∈ l → l.countP p < l.countP q
  | [], _, h => by cases h
  | a :: l, hpq, hz => by
    have hle : l.countP p ≤ l.countP q := List.countP_mono_left fun x hx h => hpq x (List.mem_cons_of_mem _ hx) h
    rw [List.countP_cons, List.countP_cons]
    rcases List.mem_cons.1 hz with rfl | hz
    · rw [hq, hp]; simp; omega
    · have ih := count_lt p q z hq hp l (fun y hy => hpq y (List.mem_cons_of_mem _ hy)) hz
      have ha := hpq a (List.mem_cons_self ..)
      cases e1 : p a <;> cases e2 : q a <;> simp_all <;> omega
theorem rank_lt {n : Nat} (r : Fin n → Int) (x y : Fin n) (h : Rk.lex r x y = true) : Rk.rank r x < Rk.rank r y := by
  unfold Rk.rank
  exact count_lt (fun j => Rk.lex r j x) (fun j => Rk.lex r j y) x h ((Rk.lex_swo r).irrefl x) _ (fun j _ hj => (Rk.lex_swo r).trans j x y hj h) (List.mem_finRange x)
theorem rankN_lt (rs : List Int) (i k : Nat) (hi : i < rs.length) (hk : k < rs.length) (h : rs[k] < rs[i]) : rankN rs i < rankN rs k := by
  unfold rankN
  rw [dif_pos hi, dif_pos hk]
  exact rank_lt _ _ _ ((Rk.lex_iff _ _ _).2 (.inl h))
/-- So many have a remainder at all: they all come ahead of one that has none. -/
theorem pos_rank (rs : List Int) (i : Nat) (hi : i < rs.length) (h : rs[i] = 0) : (List.finRange rs.length).countP (fun j : Fin rs.length => decide ((0 : Int) < rs[j])) ≤ rankN rs i := by
  unfold rankN
  rw [dif_pos hi]
  unfold Rk.rank
  refine List.countP_mono_left fun j _ hj => ?_
  refine (Rk.lex_iff _ _ _).2 (.inl ?_)
  show rs[i] < rs[j]
  rw [h]
  exact of_decide_eq_true hj
theorem sum_pos {α : Type} (f : α → Int) (W : Int) (hW : 0 ≤ W) : ∀ l : List α, (∀ x ∈ l, 0 ≤ f x ∧ f x ≤ W) → (l.map f).sum ≤ (l.countP (fun j => decide (0 < f j)) : Int) * W
  | [], _ => by simp
  | a :: l, h => by
    have ih := sum_pos f W hW l (fun x hx => h x (List.mem_cons_of_mem _ hx))
    have ha := h a (List.mem_cons_self ..)
    rw [List.map_cons, List.sum_cons, List.countP_cons]
    by_cases c : 0 < f a
    · rw [if_pos (by simpa using c), Int.natCast_add, Int.add_mul]
      simp only [Int.natCast_one, Int.one_mul]
      omega
    · rw [if_neg (by simpa using c), Nat.add_zero]
      omega
theorem map_fin (rs : List Int) : (List.finRange rs.length).map (fun j => rs[j]) = rs := by
  apply List.ext_getElem
  · simp
  · intro i h1 h2; simp
theorem set_sum : ∀ (l : List Int) (i : Nat) (x v : Int), l[i]? = some x → (l.set i v).sum = l.sum - x + v
  | [], _, _, _, h => by simp at h
  | a :: l, 0, x, v, h => by
    simp at h
    subst h
    rw [List.set_cons_zero, List.sum_cons, List.sum_cons]; omega
  | a :: l, i + 1, x, v, h => by
    have ih := set_sum l i x v (by simpa using h)
    rw [List.set_cons_succ, List.sum_cons, List.sum_cons, ih]; omega
theorem mem_le_sum : ∀ (l : List Int), (∀ x ∈ l, 0 ≤ x) → ∀ x ∈ l, x ≤ l.sum
  | [], _, x, h => by cases h
  | a :: l, h, x, hx => by
    have nn : 0 ≤ l.sum := by
      clear hx
      have : ∀ l : List Int, (∀ x ∈ l, 0 ≤ x) → 0 ≤ l.sum := by
        intro l
        induction l with
        | nil => intro _; simp
        | cons b l ih => intro hl; have := ih (fun x hx => hl x (List.mem_cons_of_mem _ hx)); have := hl b (List.mem_cons_self ..); rw [List.sum_cons]; omega
      exact this l (fun x hx => h x (List.mem_cons_of_mem _ hx))
    have ha := h a (List.mem_cons_self ..)
    rw [List.sum_cons]
    rcases List.mem_cons.1 hx with rfl | hx
    · omega
    · have := mem_le_sum l (fun x hx => h x (List.mem_cons_of_mem _ hx)) x hx; omega
section
variable {A W : Int} {ws : List Int}
theorem quo_sum (k : Nat) : ((List.range k).map (quo A W ws)).sum = A - left A W ws k := by
  induction k with
  | zero => simp [left]
  | succ k ih =>
    rw [List.range_succ, List.map_append, List.sum_append, ih]
    have : left A W ws (k + 1) = left A W ws k - quo A W ws k := rfl
    rw [this]
    simp
    omega
theorem ord_any (ws : List Int) (r : Nat → Int) : ∃ os, OrdL ((List.range ws.length).map r) os := by
  by_cases h : ws.length = 0
  · rw [h]
    exact ⟨[], by simp, by simp, by simp, by simp⟩
  · haveI : Inhabited (Fin ws.length) := ⟨⟨0, by omega⟩⟩
    exact ⟨_, ord_list ws.length r _ (Rk.ord_small (fun x : Fin ws.length => r x.val))⟩
theorem bump_sum (q : Nat → Int) (rs os : List Int) (n : Nat) (h : OrdL rs os) (hn : rs.length = n) : ∀ j, j ≤ n → (bump n q os j).sum = ((List.range n).map q).sum + j
  | 0, _ => by rw [bump_zero]; simp
  | j + 1, hj => by
    have ih := bump_sum q rs os n h hn j (by omega)
    obtain ⟨i, e, hi, hat, hset⟩ := bump_at n q rs os h hn j (by rw [h.len, hn]; omega)
    rw [← hset, set_sum _ _ _ _ hat, ih]
    omega
theorem shares_sum (h : Wts A W ws) : (shares A W ws).sum = A := by
  obtain ⟨os, ho⟩ := ord_any ws (rem A W ws)
  obtain ⟨l0, l1⟩ := left_all h
  obtain ⟨R, hR⟩ := Int.eq_ofNat_of_zero_le l0
  rw [← bump_all A W ws os ho R hR, bump_sum (quo A W ws) _ os ws.length ho (by simp) R (by omega), quo_sum, hR]
  omega
theorem shares_at (i : Nat) (hi : i < (shares A W ws).length) : (shares A W ws)[i] = quo A W ws i + if (rankN ((List.range ws.length).map (rem A W ws)) i : Int) < left A W ws ws.length then 1 else 0 := by
  exact (List.getElem_map ..).trans (by rw [List.getElem_range])
theorem shares_nn (h : Wts A W ws) : ∀ x ∈ shares A W ws, 0 ≤ x := by
  intro x hx
  exact (shares_bd h x hx).1
theorem shares_le (h : Wts A W ws) : ∀ x ∈ shares A W ws, x ≤ A := by
  intro x hx
  have := mem_le_sum _ (shares_nn h) x hx
  rw [shares_sum h] at this
  exact this
theorem rem_sum (h : Wts A W ws) (k : Nat) (hk : k ≤ ws.length) : ((List.range k).map (rem A W ws)).sum + (A - left A W ws k) * W = A * pre ws k := by
  induction k with
  | zero => simp [left, pre]
  | succ k ih =>
    have i := ih (by omega)
    rw [List.range_succ, List.map_append, List.sum_append]
    have e1 : left A W ws (k + 1) = left A W ws k - quo A W ws k := rfl
    have e2 := pre_succ ws k (by omega)
    have e3 : ws.getD k 0 = ws[k]'(by omega) := by simp [show k < ws.length by omega]
    have q1 := Int.emod_add_mul_ediv (A * ws.getD k 0) W
    have e4 : (A - left A W ws (k + 1)) * W = (A - left A W ws k) * W + W * quo A W ws k := by
      rw [e1, show A - (left A W ws k - quo A W ws k) = (A - left A W ws k) + quo A W ws k by omega, Int.add_mul, Int.mul_comm (quo A W ws k) W]
    have e5 : A * pre ws (k + 1) = A * pre ws k + A * ws.getD k 0 := by rw [e2, ← e3, Int.mul_add]
    rw [e4, e5]
    have q2 : rem A W ws k + W * quo A W ws k = A * ws.getD k 0 := q1
    simp only [List.map_cons, List.map_nil, List.sum_cons, List.sum_nil]
    omega
/-- A weight of nothing gets nothing. -/
theorem shares_zero (h : Wts A W ws) (i : Nat) (hi : i < ws.length) (hz : ws[i] = 0) (hi' : i < (shares A W ws).length) : (shares A W ws)[i] = 0 := by
  have eg : ws.getD i 0 = 0 := by simp [hi, hz]
  have hq : quo A W ws i = 0 := by unfold quo; rw [eg, Int.mul_zero]; simp
  have hr : rem A W ws i = 0 := by unfold rem; rw [eg, Int.mul_zero]; simp
  have hp := h.pos
  rw [shares_at, hq]
  obtain ⟨rs, hrs⟩ : ∃ rs, rs = (List.range ws.length).map (rem A W ws) := ⟨_, rfl⟩
  have hlen : rs.length = ws.length := by rw [hrs]; simp
  have hat : ∀ j (hj : j < rs.length), rs[j] = rem A W ws j := fun j hj => by subst hrs; simp
  rw [← hrs]
  have p1 := pos_rank rs i (by omega) (by rw [hat]; exact hr)
  have p2 := sum_pos (fun j : Fin rs.length => rs[j]) W (by omega) (List.finRange rs.length) (fun x _ => by
    have := rem_in h x.val
    show 0 ≤ rs[x.val] ∧ rs[x.val] ≤ W
    rw [hat]; omega)
  rw [map_fin] at p2
  have p3 := rem_sum h ws.length (Nat.le_refl _)
  rw [pre_all, ← h.sum, ← hrs, Int.sub_mul] at p3
  have p4 : left A W ws ws.length * W ≤ (((List.finRange rs.length).countP (fun j : Fin rs.length => decide ((0 : Int) < rs[j])) : Nat) : Int) * W := by
    have p2' : rs.sum ≤ (((List.finRange rs.length).countP (fun j : Fin rs.length => decide ((0 : Int) < rs[j])) : Nat) : Int) * W := p2
    omega
  have p5 := Int.le_of_mul_le_mul_right p4 hp
  rw [if_neg (by omega)]
  rfl
/-- A greater weight never gets less. -/
theorem shares_mono (h : Wts A W ws) (i k : Nat) (hi : i < ws.length) (hk : k < ws.length) (hw : ws[k] < ws[i]) (hi' : i < (shares A W ws).length) (hk' : k < (shares A W ws).length) : (shares A W ws)[k] ≤ (shares A W ws)[i] := by
  have ei : ws.getD i 0 = ws[i] := by simp [hi]
  have ek : ws.getD k 0 = ws[k] := by simp [hk]
  have hp := h.pos
  have a0 := h.a0
  have hm : A * ws.getD k 0 ≤ A * ws.getD i 0 := Int.mul_le_mul_of_nonneg_left (by omega) a0
  have hq : quo A W ws k ≤ quo A W ws i := Int.ediv_le_ediv hp hm
  rw [shares_at, shares_at]
  by_cases hqq : quo A W ws k = quo A W ws i
  · by_cases hA : A = 0
    · have hl : left A W ws ws.length ≤ 0 := by
        have hh := shares_sum h
        have h2 := quo_sum (A := A) (W := W) (ws := ws) ws.length
        have h3 : ∀ x ∈ (List.range ws.length).map (quo A W ws), 0 ≤ x := by
          intro x hx
          obtain ⟨j, hj, rfl⟩ := List.mem_map.1 hx
          exact (quo_in h j (by simpa using hj)).1
        have h4 : 0 ≤ ((List.range ws.length).map (quo A W ws)).sum := by
          have : ∀ l : List Int, (∀ x ∈ l, 0 ≤ x) → 0 ≤ l.sum := by
            intro l
            induction l with
            | nil => intro _; simp
            | cons b l ih => intro hl; have := ih (fun x hx => hl x (List.mem_cons_of_mem _ hx)); have := hl b (List.mem_cons_self ..); rw [List.sum_cons]; omega
          exact this _ h3
        omega
      rw [if_neg (by omega), if_neg (by omega)]
      omega
    · have hlt : A * ws.getD k 0 < A * ws.getD i 0 := Int.mul_lt_mul_of_pos_left (by omega) (by omega)
      have q1 := Int.emod_add_mul_ediv (A * ws.getD k 0) W
      have q2 := Int.emod_add_mul_ediv (A * ws.getD i 0) W
      have hqq' : A * ws.getD k 0 / W = A * ws.getD i 0 / W := hqq
      rw [hqq'] at q1
      have hrr : rem A W ws k < rem A W ws i := by unfold rem; omega
      have hrk : rankN ((List.range ws.length).map (rem A W ws)) i < rankN ((List.range ws.length).map (rem A W ws)) k := rankN_lt _ i k (by simpa using hi) (by simpa using hk) (by simpa using hrr)
      rw [hqq]
      by_cases c : (rankN ((List.range ws.length).map (rem A W ws)) k : Int) < left A W ws ws.length
      · rw [if_pos c, if_pos (by omega)]; omega
      · rw [if_neg c]; split <;> omega
  · split <;> split <;> omega
theorem shares_same (h : Wts A W ws) (i k : Nat) (hi : i < ws.length) (hk : k < ws.length) (hw : ws[k] = ws[i]) (hi' : i < (shares A W ws).length) (hk' : k < (shares A W ws).length) : -1 ≤ (shares A W ws)[i] - (shares A W ws)[k] ∧ (shares A W ws)[i] - (shares A W ws)[k] ≤ 1 := by
  have hq : quo A W ws k = quo A W ws i := by unfold quo; simp [hi, hk, hw]
  rw [shares_at, shares_at, hq]
  split <;> split <;> omega
end
/-! The parts, with the amount's sign: x is the part without it. -/
theorem neg_sum (l : List Int) : (l.map (fun x => -x)).sum = -l.sum := by
  induction l with
  | nil => rfl
  | cons a l ih => rw [List.map_cons, List.sum_cons, List.sum_cons, ih]; omega
theorem parts_sum (a : Int) (ws : List Int) (a0 : -1099511627776 ≤ a) (a1 : a ≤ 1099511627776) (h : Wts (ab a) ws.sum ws) : (parts a ws).sum = a := by
  unfold parts
  have := shares_sum h
  have e : ab a = if a < 0 then -a else a := by unfold ab; split <;> rfl
  by_cases c : a < 0
  · rw [if_pos c, neg_sum, this, e, if_pos c]; omega
  · rw [if_neg c, this, e, if_neg c]
theorem parts_len (a : Int) (ws : List Int) : (parts a ws).length = ws.length := by
  unfold parts; split
  · rw [List.length_map, shares_len]
  · exact shares_len _ _ _
theorem parts_at (a : Int) (ws : List Int) (i : Nat) (hi : i < (parts a ws).length) (hi' : i < (shares (ab a) ws.sum ws).length) : (parts a ws)[i] = if a < 0 then -(shares (ab a) ws.sum ws)[i] else (shares (ab a) ws.sum ws)[i] := by
  unfold parts
  by_cases c : a < 0
  · simp [c]
  · simp [c]
theorem ab_cases (a : Int) : (a < 0 ∧ ab a = -a) ∨ (0 ≤ a ∧ ab a = a) := by unfold ab; split <;> omega
/-- Each part has the amount's sign, and is no more than it; a weight of nothing gets nothing. -/
theorem parts_one (a : Int) (ws : List Int) (a0 : -1099511627776 ≤ a) (a1 : a ≤ 1099511627776) (h : Wts (ab a) ws.sum ws) (i : Nat) (hi : i < ws.length) (hi' : i < (parts a ws).length) :
    (0 ≤ a → 0 ≤ (parts a ws)[i] ∧ (parts a ws)[i] ≤ a) ∧ (a < 0 → (parts a ws)[i] ≤ 0 ∧ a ≤ (parts a ws)[i]) ∧ (ws[i] = 0 → (parts a ws)[i] = 0) ∧ -1099511627776 ≤ (parts a ws)[i] ∧ (parts a ws)[i] ≤ 1099511627776 := by
  have hl : i < (shares (ab a) ws.sum ws).length := by rw [shares_len]; exact hi
  have e := parts_at a ws i hi' hl
  have s0 := shares_nn h _ (List.getElem_mem hl)
  have s1 := shares_le h _ (List.getElem_mem hl)
  have s2 := fun hz => shares_zero h i hi hz hl
  rw [e]
  generalize (shares (ab a) ws.sum ws)[i] = y at *
  rcases ab_cases a with ⟨c, ea⟩ | ⟨c, ea⟩
  · rw [if_pos c]
    refine ⟨fun h' => by omega, fun _ => by omega, fun hz => by have := s2 hz; omega, by omega, by omega⟩
  · rw [if_neg (by omega)]
    refine ⟨fun _ => by omega, fun h' => by omega, fun hz => s2 hz, by omega, by omega⟩
theorem parts_two (a : Int) (ws : List Int) (h : Wts (ab a) ws.sum ws) (i k : Nat) (hi : i < ws.length) (hk : k < ws.length) (hi' : i < (parts a ws).length) (hk' : k < (parts a ws).length) (d : Int) (hd : d = if a < 0 then (parts a ws)[k] - (parts a ws)[i] else (parts a ws)[i] - (parts a ws)[k]) :
    (ws[k] < ws[i] → 0 ≤ d) ∧ (ws[i] < ws[k] → d ≤ 0) ∧ (ws[i] = ws[k] → -1 ≤ d ∧ d ≤ 1) := by
  have li : i < (shares (ab a) ws.sum ws).length := by rw [shares_len]; exact hi
  have lk : k < (shares (ab a) ws.sum ws).length := by rw [shares_len]; exact hk
  have ei := parts_at a ws i hi' li
  have ek := parts_at a ws k hk' lk
  have m1 := fun hw => shares_mono h i k hi hk hw li lk
  have m2 := fun hw => shares_mono h k i hk hi hw lk li
  have m3 := fun hw => shares_same h i k hi hk hw li lk
  have hd2 : d = (shares (ab a) ws.sum ws)[i] - (shares (ab a) ws.sum ws)[k] := by
    rw [hd, ei, ek]
    by_cases c : a < 0
    · rw [if_pos c, if_pos c, if_pos c]; omega
    · rw [if_neg c, if_neg c, if_neg c]
  refine ⟨fun hw => by have := m1 hw; omega, fun hw => by have := m2 hw; omega, fun hw => ?_⟩
  have := m3 hw.symm
  omega
theorem pre_bd (l : List Int) (h : ∀ x ∈ l, -1099511627776 ≤ x ∧ x ≤ 1099511627776) (k : Nat) (hk : k ≤ l.length) : -(1099511627776 * (k : Int)) ≤ pre l k ∧ pre l k ≤ 1099511627776 * (k : Int) := by
  induction k with
  | zero => simp [pre]
  | succ k ih =>
    have i := ih (by omega)
    have e := pre_succ l k (by omega)
    have hx := h (l[k]'(by omega)) (List.getElem_mem _)
    rw [e]
    omega
/-- Some weight is positive. -/
def someB (l : List Int) : Bool := l.any (fun x => decide (0 < x))
theorem someB_succ (l : List Int) (k : Nat) (h : k < l.length) : someB (l.take (k + 1)) = (someB (l.take k) || decide (0 < l[k])) := by
  unfold someB
  rw [List.take_succ_eq_append_getElem h, List.any_append]
  simp
theorem some_pos (l : List Int) (h : someB l = true) (h0 : ∀ x ∈ l, 0 ≤ x) : 0 < l.sum ∧ 1 ≤ l.length := by
  unfold someB at h
  obtain ⟨x, hx, hp⟩ := List.any_eq_true.1 h
  have hp := of_decide_eq_true hp
  have := mem_le_sum l h0 x hx
  refine ⟨by omega, ?_⟩
  cases l with
  | nil => cases hx
  | cons a l => simp
end Go.Proofs.YtjjhdbodjcffaaaDoor
