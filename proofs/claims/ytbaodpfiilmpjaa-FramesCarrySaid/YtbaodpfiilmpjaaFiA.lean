/-
  Plain facts on the encoding of integers. No program is named here.
-/
import Derived.Laws.BitsAllLaws
namespace Go.Proofs.Ytbaodpfiilmpjaa
set_option linter.unusedVariables false

/-- The number that encodes an integer, and back. -/
def zig (n : Int) : Nat := if n < 0 then (-2 * n - 1).toNat else (2 * n).toNat
def zag (u : Nat) : Int := if u % 2 = 1 then -((u / 2 : Nat) : Int) - 1 else ((u / 2 : Nat) : Int)
theorem zag_zig (n : Int) : zag (zig n) = n := by
  unfold zig zag
  split <;> split <;> omega
theorem zig_zag (u : Nat) : zig (zag u) = u := by
  unfold zag
  split <;> (unfold zig; split <;> omega)
theorem zig_lt (n : Int) (h1 : -9223372036854775808 ≤ n) (h2 : n < 9223372036854775808) : zig n < 18446744073709551616 := by unfold zig; split <;> omega
theorem zag_in (u : Nat) (h : u < 18446744073709551616) : -9223372036854775808 ≤ zag u ∧ zag u < 9223372036854775808 := by unfold zag; split <;> omega

/-- Groups of seven bits. -/
def encN (u : Nat) : List UInt8 := if u < 128 then [UInt8.ofNat u] else UInt8.ofNat (128 + u % 128) :: encN (u / 128)
termination_by u
decreasing_by omega
def encI (n : Int) : List UInt8 := encN (zig n)
theorem encN_lo (u : Nat) (h : u < 128) : encN u = [UInt8.ofNat u] := by rw [encN, if_pos h]
theorem encN_hi (u : Nat) (h : ¬ u < 128) : encN u = UInt8.ofNat (128 + u % 128) :: encN (u / 128) := by rw [encN, if_neg h]
theorem encN_pos (u : Nat) : 0 < (encN u).length := by
  by_cases h : u < 128
  · rw [encN_lo u h]; simp
  · rw [encN_hi u h]; simp
theorem encN_len (k : Nat) : ∀ u, u < 128 ^ (k + 1) → (encN u).length ≤ k + 1 := by
  induction k with
  | zero => intro u h; rw [encN_lo u (by simpa using h)]; simp
  | succ k ih =>
    intro u h
    by_cases h1 : u < 128
    · rw [encN_lo u h1]; simp
    · rw [encN_hi u h1]
      have := ih (u / 128) (by rw [Nat.div_lt_iff_lt_mul (by decide)]; rw [Nat.pow_succ] at h; exact h)
      simp only [List.length_cons]
      omega
theorem encN_ten (u : Nat) (h : u < 18446744073709551616) : (encN u).length ≤ 10 := encN_len 9 u (Nat.lt_of_lt_of_le h (by decide))
theorem encI_ten (n : Int) (h1 : -9223372036854775808 ≤ n) (h2 : n < 9223372036854775808) : (encI n).length ≤ 10 := encN_ten _ (zig_lt n h1 h2)

/-- How many bytes another one of the same integer follows. -/
def cnt : List UInt8 → Nat
  | [] => 0
  | c :: t => if 128 ≤ c.toNat then cnt t + 1 else 0
def valN : List UInt8 → Nat
  | [] => 0
  | c :: t => c.toNat % 128 + 128 * valN t
def readI (l : List UInt8) : Except Int (Int × List UInt8) :=
  if 10 ≤ cnt l then .error 5
  else if cnt l = l.length then .error 6
  else if ((l.getD (cnt l) 0).toNat = 0 ∧ 0 < cnt l) ∨ (cnt l = 9 ∧ 1 < (l.getD (cnt l) 0).toNat) then .error 5
  else .ok (zag (valN (l.take (cnt l + 1))), l.drop (cnt l + 1))
theorem cnt_le (l : List UInt8) : cnt l ≤ l.length := by
  induction l with
  | nil => exact Nat.le_refl _
  | cons c t ih => unfold cnt; split <;> simp <;> omega
theorem cnt_get (l : List UInt8) : ∀ i (h : i < cnt l) (h2 : i < l.length), 128 ≤ (l[i]).toNat := by
  induction l with
  | nil => intro i h; exact absurd h (Nat.not_lt_zero _)
  | cons c t ih =>
    intro i h h2
    unfold cnt at h
    split at h
    · cases i with
      | zero => simpa
      | succ i => exact ih i (by omega) (by simpa using h2)
    · omega
theorem cnt_end (l : List UInt8) : ∀ (h : cnt l < l.length), (l[cnt l]).toNat < 128 := by
  induction l with
  | nil => intro h; exact absurd h (Nat.not_lt_zero _)
  | cons c t ih =>
    intro h
    by_cases hc : 128 ≤ c.toNat
    · have e : cnt (c :: t) = cnt t + 1 := by rw [cnt, if_pos hc]
      have : (c :: t)[cnt (c :: t)] = t[cnt t]'(by rw [e] at h; simpa using h) := by simp only [e]; rfl
      rw [this]
      exact ih _
    · have e : cnt (c :: t) = 0 := by rw [cnt, if_neg hc]
      have : (c :: t)[cnt (c :: t)] = c := by simp only [e]; rfl
      rw [this]; omega
/-- The bytes ahead of a place are all of 128 or greater. -/
theorem cnt_is (l : List UInt8) (k : Nat) (hk : k ≤ l.length) (h : ∀ i (h : i < k), 128 ≤ (l[i]'(by omega)).toNat) (he : ∀ h : k < l.length, (l[k]).toNat < 128) : cnt l = k := by
  have h1 := cnt_le l
  rcases Nat.lt_trichotomy (cnt l) k with h2 | h2 | h2
  · have := h (cnt l) h2
    have := cnt_end l (by omega)
    omega
  · exact h2
  · have := he (by omega)
    have := cnt_get l k h2 (by omega)
    omega
theorem cnt_more (l : List UInt8) (k : Nat) (hk : k ≤ l.length) (h : ∀ i (h : i < k), 128 ≤ (l[i]'(by omega)).toNat) : k ≤ cnt l := by
  have h1 := cnt_le l
  rcases Nat.lt_or_ge (cnt l) k with h2 | h2
  · have := h (cnt l) h2
    have := cnt_end l (by omega)
    omega
  · exact h2
theorem valN_lt (t : List UInt8) : valN t < 128 ^ t.length := by
  induction t with
  | nil => decide
  | cons c t ih =>
    unfold valN
    rw [List.length_cons, Nat.pow_succ]
    have : c.toNat % 128 < 128 := Nat.mod_lt _ (by decide)
    omega
theorem valN_app (s t : List UInt8) : valN (s ++ t) = valN s + 128 ^ s.length * valN t := by
  induction s with
  | nil => simp [valN]
  | cons c s ih =>
    rw [List.cons_append, valN, valN, ih, List.length_cons, Nat.pow_succ, Nat.mul_add]
    rw [show 128 * (128 ^ s.length * valN t) = 128 ^ s.length * 128 * valN t by rw [← Nat.mul_assoc, Nat.mul_comm 128]]
    omega
theorem valN_snoc (t : List UInt8) (k : Nat) (h : k < t.length) : valN (t.take (k + 1)) = valN (t.take k) + (t[k]).toNat % 128 * 128 ^ k := by
  rw [List.take_succ_eq_append_getElem h, valN_app, List.length_take, show min k t.length = k by omega]
  show _ + 128 ^ k * ((t[k]).toNat % 128 + 128 * 0) = _
  rw [Nat.mul_zero, Nat.add_zero, Nat.mul_comm]
/-- Read back. -/
theorem cnt_enc (n : Nat) : ∀ u, u ≤ n → ∀ r, cnt (encN u ++ r) = (encN u).length - 1 := by
  induction n with
  | zero => intro u h r; rw [encN_lo u (by omega)]; obtain rfl : u = 0 := by omega
            rfl
  | succ n ih =>
    intro u h r
    by_cases h1 : u < 128
    · rw [encN_lo u h1, List.singleton_append, cnt, if_neg (by rw [UInt8.toNat_ofNat']; omega)]; rfl
    · rw [encN_hi u h1, List.cons_append, cnt, if_pos (by rw [UInt8.toNat_ofNat']; omega), ih (u / 128) (by omega) r]
      have := encN_pos (u / 128)
      simp only [List.length_cons]
      omega
theorem valN_enc (n : Nat) : ∀ u, u ≤ n → valN (encN u) = u := by
  induction n with
  | zero => intro u h; obtain rfl : u = 0 := by omega
            rw [encN_lo 0 (by decide)]; rfl
  | succ n ih =>
    intro u h
    by_cases h1 : u < 128
    · rw [encN_lo u h1, valN, valN, UInt8.toNat_ofNat']; omega
    · rw [encN_hi u h1, valN, ih (u / 128) (by omega), UInt8.toNat_ofNat']; omega
theorem enc_last (k : Nat) : ∀ u, (encN u).length = k + 1 → ((encN u).getD k 0).toNat = u / 128 ^ k ∧ (0 < k → 1 ≤ u / 128 ^ k) := by
  induction k with
  | zero =>
    intro u h
    by_cases h1 : u < 128
    · rw [encN_lo u h1]; exact ⟨by show (UInt8.ofNat u).toNat = _; rw [UInt8.toNat_ofNat']; omega, fun h => absurd h (Nat.lt_irrefl _)⟩
    · rw [encN_hi u h1] at h
      have := encN_pos (u / 128)
      simp only [List.length_cons] at h
      omega
  | succ k ih =>
    intro u h
    by_cases h1 : u < 128
    · rw [encN_lo u h1] at h; simp at h
    · rw [encN_hi u h1] at h ⊢
      simp only [List.length_cons] at h
      have := ih (u / 128) (by omega)
      rw [List.getD_cons_succ, Nat.pow_succ, Nat.mul_comm, ← Nat.div_div_eq_div_mul]
      refine ⟨this.1, fun _ => ?_⟩
      cases k with
      | zero => simp only [Nat.pow_zero, Nat.div_one]; omega
      | succ k => exact this.2 (by omega)
theorem readI_enc (u : Nat) (h : u < 18446744073709551616) (r : List UInt8) : readI (encN u ++ r) = .ok (zag u, r) := by
  have h1 := encN_ten u h
  have h2 := encN_pos u
  have hc := cnt_enc u u (Nat.le_refl _) r
  obtain ⟨k, hk⟩ : ∃ k, (encN u).length = k + 1 := ⟨(encN u).length - 1, by omega⟩
  have hl := enc_last k u hk
  rw [hk, Nat.add_sub_cancel] at hc
  have hg : (encN u ++ r).getD k 0 = (encN u).getD k 0 := by
    rw [List.getD_eq_getElem?_getD, List.getD_eq_getElem?_getD, List.getElem?_append_left (by omega)]
  unfold readI
  rw [hc, hg, hl.1]
  have h9 : k = 9 → u / 128 ^ k ≤ 1 := fun e => by subst e; omega
  rw [if_neg (by omega), if_neg (by rw [List.length_append]; omega), if_neg]
  · rw [show (encN u ++ r).take (k + 1) = encN u by rw [← hk, List.take_left'] <;> rfl, show (encN u ++ r).drop (k + 1) = r by rw [← hk, List.drop_left'] <;> rfl, valN_enc u u (Nat.le_refl _)]
  · rintro (⟨a, b⟩ | ⟨a, b⟩)
    · have := hl.2 b; omega
    · have := h9 a; omega
theorem readI_encI (n : Int) (h1 : -9223372036854775808 ≤ n) (h2 : n < 9223372036854775808) (r : List UInt8) : readI (encI n ++ r) = .ok (n, r) := by
  unfold encI
  rw [readI_enc _ (zig_lt n h1 h2) r, zag_zig]
/-- What is read is what is encoded. -/
theorem enc_val (t : List UInt8) : ∀ (k : Nat), t.length = k + 1 → cnt t = k → (0 < k → (t.getD k 0).toNat ≠ 0) → encN (valN t) = t ∧ (0 < k → valN t ≠ 0) := by
  induction t with
  | nil => intro k h; simp at h
  | cons c t ih =>
    intro k hk hc hl
    have hcb := c.toNat_lt
    cases k with
    | zero =>
      obtain rfl : t = [] := by cases t with | nil => rfl | cons => simp at hk
      have : c.toNat < 128 := by
        by_cases h : 128 ≤ c.toNat
        · rw [cnt, if_pos h] at hc; omega
        · omega
      rw [valN, valN, encN_lo _ (by omega)]
      refine ⟨?_, fun h => absurd h (Nat.lt_irrefl _)⟩
      rw [show c.toNat % 128 + 128 * 0 = c.toNat by omega, UInt8.ofNat_toNat]
    | succ k =>
      have h128 : 128 ≤ c.toNat := by
        by_cases h : 128 ≤ c.toNat
        · exact h
        · rw [cnt, if_neg h] at hc; omega
      rw [cnt, if_pos h128] at hc
      have hl2 := hl (by omega)
      rw [List.getD_cons_succ] at hl2
      have := ih k (by simpa using hk) (by omega) (fun _ => hl2)
      have hv : valN t ≠ 0 := by
        cases k with
        | succ k => exact this.2 (by omega)
        | zero =>
          cases t with
          | nil => simp at hk
          | cons d t =>
            obtain rfl : t = [] := by cases t with | nil => rfl | cons => simp at hk
            rw [List.getD_cons_zero] at hl2
            have hd : d.toNat < 128 := by
              by_cases h : 128 ≤ d.toNat
              · rw [cnt, if_pos h] at hc; omega
              · omega
            rw [valN, valN]; omega
      rw [valN]
      refine ⟨?_, fun _ => by omega⟩
      rw [encN_hi _ (by omega), show (c.toNat % 128 + 128 * valN t) / 128 = valN t by omega, this.1]
      congr 1
      rw [show 128 + (c.toNat % 128 + 128 * valN t) % 128 = c.toNat by omega, UInt8.ofNat_toNat]
theorem cnt_take (l : List UInt8) (h : cnt l < l.length) : cnt (l.take (cnt l + 1)) = cnt l := by
  refine cnt_is _ _ (by rw [List.length_take]; omega) (fun i hi => ?_) (fun hi => ?_)
  · rw [List.getElem_take]; exact cnt_get l i hi (by omega)
  · rw [List.getElem_take]; exact cnt_end l h
/-- The bounds of what was read. -/
theorem val_bound (l : List UInt8) (h : cnt l < l.length) (h9 : cnt l ≤ 9) (hl : cnt l = 9 → (l.getD (cnt l) 0).toNat ≤ 1) : valN (l.take (cnt l + 1)) < 18446744073709551616 := by
  by_cases hk : cnt l = 9
  · have e := valN_snoc l (cnt l) h
    have h1 := valN_lt (l.take (cnt l))
    have h2 := hl hk
    rw [List.getD_eq_getElem?_getD, List.getElem?_eq_getElem h, Option.getD_some] at h2
    obtain ⟨x, hx⟩ : ∃ x, x = (l[cnt l]).toNat := ⟨_, rfl⟩
    obtain ⟨y, hy⟩ : ∃ y, y = valN (l.take (cnt l)) := ⟨_, rfl⟩
    rw [List.length_take, show min (cnt l) l.length = cnt l by omega, ← hy] at h1
    rw [← hx] at h2
    rw [e, ← hx, ← hy]
    rw [hk] at h1 ⊢
    have e9 : (128 : Nat) ^ 9 = 9223372036854775808 := by decide
    rw [e9] at h1 ⊢
    have : x = 0 ∨ x = 1 := by omega
    rcases this with rfl | rfl <;> omega
  · have h1 := valN_lt (l.take (cnt l + 1))
    refine Nat.lt_of_lt_of_le h1 ?_
    rw [List.length_take]
    exact Nat.le_trans (Nat.pow_le_pow_right (by decide) (show min (cnt l + 1) l.length ≤ 9 by omega)) (by decide)
theorem readI_back (l : List UInt8) (n : Int) (r : List UInt8) (h : readI l = .ok (n, r)) : -9223372036854775808 ≤ n ∧ n < 9223372036854775808 ∧ l = encI n ++ r := by
  unfold readI at h
  split at h
  · cases h
  · split at h
    · cases h
    · split at h
      · cases h
      · rename_i h1 h2 h3
        have hc := cnt_le l
        have hlt : cnt l < l.length := by omega
        injection h with h
        injection h with e1 e2
        have hv := val_bound l hlt (by omega) (fun e => by
          rcases Nat.lt_or_ge 1 (l.getD (cnt l) 0).toNat with h4 | h4
          · exact absurd (Or.inr ⟨e, h4⟩) h3
          · exact h4)
        have hz := zag_in _ hv
        rw [e1] at hz
        refine ⟨hz.1, hz.2, ?_⟩
        have ht := enc_val (l.take (cnt l + 1)) (cnt l) (by rw [List.length_take]; omega) (cnt_take l hlt) (fun hk e => h3 (Or.inl ⟨by
          rw [← e, List.getD_eq_getElem?_getD, List.getD_eq_getElem?_getD, List.getElem?_take, if_pos (by omega)], hk⟩))
        unfold encI
        rw [← e1, zig_zag, ht.1, ← e2, List.take_append_drop]
theorem readI_len (l : List UInt8) (n : Int) (r : List UInt8) (h : readI l = .ok (n, r)) : r.length < l.length := by
  obtain ⟨_, _, e⟩ := readI_back l n r h
  rw [e, List.length_append]
  have := encN_pos (zig n)
  unfold encI
  omega
theorem readI_err (l : List UInt8) (k : Int) (h : readI l = .error k) : k = 5 ∨ k = 6 := by
  unfold readI at h
  split at h
  · injection h with h; exact .inl h.symm
  · split at h
    · injection h with h; exact .inr h.symm
    · split at h
      · injection h with h; exact .inl h.symm
      · cases h
end Go.Proofs.Ytbaodpfiilmpjaa
