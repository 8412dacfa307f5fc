/-
  Plain facts on numbers of two words: a product by halves, a quotient digit by digit, a quotient bit by bit. No program is named here.
-/
namespace Go.Proofs.YtjjhdbodjcffaaaDoor.Dv
theorem quo_of (n y q : Int) (hy : 0 < y) (h1 : q * y ≤ n) (h2 : n < (q + 1) * y) : n / y = q := by
  have := Int.ediv_emod_unique (a := n) (b := y) (r := n - q * y) (q := q) hy
  refine (this.2 ⟨by grind, by omega, ?_⟩).1
  have : (q + 1) * y = q * y + y := by grind
  omega
theorem quo_le (n y q : Int) (hy : 0 < y) (h1 : q * y ≤ n) : q ≤ n / y := Int.le_ediv_of_mul_le hy h1
theorem quo_lt (n y q : Int) (hy : 0 < y) (h1 : n < q * y) : n / y < q := Int.ediv_lt_of_lt_mul hy h1

/-- Where the loop for one digit of a quotient stands. -/
structure Kn (u y y1 y0 d q r : Int) : Prop where
  q0 : 0 ≤ q
  q1 : q ≤ 4294967297
  r0 : 0 ≤ r
  r1 : r < 4294967296
  hu : u = q * y1 + r
  le : (u * 4294967296 + d) / y ≤ q
/-- What is given of the divisor and the digits. -/
structure Kd (u y y1 y0 d : Int) : Prop where
  hy : y = y1 * 4294967296 + y0
  y1l : 2147483648 ≤ y1
  y1h : y1 < 4294967296
  y0l : 0 ≤ y0
  y0h : y0 < 4294967296
  u0 : 0 ≤ u
  uy : u < y
  d0 : 0 ≤ d
  d1 : d < 4294967296
theorem Kd.true_lt {u y y1 y0 d : Int} (k : Kd u y y1 y0 d) : 0 ≤ (u * 4294967296 + d) / y ∧ (u * 4294967296 + d) / y < 4294967296 := by
  obtain ⟨a1, a2, a3, a4, a5, a6, a7, a8, a9⟩ := k
  refine ⟨Int.ediv_nonneg (by omega) (by omega), quo_lt _ _ _ (by omega) (by omega)⟩
theorem Kn.start {u y y1 y0 d : Int} (k : Kd u y y1 y0 d) : Kn u y y1 y0 d (u / y1) (u - u / y1 * y1) := by
  obtain ⟨a1, a2, a3, a4, a5, a6, a7, a8, a9⟩ := k
  have h1 : u / y1 < 4294967298 := Int.ediv_lt_of_lt_mul (by omega) (by grind)
  have h2 := Int.emod_add_mul_ediv u y1
  have h3 := Int.emod_nonneg u (show y1 ≠ 0 by omega)
  have h4 := Int.emod_lt_of_pos u (show 0 < y1 by omega)
  have h5 : u / y1 * y1 = y1 * (u / y1) := Int.mul_comm _ _
  refine ⟨Int.ediv_nonneg (by omega) (by omega), by omega, by omega, by omega, by omega, ?_⟩
  have h6 : u < (u / y1 + 1) * y1 := by rw [Int.add_mul]; omega
  have : (u * 4294967296 + d) / y < u / y1 + 1 := by
    refine quo_lt _ _ _ (by omega) ?_
    have h7 : u + 1 ≤ (u / y1 + 1) * y1 := h6
    have h8 : (u + 1) * 4294967296 ≤ (u / y1 + 1) * y1 * 4294967296 := Int.mul_le_mul_of_nonneg_right h7 (by omega)
    have h9 : 0 ≤ (u / y1 + 1) * y0 := Int.mul_nonneg (by have := Int.ediv_nonneg a6 (show 0 ≤ y1 by omega); omega) a4
    rw [a1, Int.mul_add, ← Int.mul_assoc]; omega
  omega
/-- The test is the true one. -/
theorem Kn.test {u y y1 y0 d q r : Int} (k : Kd u y y1 y0 d) (h : Kn u y y1 y0 d q r) : q * y - (u * 4294967296 + d) = q * y0 - (4294967296 * r + d) := by
  obtain ⟨a1, a2, a3, a4, a5, a6, a7, a8, a9⟩ := k
  obtain ⟨b1, b2, b3, b4, b5, b6⟩ := h
  subst a1 b5; grind
/-- Where the test fails, the digit is found. -/
theorem Kn.done {u y y1 y0 d q r : Int} (k : Kd u y y1 y0 d) (h : Kn u y y1 y0 d q r) (hc : ¬ 4294967296 * r + d < q * y0) : q = (u * 4294967296 + d) / y := by
  have ht := Kn.test k h
  have := quo_le (u * 4294967296 + d) y q (by have := k.hy; have := k.y1l; have := k.y0l; omega) (by omega)
  have := h.le
  omega
theorem Kn.more {u y y1 y0 d q r : Int} (k : Kd u y y1 y0 d) (h : Kn u y y1 y0 d q r) (hc : 4294967296 ≤ q ∨ 4294967296 * r + d < q * y0) : (u * 4294967296 + d) / y ≤ q - 1 ∧ 1 ≤ q := by
  have ht := Kn.test k h
  obtain ⟨t1, t2⟩ := k.true_lt
  rcases hc with hc | hc
  · omega
  · have := quo_lt (u * 4294967296 + d) y q (by have := k.hy; have := k.y1l; have := k.y0l; omega) (by omega)
    omega
theorem Kn.step {u y y1 y0 d q r : Int} (k : Kd u y y1 y0 d) (h : Kn u y y1 y0 d q r) (hc : 4294967296 ≤ q ∨ 4294967296 * r + d < q * y0) (hr : r + y1 < 4294967296) : Kn u y y1 y0 d (q - 1) (r + y1) := by
  obtain ⟨m1, m2⟩ := Kn.more k h hc
  refine ⟨by omega, by have := h.q1; omega, by have := h.r0; have := k.y1l; omega, hr, ?_, m1⟩
  have := h.hu
  rw [Int.sub_mul]; omega
theorem Kn.break {u y y1 y0 d q r : Int} (k : Kd u y y1 y0 d) (h : Kn u y y1 y0 d q r) (hc : 4294967296 ≤ q ∨ 4294967296 * r + d < q * y0) (hr : 4294967296 ≤ r + y1) : q - 1 = (u * 4294967296 + d) / y := by
  obtain ⟨m1, m2⟩ := Kn.more k h hc
  have ht := Kn.test k h
  have h1 : (q - 1) * y0 ≤ 4294967296 * 4294967295 := by
    have := h.q1; have := k.y0h; have := k.y0l
    calc (q - 1) * y0 ≤ 4294967296 * y0 := Int.mul_le_mul_of_nonneg_right (by omega) (by omega)
      _ ≤ _ := by omega
  have h2 : (q - 1) * y ≤ u * 4294967296 + d := by
    have e1 : (q - 1) * y = q * y - y := by rw [Int.sub_mul]; omega
    have e2 : (q - 1) * y0 = q * y0 - y0 := by rw [Int.sub_mul]; omega
    have := k.hy; have := k.d0; omega
  have := quo_le (u * 4294967296 + d) y (q - 1) (by have := k.hy; have := k.y1l; have := k.y0l; omega) h2
  omega
/-- What lies inside the words. -/
theorem Kn.fits {u y y1 y0 d q r : Int} (k : Kd u y y1 y0 d) (h : Kn u y y1 y0 d q r) : 0 ≤ q * y0 ∧ q * y0 ≤ 18446744073709551615 ∧ 0 ≤ 4294967296 * r + d ∧ 4294967296 * r + d ≤ 18446744073709551615 := by
  have := h.q1; have := k.y0h; have := k.y0l; have := h.q0; have := h.r0; have := h.r1; have := k.d0; have := k.d1
  refine ⟨Int.mul_nonneg (by omega) (by omega), ?_, by omega, by omega⟩
  calc q * y0 ≤ 4294967297 * y0 := Int.mul_le_mul_of_nonneg_right (by omega) (by omega)
    _ ≤ _ := by omega

/-! The whole: two digits. -/
theorem two_digits (u d1 d0 y : Int) (hy : 0 < y) :
    let q1 := (u * 4294967296 + d1) / y
    let v := (u * 4294967296 + d1) % y
    let q0 := (v * 4294967296 + d0) / y
    (u * 18446744073709551616 + (d1 * 4294967296 + d0)) / y = q1 * 4294967296 + q0 ∧ (u * 18446744073709551616 + (d1 * 4294967296 + d0)) % y = (v * 4294967296 + d0) % y := by
  intro q1 v q0
  have e : u * 18446744073709551616 + (d1 * 4294967296 + d0) = (v * 4294967296 + d0) + y * (q1 * 4294967296) := by
    have := Int.emod_add_mul_ediv (u * 4294967296 + d1) y
    have e2 : y * (q1 * 4294967296) = y * q1 * 4294967296 := (Int.mul_assoc _ _ _).symm
    show _ = ((u * 4294967296 + d1) % y * 4294967296 + d0) + y * ((u * 4294967296 + d1) / y * 4294967296)
    rw [show y * ((u * 4294967296 + d1) / y * 4294967296) = y * ((u * 4294967296 + d1) / y) * 4294967296 from (Int.mul_assoc _ _ _).symm]
    omega
  rw [e]
  constructor
  · rw [Int.add_mul_ediv_left _ _ (by omega)]; omega
  · rw [Int.add_mul_emod_self_left]
/-- The scaling. -/
theorem scaled (n y s : Int) (hs : 0 < s) : (n * s) / (y * s) = n / y ∧ (n * s) % (y * s) / s = n % y := by
  refine ⟨Int.mul_ediv_mul_of_pos_left _ _ hs, ?_⟩
  rw [Int.mul_comm n, Int.mul_comm y, Int.mul_emod_mul_of_pos _ _ hs]
  exact Int.mul_ediv_cancel_left _ (by omega)
end Go.Proofs.YtjjhdbodjcffaaaDoor.Dv
namespace Go.Proofs.YtjjhdbodjcffaaaDoor.Dv
/-- A product by its halves. -/
theorem limbs (a b ah al bh bl low mid other : Int) (ha : 0 ≤ a) (hb : 0 ≤ b) (ha1 : a ≤ 18446744073709551615) (hb1 : b ≤ 18446744073709551615)
    (e1 : ah = a / 4294967296) (e2 : al = a % 4294967296) (e3 : bh = b / 4294967296) (e4 : bl = b % 4294967296)
    (e5 : low = al * bl) (e6 : mid = ah * bl + low / 4294967296) (e7 : other = al * bh + mid % 4294967296) :
    (0 ≤ low ∧ low ≤ 18446744073709551615) ∧ (0 ≤ mid ∧ mid ≤ 18446744073709551615) ∧ (0 ≤ other ∧ other ≤ 18446744073709551615) ∧
    ah * bh + mid / 4294967296 + other / 4294967296 = a * b / 18446744073709551616 ∧
    other * 4294967296 % 18446744073709551616 + low % 4294967296 = a * b % 18446744073709551616 := by
  have A1 : 0 ≤ ah ∧ ah ≤ 4294967295 := by omega
  have A2 : 0 ≤ al ∧ al ≤ 4294967295 := by omega
  have B1 : 0 ≤ bh ∧ bh ≤ 4294967295 := by omega
  have B2 : 0 ≤ bl ∧ bl ≤ 4294967295 := by omega
  have bd : ∀ x y : Int, 0 ≤ x ∧ x ≤ 4294967295 → 0 ≤ y ∧ y ≤ 4294967295 → 0 ≤ x * y ∧ x * y ≤ 18446744065119617025 := by
    intro x y hx hy
    refine ⟨Int.mul_nonneg hx.1 hy.1, ?_⟩
    calc x * y ≤ 4294967295 * y := Int.mul_le_mul_of_nonneg_right hx.2 hy.1
      _ ≤ _ := by omega
  have c1 := bd al bl A2 B2
  have c2 := bd ah bl A1 B2
  have c3 := bd al bh A2 B1
  have c4 := bd ah bh A1 B1
  have hab : a * b = ah * bh * 18446744073709551616 + (ah * bl + al * bh) * 4294967296 + al * bl := by
    have ea : a = ah * 4294967296 + al := by omega
    have eb : b = bh * 4294967296 + bl := by omega
    rw [ea, eb]; grind
  rw [hab]
  clear e1 e2 e3 e4 bd hab
  generalize ah * bl = P at *
  generalize al * bh = Q at *
  generalize ah * bh = T at *
  generalize al * bl = S at *
  subst e5 e6 e7
  refine ⟨by omega, by omega, by omega, by omega, by omega⟩

/-- One bit more. -/
theorem bit_step (N q d r hi lo : Int) (p : Int) (hd : 0 < d) (hd1 : d < 9223372036854775808) (r0 : 0 ≤ r) (r1 : r < d) (h0 : 0 ≤ hi) (h1 : hi ≤ 18446744073709551615) (l0 : 0 ≤ lo) (l1 : lo ≤ 18446744073709551615)
    (hN : (q * d + r) * 340282366920938463463374607431768211456 + (hi * 18446744073709551616 + lo) = N * p) :
    let hi' := 2 * hi % 18446744073709551616 + lo / 9223372036854775808
    let lo' := 2 * lo % 18446744073709551616
    let r' := 2 * r + hi / 9223372036854775808
    (0 ≤ r' ∧ r' ≤ 18446744073709551615) ∧ (0 ≤ hi' ∧ hi' ≤ 18446744073709551615) ∧ (0 ≤ lo' ∧ lo' ≤ 18446744073709551615) ∧
    (d ≤ r' → (0 ≤ r' - d ∧ r' - d < d) ∧ ((2 * q + 1) * d + (r' - d)) * 340282366920938463463374607431768211456 + (hi' * 18446744073709551616 + lo') = N * (2 * p)) ∧
    (r' < d → (2 * q * d + r') * 340282366920938463463374607431768211456 + (hi' * 18446744073709551616 + lo') = N * (2 * p)) := by
  intro hi' lo' r'
  have e0 : N * (2 * p) = 2 * (N * p) := by grind
  have e1 : (2 * q + 1) * d = 2 * (q * d) + d := by grind
  have e2 : 2 * q * d = 2 * (q * d) := by grind
  rw [e0, e1, e2, ← hN]
  generalize q * d = Q at *
  clear hN e0 e1 e2
  refine ⟨by omega, by omega, by omega, fun h => ⟨by omega, by omega⟩, fun h => by omega⟩
end Go.Proofs.YtjjhdbodjcffaaaDoor.Dv
