/-
  Plain facts: what is encoded is read back, and what is read is what is encoded. No walk is here.
-/
import Derived.Test.YtbaodpfiilmpjaaFiP
namespace Go.Proofs.Ytbaodpfiilmpjaa
set_option linter.unusedVariables false

theorem encI_small (n : Int) (h0 : 0 ≤ n) (h1 : n < 64) : encI n = [UInt8.ofNat (2 * n).toNat] := by
  unfold encI
  have : zig n = (2 * n).toNat := by unfold zig; rw [if_neg (by omega)]
  rw [this, encN_lo _ (by omega)]
theorem encI_ne (n : Int) : encI n ≠ [] := by
  unfold encI
  intro e
  have := encN_pos (zig n)
  rw [e] at this
  exact absurd this (by simp)
theorem readD_encD (d r : List UInt8) (h : d.length ≤ 1000000) : readD (encD d ++ r) = .ok (d, r) := by
  unfold readD encD
  rw [List.append_assoc, readI_encI (d.length : Int) (by omega) (by omega)]
  dsimp only
  rw [if_neg (by omega), if_neg (by rw [List.length_append]; omega), Int.toNat_natCast, List.take_left' rfl, List.drop_left' rfl]
theorem readD_back (l d r : List UInt8) (h : readD l = .ok (d, r)) : l = encD d ++ r := by
  unfold readD at h
  rcases hi : readI l with k | ⟨n, s⟩
  · rw [hi] at h; cases h
  · rw [hi] at h
    dsimp only at h
    obtain ⟨_, _, e⟩ := readI_back l n s hi
    split at h
    · cases h
    · split at h
      · cases h
      · rename_i h1 h2
        injection h with h
        injection h with h3 h4
        obtain ⟨N, rfl⟩ := Int.eq_ofNat_of_zero_le (show 0 ≤ n by omega)
        rw [Int.toNat_natCast] at h3 h4
        have hl : d.length = N := by rw [← h3, List.length_take]; omega
        unfold encD
        rw [hl, e, ← h3, ← h4, List.append_assoc, List.take_append_drop]
theorem takR_enc (fs : List Fd) : ∀ (acc : List Fd) (p : Int), chkF p fs = 0 → 0 ≤ p → acc.length + fs.length ≤ 256 → (∀ f ∈ fs, f.2.length ≤ 1000000) → takR acc p (encF fs) = .ok (acc ++ fs) := by
  induction fs with
  | nil => intro acc p _ _ _ _; show takR acc p [] = _; rw [takR_nil, List.append_nil]
  | cons f fs ih =>
    intro acc p h hp hl hd
    obtain ⟨x, d⟩ := f
    have e : encF ((x, d) :: fs) = encI x ++ (encD d ++ encF fs) := by
      show (encI x ++ encD d) ++ encF fs = _
      rw [List.append_assoc]
    rw [chkF] at h
    split at h
    · omega
    · rename_i hv
      split at h
      · omega
      · rename_i hx
        have hv2 := Decidable.not_not.1 hv
        dsimp only at hv2 hx h
        have hd1 := hd (x, d) (by simp)
        simp only [List.length_cons] at hl
        rw [e, takR_step acc p _ x (encD d ++ encF fs) d (encF fs) (by intro z; exact encI_ne x (List.append_eq_nil_iff.1 z).1) (by omega) (readI_encI x (by omega) (by omega) _) (by intro z; rcases z with z | z; exact z hv2; exact hx z) (readD_encD d _ hd1),
          ih (acc ++ [(x, d)]) x h (by omega) (by rw [List.length_append]; simp; omega) (fun f hf => hd f (by simp [hf])), List.append_assoc]
        rfl
theorem takR_back (n : Nat) : ∀ (l : List UInt8), l.length ≤ n → ∀ (acc : List Fd) (p : Int) (fs : List Fd), acc.length ≤ 256 → takR acc p l = .ok fs → ∃ gs, fs = acc ++ gs ∧ l = encF gs ∧ chkF p gs = 0 ∧ fs.length ≤ 256 := by
  induction n with
  | zero =>
    intro l hl acc p fs ha h
    obtain rfl : l = [] := List.length_eq_zero_iff.1 (by omega)
    rw [takR_nil] at h
    injection h with h
    exact ⟨[], by rw [List.append_nil]; exact h.symm, rfl, rfl, by rw [← h]; exact ha⟩
  | succ n ih =>
    intro l hl acc p fs ha h
    by_cases h0 : l = []
    · subst h0
      rw [takR_nil] at h
      injection h with h
      exact ⟨[], by rw [List.append_nil]; exact h.symm, rfl, rfl, by rw [← h]; exact ha⟩
    · by_cases hf : acc.length = 256
      · rw [takR_full acc p l h0 hf] at h; cases h
      · rcases hi : readI l with k | ⟨x, r⟩
        · rw [takR_int acc p l k h0 hf hi] at h; cases h
        · by_cases ht : ¬ (1 ≤ x ∧ x ≤ 1000) ∨ x ≤ p
          · rw [takR_tag acc p l x r h0 hf hi ht] at h; cases h
          · rcases hd : readD r with k | ⟨d, r2⟩
            · rw [takR_data acc p l x r k h0 hf hi ht hd] at h; cases h
            · rw [takR_step acc p l x r d r2 h0 hf hi ht hd] at h
              have h1 := readI_len l x r hi
              have h2 := readD_len r d r2 hd
              obtain ⟨gs, e1, e2, e3, e4⟩ := ih r2 (by omega) (acc ++ [(x, d)]) x fs (by rw [List.length_append]; simp; omega) h
              obtain ⟨_, _, e5⟩ := readI_back l x r hi
              have e6 := readD_back r d r2 hd
              have hv : 1 ≤ x ∧ x ≤ 1000 := Decidable.not_not.1 (fun z => ht (Or.inl z))
              have hx : ¬ x ≤ p := fun z => ht (Or.inr z)
              refine ⟨(x, d) :: gs, by rw [e1, List.append_assoc]; rfl, ?_, ?_, e4⟩
              · rw [e5, e6, e2]
                show _ = (encI x ++ encD d) ++ encF gs
                rw [List.append_assoc]
              · rw [chkF, if_neg (fun z => z hv), if_neg hx]; exact e3
theorem lstN_enc (ls : List (List UInt8)) : ∀ (acc : List (List UInt8)) (r : List UInt8), (∀ d ∈ ls, d.length ≤ 1000000) → lstN ls.length acc (encM ls ++ r) = .ok (acc ++ ls, r) := by
  induction ls with
  | nil => intro acc r _; show Except.ok (acc, r) = _; rw [List.append_nil]
  | cons d ls ih =>
    intro acc r h
    have e : encM (d :: ls) ++ r = encD d ++ (encM ls ++ r) := by show (encD d ++ encM ls) ++ r = _; rw [List.append_assoc]
    rw [List.length_cons, e, lstN_ok _ _ _ d _ (readD_encD d _ (h d (by simp))), ih _ _ (fun x hx => h x (by simp [hx])), List.append_assoc]
    rfl
theorem lstR_enc (ls : List (List UInt8)) (h : ls.length ≤ 256) (hd : ∀ d ∈ ls, d.length ≤ 1000000) : lstR (encL ls) = .ok ls := by
  have e : lstA (encL ls) = .ok (ls, []) := by
    unfold lstA
    rw [encL_is, readI_encI (ls.length : Int) (by omega) (by omega)]
    dsimp only
    have := lstN_enc ls [] [] hd
    rw [List.append_nil, List.nil_append] at this
    rw [if_neg (by omega), if_neg (by omega), Int.toNat_natCast, this]
  unfold lstR
  rw [e]
  rfl
theorem lstN_back (n : Nat) : ∀ (acc : List (List UInt8)) (l : List UInt8) (ls : List (List UInt8)) (r : List UInt8), lstN n acc l = .ok (ls, r) → ∃ ms, ls = acc ++ ms ∧ ms.length = n ∧ l = encM ms ++ r := by
  induction n with
  | zero => intro acc l ls r h; injection h with h; injection h with h1 h2; exact ⟨[], by rw [List.append_nil]; exact h1.symm, rfl, h2⟩
  | succ n ih =>
    intro acc l ls r h
    rcases hd : readD l with k | ⟨d, s⟩
    · rw [lstN_err n acc l k hd] at h; cases h
    · rw [lstN_ok n acc l d s hd] at h
      obtain ⟨ms, e1, e2, e3⟩ := ih _ _ _ _ h
      refine ⟨d :: ms, by rw [e1, List.append_assoc]; rfl, by rw [List.length_cons, e2], ?_⟩
      rw [readD_back l d s hd, e3]
      show _ = (encD d ++ encM ms) ++ r
      rw [List.append_assoc]
theorem lstR_back (l : List UInt8) (ls : List (List UInt8)) (h : lstR l = .ok ls) : ls.length ≤ 256 ∧ l = encL ls := by
  unfold lstR at h
  rcases hA : lstA l with k | ⟨ms, r⟩
  · rw [hA] at h; cases h
  · rw [hA] at h
    dsimp only at h
    split at h
    · rename_i hr
      subst hr
      injection h with h
      subst h
      unfold lstA at hA
      rcases hi : readI l with k | ⟨n, s⟩
      · rw [hi] at hA; cases hA
      · rw [hi] at hA
        dsimp only at hA
        split at hA
        · cases hA
        · split at hA
          · cases hA
          · obtain ⟨N, rfl⟩ := Int.eq_ofNat_of_zero_le (show 0 ≤ n by omega)
            rw [Int.toNat_natCast] at hA
            obtain ⟨ns, e1, e2, e3⟩ := lstN_back N [] s ms [] hA
            obtain ⟨_, _, e4⟩ := readI_back l _ s hi
            rw [List.nil_append] at e1
            subst e1
            rw [List.append_nil] at e3
            exact ⟨by omega, by rw [e4, e3, encL_is, e2]⟩
    · cases h
theorem intR_enc (n : Int) (h1 : -9223372036854775808 ≤ n) (h2 : n < 9223372036854775808) : intR (encI n) = (n, 0) := by
  have := readI_encI n h1 h2 []
  rw [List.append_nil] at this
  unfold intR
  rw [this]
  rfl
theorem intR_back (l : List UInt8) (n : Int) (h : intR l = (n, 0)) : -9223372036854775808 ≤ n ∧ n < 9223372036854775808 ∧ l = encI n := by
  unfold intR at h
  rcases hi : readI l with k | ⟨m, r⟩
  · rw [hi] at h
    dsimp only at h
    injection h with _ h
    rcases readI_err l k hi with e | e <;> omega
  · rw [hi] at h
    dsimp only at h
    split at h
    · rename_i hr
      subst hr
      injection h with h _
      subst h
      have := readI_back l m [] hi
      rw [List.append_nil] at this
      exact this
    · injection h with _ h
      omega
theorem intR_in (l : List UInt8) : -9223372036854775808 ≤ (intR l).1 ∧ (intR l).1 < 9223372036854775808 := by
  unfold intR
  rcases hi : readI l with k | ⟨m, r⟩
  · dsimp only; omega
  · dsimp only
    split
    · have := readI_back l m r hi; exact ⟨this.1, this.2.1⟩
    · dsimp only; omega
theorem readD_err (l : List UInt8) (k : Int) (h : readD l = .error k) : k = 5 ∨ k = 6 := by
  unfold readD at h
  rcases hi : readI l with k2 | ⟨n, s⟩
  · rw [hi] at h; injection h with h; subst h; exact readI_err l _ hi
  · rw [hi] at h
    dsimp only at h
    split at h
    · injection h with h; exact Or.inl h.symm
    · split at h
      · injection h with h; exact Or.inr h.symm
      · cases h
theorem takR_err (n : Nat) : ∀ (l : List UInt8), l.length ≤ n → ∀ (acc : List Fd) (p : Int) (k : Int), takR acc p l = .error k → k ≠ 0 := by
  induction n with
  | zero =>
    intro l hl acc p k h
    obtain rfl : l = [] := List.length_eq_zero_iff.1 (by omega)
    rw [takR_nil] at h; cases h
  | succ n ih =>
    intro l hl acc p k h
    by_cases h0 : l = []
    · subst h0; rw [takR_nil] at h; cases h
    · by_cases hf : acc.length = 256
      · rw [takR_full acc p l h0 hf] at h; injection h with h; omega
      · rcases hi : readI l with k2 | ⟨x, r⟩
        · rw [takR_int acc p l k2 h0 hf hi] at h; injection h with h; have := readI_err l k2 hi; omega
        · by_cases ht : ¬ (1 ≤ x ∧ x ≤ 1000) ∨ x ≤ p
          · rw [takR_tag acc p l x r h0 hf hi ht] at h; injection h with h; omega
          · rcases hd : readD r with k2 | ⟨d, r2⟩
            · rw [takR_data acc p l x r k2 h0 hf hi ht hd] at h; injection h with h; have := readD_err r k2 hd; omega
            · rw [takR_step acc p l x r d r2 h0 hf hi ht hd] at h
              have h1 := readI_len l x r hi
              have h2 := readD_len r d r2 hd
              exact ih r2 (by omega) _ _ k h
theorem lstN_er (n : Nat) : ∀ (acc : List (List UInt8)) (l : List UInt8) (k : Int), lstN n acc l = .error k → k ≠ 0 := by
  induction n with
  | zero => intro acc l k h; cases h
  | succ n ih =>
    intro acc l k h
    rcases hd : readD l with k2 | ⟨d, s⟩
    · rw [lstN_err n acc l k2 hd] at h; injection h with h; have := readD_err l k2 hd; omega
    · rw [lstN_ok n acc l d s hd] at h; exact ih _ _ _ h
theorem lstR_err (l : List UInt8) (k : Int) (h : lstR l = .error k) : k ≠ 0 := by
  unfold lstR at h
  rcases hA : lstA l with k2 | ⟨ms, r⟩
  · rw [hA] at h
    injection h with h
    subst h
    unfold lstA at hA
    rcases hi : readI l with k3 | ⟨n, s⟩
    · rw [hi] at hA; injection hA with hA; have := readI_err l k3 hi; omega
    · rw [hi] at hA
      dsimp only at hA
      split at hA
      · injection hA with hA; omega
      · split at hA
        · injection hA with hA; omega
        · exact lstN_er _ _ _ _ hA
  · rw [hA] at h
    dsimp only at h
    split at h
    · cases h
    · injection h with h; omega
end Go.Proofs.Ytbaodpfiilmpjaa
