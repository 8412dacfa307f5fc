/-
  Plain facts on sorting: what slices.SortStableFunc's pieces (an insertion sort of blocks, a merge by rotations) make of an array. No program is named here.
-/
import Derived.Sort.LotA
namespace Go.Proofs.YtjjhdbodjcffaaaDoor.Sym
open Go.Sort
variable {α : Type} [Inhabited α]
variable {lt : α → α → Bool}

theorem swp_at (d : Array α) (i j k : Nat) (hi : i < d.size) (hj : j < d.size) : (swp d i j)[k]! = if k = i then d[j]! else if k = j then d[i]! else d[k]! := by
  by_cases h1 : k = i
  · subst h1
    rw [if_pos rfl]
    by_cases h2 : k = j
    · subst h2; rw [swp_right _ _ _ hj]
    · exact swp_left _ _ _ hi h2
  · rw [if_neg h1]
    by_cases h2 : k = j
    · subst h2; rw [if_pos rfl]; exact swp_right _ _ _ hj
    · rw [if_neg h2]; exact swp_other _ _ _ _ h1 h2

/-! The place a moves up by n. -/
def upTo (d : Array α) (a : Nat) : Nat → Array α
  | 0 => d
  | n + 1 => swp (upTo d a n) (a + n) (a + n + 1)
theorem upTo_size (d : Array α) (a : Nat) : ∀ n, (upTo d a n).size = d.size
  | 0 => rfl
  | n + 1 => by unfold upTo; rw [size_swp]; exact upTo_size d a n
theorem upTo_at (d : Array α) (a : Nat) : ∀ n, a + n < d.size → ∀ j, (upTo d a n)[j]! = if a ≤ j ∧ j < a + n then d[j + 1]! else if j = a + n then d[a]! else d[j]!
  | 0, h, j => by
    show d[j]! = _
    rw [if_neg (by omega)]
    by_cases e : j = a + 0
    · rw [if_pos e, e]; rfl
    · rw [if_neg e]
  | n + 1, h, j => by
    have ih := upTo_at d a n (by omega)
    have hs := upTo_size d a n
    show (swp (upTo d a n) (a + n) (a + n + 1))[j]! = _
    rw [swp_at _ _ _ _ (by omega) (by omega)]
    by_cases e1 : j = a + n
    · rw [if_pos e1, ih, if_neg (by omega), if_neg (by omega), if_pos (by omega), e1]
    · rw [if_neg e1]
      by_cases e2 : j = a + n + 1
      · rw [if_pos e2, ih, if_neg (by omega), if_pos rfl, if_neg (by omega), if_pos (by omega)]
      · rw [if_neg e2, ih]
        by_cases e3 : a ≤ j ∧ j < a + n
        · rw [if_pos e3, if_pos (by omega)]
        · rw [if_neg e3, if_neg e1, if_neg (by omega), if_neg (by omega)]
theorem upTo_perm (d : Array α) (a a0 b0 : Nat) (h0 : a0 ≤ a) (hb : b0 ≤ d.size) : ∀ n, a + n < b0 → PermIn a0 b0 d (upTo d a n)
  | 0, _ => permIn_refl _ _ _
  | n + 1, h => permIn_trans _ _ _ _ _ (upTo_perm d a a0 b0 h0 hb n (by omega)) (swp_permIn _ _ _ _ _ (by omega) (by omega) (by omega) (by omega) (by rw [upTo_size]; exact hb))

/-! The place m moves down by n. -/
def downTo (d : Array α) (m : Nat) : Nat → Array α
  | 0 => d
  | n + 1 => swp (downTo d m n) (m - n) (m - n - 1)
theorem downTo_size (d : Array α) (m : Nat) : ∀ n, (downTo d m n).size = d.size
  | 0 => rfl
  | n + 1 => by unfold downTo; rw [size_swp]; exact downTo_size d m n
theorem downTo_at (d : Array α) (m : Nat) (hm : m < d.size) : ∀ n, n ≤ m → ∀ j, (downTo d m n)[j]! = if m - n < j ∧ j ≤ m then d[j - 1]! else if j = m - n then d[m]! else d[j]!
  | 0, h, j => by
    show d[j]! = _
    rw [if_neg (by omega)]
    by_cases e : j = m - 0
    · rw [if_pos e, e]; rfl
    · rw [if_neg e]
  | n + 1, h, j => by
    have ih := downTo_at d m hm n (by omega)
    have hs := downTo_size d m n
    show (swp (downTo d m n) (m - n) (m - n - 1))[j]! = _
    rw [swp_at _ _ _ _ (by omega) (by omega)]
    by_cases e1 : j = m - n
    · rw [if_pos e1, ih, if_neg (by omega), if_neg (by omega), if_pos (by omega), e1]
    · rw [if_neg e1]
      by_cases e2 : j = m - n - 1
      · rw [if_pos e2, ih, if_neg (by omega), if_pos rfl, if_neg (by omega), if_pos (by omega)]
      · rw [if_neg e2, ih]
        by_cases e3 : m - n < j ∧ j ≤ m
        · rw [if_pos e3, if_pos (by omega)]
        · rw [if_neg e3, if_neg e1, if_neg (by omega), if_neg (by omega)]
theorem downTo_perm (d : Array α) (m a0 b0 : Nat) (hb : b0 ≤ d.size) (hm : m < b0) : ∀ n, a0 + n ≤ m → PermIn a0 b0 d (downTo d m n)
  | 0, _ => permIn_refl _ _ _
  | n + 1, h => permIn_trans _ _ _ _ _ (downTo_perm d m a0 b0 hb hm n (by omega)) (swp_permIn _ _ _ _ _ (by omega) (by omega) (by omega) (by omega) (by rw [downTo_size]; exact hb))

/-! Two ranges change their places. -/
def swRange (d : Array α) (a b : Nat) : Nat → Array α
  | 0 => d
  | n + 1 => swp (swRange d a b n) (a + n) (b + n)
theorem swRange_size (d : Array α) (a b : Nat) : ∀ n, (swRange d a b n).size = d.size
  | 0 => rfl
  | n + 1 => by unfold swRange; rw [size_swp]; exact swRange_size d a b n
theorem swRange_at (d : Array α) (a b : Nat) : ∀ n, a + n ≤ b → b + n ≤ d.size → ∀ j, (swRange d a b n)[j]! = if a ≤ j ∧ j < a + n then d[j + (b - a)]! else if b ≤ j ∧ j < b + n then d[j - (b - a)]! else d[j]!
  | 0, _, _, j => by
    show d[j]! = _
    rw [if_neg (by omega), if_neg (by omega)]
  | n + 1, h1, h2, j => by
    have ih := swRange_at d a b n (by omega) (by omega)
    have hs := swRange_size d a b n
    show (swp (swRange d a b n) (a + n) (b + n))[j]! = _
    rw [swp_at _ _ _ _ (by omega) (by omega)]
    by_cases e1 : j = a + n
    · rw [if_pos e1, ih, if_neg (by omega), if_neg (by omega), if_pos (by omega), e1]
      congr 1; omega
    · rw [if_neg e1]
      by_cases e2 : j = b + n
      · rw [if_pos e2, ih, if_neg (by omega), if_neg (by omega), if_neg (by omega), if_pos (by omega), e2]
        congr 1; omega
      · rw [if_neg e2, ih]
        by_cases e3 : a ≤ j ∧ j < a + n
        · rw [if_pos e3, if_pos (by omega)]
        · rw [if_neg e3, if_neg (show ¬ (a ≤ j ∧ j < a + (n + 1)) by omega)]
          by_cases e4 : b ≤ j ∧ j < b + n
          · rw [if_pos e4, if_pos (by omega)]
          · rw [if_neg e4, if_neg (by omega)]
theorem swRange_perm (d : Array α) (a b a0 b0 : Nat) (h0 : a0 ≤ a) (hb : b0 ≤ d.size) (hab : a ≤ b) : ∀ n, b + n ≤ b0 → PermIn a0 b0 d (swRange d a b n)
  | 0, _ => permIn_refl _ _ _
  | n + 1, h => permIn_trans _ _ _ _ _ (swRange_perm d a b a0 b0 h0 hb hab n (by omega)) (swp_permIn _ _ _ _ _ (by omega) (by omega) (by omega) (by omega) (by rw [swRange_size]; exact hb))

/-! Two neighbouring blocks, of lengths i and j around m, change their places. -/
def rotF (d : Array α) (m i j : Nat) : Array α :=
  if _h0 : i = 0 ∨ j = 0 then d else
  if _h : i = j then swRange d (m - i) m i else
  if _h1 : j < i then rotF (swRange d (m - i) m j) m (i - j) j else rotF (swRange d (m - i) (m + j - i) i) m i (j - i)
termination_by i + j
decreasing_by all_goals omega
theorem rotF_eq (d : Array α) (m i : Nat) (h : 0 < i) : rotF d m i i = swRange d (m - i) m i := by
  rw [rotF, dif_neg (by omega), dif_pos rfl]
theorem rotF_gt (d : Array α) (m i j : Nat) (h : 0 < j) (h1 : j < i) : rotF d m i j = rotF (swRange d (m - i) m j) m (i - j) j := by
  rw [rotF, dif_neg (by omega), dif_neg (by omega), dif_pos h1]
theorem rotF_lt (d : Array α) (m i j : Nat) (h : 0 < i) (h1 : i < j) : rotF d m i j = rotF (swRange d (m - i) (m + j - i) i) m i (j - i) := by
  rw [rotF, dif_neg (by omega), dif_neg (by omega), dif_neg (by omega)]
theorem rotF_spec (m : Nat) : ∀ (s : Nat) (d : Array α) (i j : Nat), i + j ≤ s → 0 < i → 0 < j → i ≤ m → m + j ≤ d.size →
    (rotF d m i j).size = d.size ∧ PermIn (m - i) (m + j) d (rotF d m i j) ∧
    (∀ k, k < j → (rotF d m i j)[m - i + k]! = d[m + k]!) ∧ (∀ k, k < i → (rotF d m i j)[m - i + j + k]! = d[m - i + k]!)
  | 0, d, i, j, h, hi, hj, _, _ => by omega
  | s + 1, d, i, j, h, hi, hj, him, hjm => by
    by_cases e : i = j
    · subst e
      rw [rotF_eq _ _ _ hi]
      refine ⟨swRange_size _ _ _ _, swRange_perm _ _ _ _ _ (Nat.le_refl _) (by omega) (by omega) _ (by omega), fun k hk => ?_, fun k hk => ?_⟩
      · rw [swRange_at _ _ _ _ (by omega) (by omega), if_pos (by omega)]; congr 1; omega
      · rw [swRange_at _ _ _ _ (by omega) (by omega), if_neg (by omega), if_pos (by omega)]; congr 1; omega
    · by_cases hg : j < i
      · rw [rotF_gt _ _ _ _ hj hg]
        have hsz := swRange_size d (m - i) m j
        have hat := swRange_at d (m - i) m j (by omega) (by omega)
        obtain ⟨z, p, f1, f2⟩ := rotF_spec m s (swRange d (m - i) m j) (i - j) j (by omega) (by omega) hj (by omega) (by omega)
        have P1 := swRange_perm d (m - i) m (m - i) (m + j) (Nat.le_refl _) (by omega) (by omega) j (by omega)
        have P2 := permIn_mono _ _ _ _ (m - i) (m + j) (by omega) (Nat.le_refl _) (by omega) p
        refine ⟨by omega, permIn_trans _ _ _ _ _ P1 P2, fun k hk => ?_, fun k hk => ?_⟩
        · have hout := p.2.1 (m - i + k) (by omega)
          rw [hout, hat, if_pos (by omega)]; congr 1; omega
        · by_cases hk2 : k < i - j
          · have := f1 k
            by_cases hk3 : k < j
            · have h3 := f1 k hk3
              rw [show m - i + j + k = m - (i - j) + k by omega, h3, hat, if_neg (by omega), if_pos (by omega)]; congr 1; omega
            · have h3 := f2 (k - j) (by omega)
              rw [show m - i + j + k = m - (i - j) + j + (k - j) by omega, h3, hat, if_neg (by omega), if_neg (by omega)]; congr 1; omega
          · by_cases hk3 : k < j
            · have h3 := f1 k hk3
              rw [show m - i + j + k = m - (i - j) + k by omega, h3, hat, if_neg (by omega), if_pos (by omega)]; congr 1; omega
            · have h3 := f2 (k - j) (by omega)
              rw [show m - i + j + k = m - (i - j) + j + (k - j) by omega, h3, hat, if_neg (by omega)]
              rw [if_neg (by omega)]; congr 1; omega
      · rw [rotF_lt _ _ _ _ hi (by omega)]
        have hsz := swRange_size d (m - i) (m + j - i) i
        have hat := swRange_at d (m - i) (m + j - i) i (by omega) (by omega)
        obtain ⟨z, p, f1, f2⟩ := rotF_spec m s (swRange d (m - i) (m + j - i) i) i (j - i) (by omega) hi (by omega) him (by omega)
        have P1 := swRange_perm d (m - i) (m + j - i) (m - i) (m + j) (Nat.le_refl _) (by omega) (by omega) i (by omega)
        have P2 := permIn_mono _ _ _ _ (m - i) (m + j) (Nat.le_refl _) (by omega) (by omega) p
        refine ⟨by omega, permIn_trans _ _ _ _ _ P1 P2, fun k hk => ?_, fun k hk => ?_⟩
        · by_cases hk2 : k < j - i
          · rw [f1 k hk2, hat]
            by_cases hk3 : m + k < m + j - i
            · rw [if_neg (by omega), if_neg (by omega)]
            · omega
          · have h3 := f2 (k - (j - i)) (by omega)
            rw [show m - i + k = m - i + (j - i) + (k - (j - i)) by omega, h3, hat, if_pos (by omega)]; congr 1; omega
        · have hout := p.2.1 (m - i + j + k) (by omega)
          rw [hout, hat, if_neg (by omega), if_pos (by omega)]; congr 1; omega
end Go.Proofs.YtjjhdbodjcffaaaDoor.Sym
namespace Go.Proofs.YtjjhdbodjcffaaaDoor.Sym
open Go.Sort
variable {α : Type} [Inhabited α]
variable {lt lt0 : α → α → Bool}

/-! A search by halves. -/
structure Sp (P : Nat → Bool) (lo hi s r : Nat) : Prop where
  h1 : lo ≤ s
  h2 : s ≤ r
  h3 : r ≤ hi
  yes : ∀ c, lo ≤ c → c < s → P c = true
  no : ∀ c, r ≤ c → c < hi → P c = false
def Mono (P : Nat → Bool) (lo hi : Nat) : Prop := ∀ c c', lo ≤ c → c ≤ c' → c' < hi → P c' = true → P c = true
theorem Sp.start (P : Nat → Bool) (lo hi : Nat) (h : lo ≤ hi) : Sp P lo hi lo hi := ⟨Nat.le_refl _, h, Nat.le_refl _, fun c h1 h2 => by omega, fun c h1 h2 => by omega⟩
theorem Sp.up {P : Nat → Bool} {lo hi s r : Nat} (h : Sp P lo hi s r) (m : Mono P lo hi) (c : Nat) (hs : s ≤ c) (hr : c < r) (hP : P c = true) : Sp P lo hi (c + 1) r :=
  ⟨by have := h.h1; omega, by omega, h.h3, fun c' h1 h2 => m c' c h1 (by omega) (by have := h.h3; omega) hP, h.no⟩
theorem Sp.down {P : Nat → Bool} {lo hi s r : Nat} (h : Sp P lo hi s r) (m : Mono P lo hi) (c : Nat) (hs : s ≤ c) (hr : c < r) (hP : P c = false) : Sp P lo hi s c :=
  ⟨h.h1, by omega, by have := h.h3; omega, h.yes, fun c' h1 h2 => by
    cases e : P c' with
    | false => rfl
    | true => have := m c c' (by have := h.h1; omega) h1 h2 e; rw [hP] at this; cases this⟩

/-- Two sorted neighbours, and a comparison that is right between them. -/
structure Mg (lt lt0 : α → α → Bool) (d : Array α) (a m b : Nat) : Prop where
  am : a < m
  mb : m < b
  bs : b ≤ d.size
  sl : SortedIn lt a m d
  sr : SortedIn lt m b d
  ag : ∀ i j, a ≤ i → i < m → m ≤ j → j < b → lt0 d[j]! d[i]! = lt d[j]! d[i]!
/-- Sorted, and the same elements. -/
def Done (lt : α → α → Bool) (d : Array α) (a b : Nat) (d' : Array α) : Prop := PermIn a b d d' ∧ SortedIn lt a b d'

omit [Inhabited α] in
theorem SWO.asy (h : SWO lt) {x y : α} (hxy : lt x y = true) : lt y x = false := by
  cases e : lt y x with
  | false => rfl
  | true => have := h.trans _ _ _ hxy e; rw [h.irrefl] at this; cases this

/-! One on the left. -/
def P1 (lt0 : α → α → Bool) (d : Array α) (a : Nat) (h : Nat) : Bool := lt0 d[h]! d[a]!
theorem mono1 (hS : SWO lt) {d : Array α} {a m b : Nat} (g : Mg lt lt0 d a m b) : Mono (P1 lt0 d a) m b := by
  intro c c' h1 h2 h3 hP
  unfold P1 at hP ⊢
  have := g.am
  rw [g.ag a c' (Nat.le_refl _) (by omega) (by omega) h3] at hP
  rw [g.ag a c (Nat.le_refl _) (by omega) h1 (by omega)]
  cases e : lt d[c]! d[a]! with
  | true => rfl
  | false =>
    by_cases hc : c = c'
    · subst hc; rw [hP] at e; cases e
    · have h4 := g.sr c c' h1 (by omega) h3
      have := hS.ntrans _ _ _ h4 e
      rw [hP] at this; cases this
theorem done1 (hS : SWO lt) {d : Array α} {a b i : Nat} (g : Mg lt lt0 d a (a + 1) b) (h : Sp (P1 lt0 d a) (a + 1) b i i) : Done lt d a b (upTo d a (i - 1 - a)) := by
  obtain ⟨s1, s2, s3, yes, no⟩ := h
  have hbs := g.bs
  have hat := upTo_at d a (i - 1 - a) (by omega)
  refine ⟨upTo_perm d a a b (Nat.le_refl _) g.bs _ (by omega), ?_⟩
  intro p q hp hpq hq
  rw [hat, hat]
  by_cases c1 : q < a + (i - 1 - a)
  · rw [if_pos (by omega), if_pos (by omega)]
    exact g.sr _ _ (by omega) (by omega) (by omega)
  · by_cases c2 : q = a + (i - 1 - a)
    · rw [if_neg (by omega), if_pos c2, if_pos (by omega)]
      have := yes (p + 1) (by omega) (by omega)
      unfold P1 at this
      rw [g.ag a (p + 1) (Nat.le_refl _) (by omega) (by omega) (by omega)] at this
      exact SWO.asy hS this
    · rw [if_neg (by omega), if_neg c2]
      by_cases c3 : p < a + (i - 1 - a)
      · rw [if_pos (by omega)]
        exact g.sr _ _ (by omega) (by omega) (by omega)
      · by_cases c4 : p = a + (i - 1 - a)
        · rw [if_neg (by omega), if_pos c4]
          have := no q (by omega) hq
          unfold P1 at this
          rw [g.ag a q (Nat.le_refl _) (by omega) (by omega) (by omega)] at this
          exact this
        · rw [if_neg (by omega), if_neg c4]
          exact g.sr _ _ (by omega) hpq hq

/-! One on the right. -/
def P2 (lt0 : α → α → Bool) (d : Array α) (m : Nat) (h : Nat) : Bool := !lt0 d[m]! d[h]!
theorem mono2 (hS : SWO lt) {d : Array α} {a m b : Nat} (g : Mg lt lt0 d a m b) : Mono (P2 lt0 d m) a m := by
  intro c c' h1 h2 h3 hP
  unfold P2 at hP ⊢
  have := g.mb
  rw [g.ag c' m (by omega) h3 (Nat.le_refl _) g.mb] at hP
  rw [g.ag c m h1 (by omega) (Nat.le_refl _) g.mb]
  simp only [Bool.not_eq_true'] at hP ⊢
  by_cases hc : c = c'
  · subst hc; exact hP
  · exact hS.ntrans _ _ _ hP (g.sl c c' h1 (by omega) h3)
theorem done2 (hS : SWO lt) {d : Array α} {a m i : Nat} (g : Mg lt lt0 d a m (m + 1)) (h : Sp (P2 lt0 d m) a m i i) : Done lt d a (m + 1) (downTo d m (m - i)) := by
  obtain ⟨s1, s2, s3, yes, no⟩ := h
  have hbs := g.bs
  have hat := downTo_at d m (by omega) (m - i) (by omega)
  refine ⟨downTo_perm d m a (m + 1) g.bs (by omega) _ (by omega), ?_⟩
  intro p q hp hpq hq
  rw [hat, hat]
  by_cases c1 : i < p
  · rw [if_pos (by omega), if_pos (by omega)]
    exact g.sl _ _ (by omega) (by omega) (by omega)
  · by_cases c2 : p = i
    · rw [if_pos (by omega), if_neg (by omega), if_pos (by omega)]
      have := no (q - 1) (by omega) (by omega)
      unfold P2 at this
      rw [g.ag (q - 1) m (by omega) (by omega) (Nat.le_refl _) g.mb] at this
      simp only [Bool.not_eq_false'] at this
      exact SWO.asy hS this
    · rw [if_neg (show ¬ (m - (m - i) < p ∧ p ≤ m) by omega), if_neg (show ¬ p = m - (m - i) by omega)]
      by_cases c3 : i < q
      · rw [if_pos (by omega)]
        by_cases c5 : p = q - 1
        · omega
        · exact g.sl _ _ (by omega) (by omega) (by omega)
      · by_cases c4 : q = i
        · rw [if_neg (by omega), if_pos (by omega)]
          have := yes p (by omega) (by omega)
          unfold P2 at this
          rw [g.ag p m (by omega) (by omega) (Nat.le_refl _) g.mb] at this
          simpa using this
        · rw [if_neg (by omega), if_neg (by omega)]
          exact g.sl _ _ (by omega) hpq (by omega)

/-! The halves. -/
def P3 (lt0 : α → α → Bool) (d : Array α) (p : Nat) (c : Nat) : Bool := !lt0 d[p - c]! d[c]!
structure Sl (a m b mid s0 r0 p : Nat) : Prop where
  hm : mid = (a + b) / 2
  hp : p + 1 = mid + m
  h0 : s0 = if mid < m then mid + m - b else a
  hr : r0 = if mid < m then mid else m
theorem Sl.in {a m b mid s0 r0 p : Nat} (h : Sl a m b mid s0 r0 p) (am : a < m) (mb : m < b) : s0 ≤ r0 ∧ a ≤ s0 ∧ r0 ≤ m ∧ r0 ≤ mid ∧ a ≤ mid ∧ mid < b ∧ ∀ c, s0 ≤ c → c < r0 → m ≤ p - c ∧ p - c < b := by
  obtain ⟨h1, h2, h3, h4⟩ := h
  by_cases e : mid < m
  · rw [if_pos e] at h3 h4
    refine ⟨by omega, by omega, by omega, by omega, by omega, by omega, fun c _ _ => ⟨by omega, by omega⟩⟩
  · rw [if_neg e] at h3 h4
    refine ⟨by omega, by omega, by omega, by omega, by omega, by omega, fun c _ _ => ⟨by omega, by omega⟩⟩
theorem mono3 (hS : SWO lt) {d : Array α} {a m b mid s0 r0 p : Nat} (g : Mg lt lt0 d a m b) (k : Sl a m b mid s0 r0 p) : Mono (P3 lt0 d p) s0 r0 := by
  intro c c' h1 h2 h3 hP
  obtain ⟨k1, k2, k3, k4, k5, k6, k7⟩ := k.in g.am g.mb
  obtain ⟨x1, x2⟩ := k7 c h1 (by omega)
  obtain ⟨y1, y2⟩ := k7 c' (by omega) h3
  unfold P3 at hP ⊢
  rw [g.ag c' (p - c') (by omega) (by omega) y1 y2] at hP
  rw [g.ag c (p - c) (by omega) (by omega) x1 x2]
  simp only [Bool.not_eq_true'] at hP ⊢
  by_cases hc : c = c'
  · subst hc; exact hP
  · have e1 := g.sl c c' (by omega) (by omega) (by omega)
    have e2 := g.sr (p - c') (p - c) y1 (by omega) x2
    exact hS.ntrans _ _ _ (hS.ntrans _ _ _ e2 hP) e1

/-- Behind the rotation. -/
def turned (d : Array α) (m s e : Nat) : Array α := if s < m ∧ m < e then rotF d m (m - s) (e - m) else d
theorem turned_spec (d : Array α) (m s e : Nat) (h1 : s ≤ m) (h2 : m ≤ e) (h3 : e ≤ d.size) :
    (turned d m s e).size = d.size ∧ PermIn s e d (turned d m s e) ∧ (∀ k, k < e - m → (turned d m s e)[s + k]! = d[m + k]!) ∧ (∀ k, k < m - s → (turned d m s e)[s + (e - m) + k]! = d[s + k]!) := by
  unfold turned
  by_cases c : s < m ∧ m < e
  · rw [if_pos c]
    have := rotF_spec m (m - s + (e - m)) d (m - s) (e - m) (Nat.le_refl _) (by omega) (by omega) (by omega) (by omega)
    rw [show m - (m - s) = s by omega, show m + (e - m) = e by omega] at this
    exact this
  · rw [if_neg c]
    refine ⟨rfl, permIn_refl _ _ _, fun k hk => ?_, fun k hk => ?_⟩
    · rw [show s = m by omega]
    · rw [show e = m by omega]; congr 1; omega

/-- What the search has found, and what lies behind the rotation. -/
structure Half (lt lt0 : α → α → Bool) (d d1 : Array α) (a b s e mid : Nat) : Prop where
  perm : PermIn a b d d1
  size : d1.size = d.size
  as : a ≤ s
  sm : s ≤ mid
  me : mid ≤ e
  eb : e ≤ b
  left : a < s → s < mid → Mg lt lt0 d1 a s mid
  leftN : ¬ (a < s ∧ s < mid) → SortedIn lt a mid d1
  right : mid < e → e < b → Mg lt lt0 d1 mid e b
  rightN : ¬ (mid < e ∧ e < b) → SortedIn lt mid b d1
  cross : ∀ i j, a ≤ i → i < mid → mid ≤ j → j < b → lt d1[j]! d1[i]! = false
theorem half (hS : SWO lt) {d : Array α} {a m b mid s0 r0 p s : Nat} (g : Mg lt lt0 d a m b) (k : Sl a m b mid s0 r0 p) (h : Sp (P3 lt0 d p) s0 r0 s s) :
    Half lt lt0 d (turned d m s (mid + m - s)) a b s (mid + m - s) mid := by
  obtain ⟨k1, k2, k3, k4, k5, k6, k7⟩ := k.in g.am g.mb
  have kp := k.hp
  have ks0 := k.h0
  have kr0 := k.hr
  have am := g.am
  have mb := g.mb
  have bs := g.bs
  obtain ⟨s1, s2, s3, yes, no⟩ := h
  have eb : mid + m - s ≤ b := by
    by_cases e : mid < m
    · rw [if_pos e] at ks0; omega
    · rw [if_neg e] at ks0; have := k.hm; omega
  obtain ⟨t1, t2, t3, t4⟩ := turned_spec d m s (mid + m - s) (by omega) (by omega) (by omega)
  -- the four parts
  have q1 : ∀ i, i < s → (turned d m s (mid + m - s))[i]! = d[i]! := fun i hi => t2.2.1 i (.inl hi)
  have q2 : ∀ i, s ≤ i → i < mid → (turned d m s (mid + m - s))[i]! = d[m + (i - s)]! := fun i h1 h2 => by
    have := t3 (i - s) (by omega); rw [show s + (i - s) = i by omega] at this; exact this
  have q3 : ∀ i, mid ≤ i → i < mid + m - s → (turned d m s (mid + m - s))[i]! = d[s + (i - mid)]! := fun i h1 h2 => by
    have := t4 (i - mid) (by omega); rw [show s + (mid + m - s - m) + (i - mid) = i by omega] at this; exact this
  have q4 : ∀ i, mid + m - s ≤ i → (turned d m s (mid + m - s))[i]! = d[i]! := fun i hi => t2.2.1 i (.inr hi)
  generalize turned d m s (mid + m - s) = d1 at *
  -- between the old parts
  have x1 : ∀ i j, a ≤ i → i < s → mid + m - s ≤ j → j < b → lt d[j]! d[i]! = false := fun i j h1 h2 h3 h4 => by
    have hs : s0 < s := by
      by_cases hs : s0 < s
      · exact hs
      · by_cases e : mid < m
        · rw [if_pos e] at ks0; omega
        · rw [if_neg e] at ks0; omega
    have hy := yes (s - 1) (by omega) (by omega)
    unfold P3 at hy
    obtain ⟨y1, y2⟩ := k7 (s - 1) (by omega) (by omega)
    rw [g.ag (s - 1) (p - (s - 1)) (by omega) (by omega) y1 y2] at hy
    simp only [Bool.not_eq_true'] at hy
    have e1 : lt d[s - 1]! d[i]! = false := by
      by_cases e : i = s - 1
      · rw [e]; exact hS.irrefl _
      · exact g.sl _ _ h1 (by omega) (by omega)
    have e2 : lt d[j]! d[p - (s - 1)]! = false := by
      by_cases e : j = p - (s - 1)
      · rw [e]; exact hS.irrefl _
      · exact g.sr _ _ y1 (by omega) h4
    exact hS.ntrans _ _ _ (hS.ntrans _ _ _ e2 hy) e1
  have x2 : ∀ i j, m ≤ i → i < mid + m - s → s ≤ j → j < m → lt d[j]! d[i]! = false := fun i j h1 h2 h3 h4 => by
    have hs : s < r0 := by
      by_cases hs : s < r0
      · exact hs
      · by_cases e : mid < m
        · rw [if_pos e] at kr0; omega
        · rw [if_neg e] at kr0; omega
    have hn := no s (Nat.le_refl _) hs
    unfold P3 at hn
    obtain ⟨y1, y2⟩ := k7 s (by omega) hs
    rw [g.ag s (p - s) (by omega) (by omega) y1 y2] at hn
    simp only [Bool.not_eq_false'] at hn
    have e0 := SWO.asy hS hn
    have e1 : lt d[j]! d[s]! = false := by
      by_cases e : j = s
      · rw [e]; exact hS.irrefl _
      · exact g.sl _ _ (by omega) (by omega) h4
    have e2 : lt d[p - s]! d[i]! = false := by
      by_cases e : i = p - s
      · rw [e]; exact hS.irrefl _
      · exact g.sr _ _ h1 (by omega) y2
    exact hS.ntrans _ _ _ (hS.ntrans _ _ _ e1 e0) e2
  have sl1 : SortedIn lt a s d1 := fun i j h1 h2 h3 => by rw [q1 i (by omega), q1 j (by omega)]; exact g.sl i j h1 h2 (by omega)
  have sl2 : SortedIn lt s mid d1 := fun i j h1 h2 h3 => by rw [q2 i (by omega) (by omega), q2 j (by omega) (by omega)]; exact g.sr _ _ (by omega) (by omega) (by omega)
  have sr1 : SortedIn lt mid (mid + m - s) d1 := fun i j h1 h2 h3 => by rw [q3 i (by omega) (by omega), q3 j (by omega) (by omega)]; exact g.sl _ _ (by omega) (by omega) (by omega)
  have sr2 : SortedIn lt (mid + m - s) b d1 := fun i j h1 h2 h3 => by rw [q4 i (by omega), q4 j (by omega)]; exact g.sr _ _ (by omega) (by omega) (by omega)
  refine ⟨permIn_mono _ _ _ _ a b (by omega) eb bs t2, t1, by omega, by omega, by omega, eb, fun h1 h2 => ?_, fun h => ?_, fun h1 h2 => ?_, fun h => ?_, ?_⟩
  · refine ⟨h1, h2, by omega, sl1, sl2, fun i j i1 i2 j1 j2 => ?_⟩
    rw [q1 i i2, q2 j j1 j2]; exact g.ag _ _ i1 (by omega) (by omega) (by omega)
  · by_cases e : s = a
    · rw [e] at sl2; exact sl2
    · rw [show mid = s by omega]; exact sl1
  · refine ⟨h1, h2, by omega, sr1, sr2, fun i j i1 i2 j1 j2 => ?_⟩
    rw [q3 i i1 i2, q4 j j1]; exact g.ag _ _ (by omega) (by omega) (by omega) j2
  · by_cases e : mid + m - s = mid
    · rw [e] at sr2; exact sr2
    · rw [show b = mid + m - s by omega]; exact sr1
  · intro i j i1 i2 j1 j2
    by_cases c1 : i < s
    · rw [q1 i c1]
      by_cases c2 : j < mid + m - s
      · rw [q3 j j1 c2]
        by_cases c3 : s + (j - mid) = i
        · omega
        · exact g.sl _ _ i1 (by omega) (by omega)
      · rw [q4 j (by omega)]; exact x1 _ _ i1 c1 (by omega) j2
    · rw [q2 i (by omega) i2]
      by_cases c2 : j < mid + m - s
      · rw [q3 j j1 c2]; exact x2 _ _ (by omega) (by omega) (by omega) (by omega)
      · rw [q4 j (by omega)]; exact g.sr _ _ (by omega) (by omega) j2

/-- Both halves are sorted: so is the whole. -/
theorem Half.done {d d1 d2 d3 : Array α} {a b s e mid : Nat} (h : Half lt lt0 d d1 a b s e mid) (hb : b ≤ d.size)
    (h2 : (a < s ∧ s < mid ∧ Done lt d1 a mid d2) ∨ (¬ (a < s ∧ s < mid) ∧ d2 = d1)) (h3 : (mid < e ∧ e < b ∧ Done lt d2 mid b d3) ∨ (¬ (mid < e ∧ e < b) ∧ d3 = d2)) : Done lt d a b d3 := by
  have hsz := h.size
  have hsm := h.sm
  have has := h.as
  have hme := h.me
  have heb := h.eb
  have D2 : Done lt d1 a mid d2 := by
    rcases h2 with ⟨_, _, x⟩ | ⟨x, rfl⟩
    · exact x
    · exact ⟨permIn_refl _ _ _, h.leftN x⟩
  have hz2 : d2.size = d1.size := D2.1.1
  have D3 : Done lt d2 mid b d3 := by
    rcases h3 with ⟨_, _, x⟩ | ⟨x, rfl⟩
    · exact x
    · refine ⟨permIn_refl _ _ _, fun i j h1 h2 h3 => ?_⟩
      rw [D2.1.2.1 i (.inr h1), D2.1.2.1 j (.inr (by omega))]
      exact h.rightN x i j h1 h2 h3
  have p2 : PermIn a b d1 d2 := permIn_mono _ _ _ _ a b (Nat.le_refl _) (by omega) (by omega) D2.1
  have p3 : PermIn a b d2 d3 := permIn_mono _ _ _ _ a b (by omega) (Nat.le_refl _) (by omega) D3.1
  refine ⟨permIn_trans _ _ _ _ _ h.perm (permIn_trans _ _ _ _ _ p2 p3), ?_⟩
  have low : ∀ i, i < mid → d3[i]! = d2[i]! := fun i hi => D3.1.2.1 i (.inl hi)
  -- nothing right is less than something left
  have c2 : ∀ j, mid ≤ j → j < b → ∀ i, a ≤ i → i < mid → lt d2[j]! d2[i]! = false := fun j j1 j2 => by
    rw [D2.1.2.1 j (.inr j1)]
    exact permIn_all d1 d2 a mid (fun x => lt d1[j]! x = false) (by omega) D2.1 (fun i i1 i2 => h.cross i j i1 i2 j1 j2)
  have c3 : ∀ i, a ≤ i → i < mid → ∀ j, mid ≤ j → j < b → lt d3[j]! d3[i]! = false := fun i i1 i2 => by
    rw [low i i2]
    exact permIn_all d2 d3 mid b (fun x => lt x d2[i]! = false) (by omega) D3.1 (fun j j1 j2 => c2 j j1 j2 i i1 i2)
  intro i j i1 hij j2
  by_cases hj : j < mid
  · rw [low i (by omega), low j hj]; exact D2.2 i j i1 hij hj
  · by_cases hi : i < mid
    · exact c3 i i1 hi j (by omega) j2
    · exact D3.2 i j (by omega) hij j2
end Go.Proofs.YtjjhdbodjcffaaaDoor.Sym
namespace Go.Proofs.YtjjhdbodjcffaaaDoor.Sym
open Go.Sort
variable {α : Type} [Inhabited α]
variable {lt lt0 : α → α → Bool} {v : α → Nat}

/-! The insertion sort of places that ascend needs no second test. -/
theorem insInner_same (a : Nat) (x : α) : ∀ (j : Nat) (d : Array α), a ≤ j → j < d.size → d[j]! = x → (∀ k, a ≤ k → k < j → lt0 x d[k]! = lt x d[k]!) → insInner lt0 a j d = insInner lt a j d
  | 0, d, _, _, _, _ => rfl
  | j + 1, d, ha, hj, hx, h => by
    unfold insInner
    by_cases c : j + 1 > a
    · rw [hx, h j (by omega) (by omega)]
      by_cases e : lt x d[j]! = true
      · rw [e]
        simp only [c, decide_true, Bool.true_and, if_true]
        refine insInner_same a x j (swp d (j + 1) j) (by omega) (by rw [size_swp]; omega) ?_ (fun k h1 h2 => ?_)
        · rw [swp_right _ _ _ (by omega), hx]
        · rw [swp_other _ _ _ _ (by omega) (by omega)]; exact h k h1 (by omega)
      · rw [show lt x d[j]! = false by simpa using e]
        simp
    · simp [c]
theorem insInner_perm (a : Nat) (lt : α → α → Bool) : ∀ (j : Nat) (d : Array α), a ≤ j → j < d.size → PermIn a (j + 1) d (insInner lt a j d)
  | 0, d, _, _ => permIn_refl _ _ _
  | j + 1, d, ha, hj => by
    unfold insInner
    by_cases c : (decide (j + 1 > a) && lt d[j + 1]! d[j]!) = true
    · rw [if_pos c]
      have c1 : j + 1 > a := by simp at c; omega
      have p1 := swp_permIn d a (j + 1 + 1) (j + 1) j (by omega) (by omega) (by omega) (by omega) (by omega)
      have p2 := insInner_perm a lt j (swp d (j + 1) j) (by omega) (by rw [size_swp]; omega)
      exact permIn_trans _ _ _ _ _ p1 (permIn_mono _ _ _ _ a (j + 1 + 1) (Nat.le_refl _) (by omega) (by rw [size_swp]; omega) p2)
    · rw [if_neg c]; exact permIn_refl _ _ _
theorem go_outer (lt : α → α → Bool) (a b i : Nat) (d : Array α) (h : i < b) : insOuter lt a b i d = insOuter lt a b (i + 1) (insInner lt a i d) := by
  conv => lhs; rw [insOuter, if_pos h]
theorem stop_outer (lt : α → α → Bool) (a b i : Nat) (d : Array α) (h : ¬ i < b) : insOuter lt a b i d = d := by
  rw [insOuter, if_neg h]
theorem insOuter_same (a b : Nat) (hv : ∀ x y, v y < v x → lt0 x y = lt x y) : ∀ (k i : Nat) (d : Array α), b - i ≤ k → a ≤ i → b ≤ d.size → (∀ p, i ≤ p → p < b → v d[p]! = p) → (∀ p, a ≤ p → p < i → v d[p]! < i) → insOuter lt0 a b i d = insOuter lt a b i d
  | 0, i, d, hk, _, _, _, _ => by
    rw [stop_outer _ _ _ _ _ (by omega), stop_outer _ _ _ _ _ (by omega)]
  | k + 1, i, d, hk, ha, hb, h1, h2 => by
    by_cases c : i < b
    · rw [go_outer _ _ _ _ _ c, go_outer _ _ _ _ _ c]
      have e := insInner_same (lt := lt) (lt0 := lt0) a d[i]! i d ha (by omega) rfl (fun p p1 p2 => hv _ _ (by rw [h1 i (Nat.le_refl _) c]; exact h2 p p1 p2))
      rw [e]
      have P := insInner_perm a lt i d ha (by omega)
      refine insOuter_same a b hv k (i + 1) _ (by omega) (by omega) (by rw [P.1]; exact hb) (fun p p1 p2 => ?_) ?_
      · rw [P.2.1 p (.inr p1)]; exact h1 p (by omega) p2
      · refine permIn_all d _ a (i + 1) (fun x => v x < i + 1) (by omega) P (fun p p1 p2 => ?_)
        by_cases e2 : p = i
        · subst e2; rw [h1 p (Nat.le_refl _) c]; omega
        · have := h2 p p1 (by omega); omega
    · rw [stop_outer _ _ _ _ _ c, stop_outer _ _ _ _ _ c]
theorem insertion_same (a b : Nat) (d : Array α) (hv : ∀ x y, v y < v x → lt0 x y = lt x y) (hb : b ≤ d.size) (h1 : ∀ p, a ≤ p → p < b → v d[p]! = p) : insertionSort lt0 d a b = insertionSort lt d a b := by
  unfold insertionSort
  by_cases c : a < b
  · exact insOuter_same a b hv b (a + 1) d (by omega) (by omega) hb (fun p p1 p2 => h1 p (by omega) p2) (fun p p1 p2 => by rw [h1 p p1 (by omega)]; exact p2)
  · rw [stop_outer _ _ _ _ _ (by omega), stop_outer _ _ _ _ _ (by omega)]

/-! Sorted blocks. -/
def Bk (lt : α → α → Bool) (v : α → Nat) (B lo hi : Nat) (d : Array α) : Prop :=
  ∀ s, lo ≤ s → s < hi → s % B = 0 → SortedIn lt s (min (s + B) hi) d ∧ ∀ p, s ≤ p → p < min (s + B) hi → s ≤ v d[p]! ∧ v d[p]! < s + B

theorem SortedIn.same {a b : Nat} {d d' : Array α} (h : SortedIn lt a b d) (he : ∀ p, a ≤ p → p < b → d'[p]! = d[p]!) : SortedIn lt a b d' := fun i j h1 h2 h3 => by
  rw [he i h1 (by omega), he j (by omega) h3]; exact h i j h1 h2 h3

/-- One block more of the first length. -/
theorem Bk.add {B a b : Nat} {d d' : Array α} (hB : 0 < B) (h : Bk lt v B 0 a d) (ha : a % B = 0) (hab : a ≤ b) (hbB : b ≤ a + B) (hb : b ≤ d.size) (hD : Done lt d a b d') (hv : ∀ p, a ≤ p → p < b → v d[p]! = p) : Bk lt v B 0 b d' := by
  intro s h1 h2 h3
  by_cases c : s < a
  · obtain ⟨x1, x2⟩ := h s h1 c h3
    have hsa : s + B ≤ a := by
      obtain ⟨x, rfl⟩ : ∃ x, s = B * x := ⟨s / B, by have := Nat.div_add_mod s B; omega⟩
      obtain ⟨y, rfl⟩ : ∃ y, a = B * y := ⟨a / B, by have := Nat.div_add_mod a B; omega⟩
      have hxy : x < y := Nat.lt_of_mul_lt_mul_left c
      calc B * x + B = B * (x + 1) := by rw [Nat.mul_add, Nat.mul_one]
        _ ≤ B * y := Nat.mul_le_mul_left _ hxy
    have e1 : min (s + B) a = s + B := by omega
    have e2 : min (s + B) b = s + B := by omega
    rw [e1] at x1 x2
    rw [e2]
    refine ⟨SortedIn.same x1 (fun p _ p2 => hD.1.2.1 p (.inl (by omega))), fun p p1 p2 => ?_⟩
    rw [hD.1.2.1 p (.inl (by omega))]; exact x2 p p1 p2
  · have hs : s = a := by
      obtain ⟨x, rfl⟩ : ∃ x, s = B * x := ⟨s / B, by have := Nat.div_add_mod s B; omega⟩
      obtain ⟨y, rfl⟩ : ∃ y, a = B * y := ⟨a / B, by have := Nat.div_add_mod a B; omega⟩
      have : B * x < B * (y + 1) := by rw [Nat.mul_add, Nat.mul_one]; omega
      have h4 : x < y + 1 := Nat.lt_of_mul_lt_mul_left this
      have h5 : ¬ x < y := fun h => c (Nat.mul_lt_mul_of_pos_left h hB)
      rw [show x = y by omega]
    subst hs
    have e : min (s + B) b = b := by omega
    rw [e]
    refine ⟨hD.2, permIn_all d d' s b (fun x => s ≤ v x ∧ v x < s + B) hb hD.1 (fun p p1 p2 => ?_)⟩
    rw [hv p p1 p2]; omega

/-- What two blocks are to the merge. -/
theorem Bk.merge {B a b n : Nat} {d : Array α} (hB : 0 < B) (h : Bk lt v B a n d) (ha : a % B = 0) (hab : a + B < b) (hbB : b ≤ a + 2 * B) (hbn : b ≤ n) (hbn2 : b = a + 2 * B ∨ b = n) (hn : n ≤ d.size) (hv : ∀ x y, v y < v x → lt0 x y = lt x y) : Mg lt lt0 d a (a + B) b := by
  obtain ⟨x1, x2⟩ := h a (Nat.le_refl _) (by omega) ha
  obtain ⟨y1, y2⟩ := h (a + B) (by omega) (by omega) (by rw [Nat.add_mod_right]; exact ha)
  rw [show min (a + B) n = a + B by omega] at x1 x2
  rw [show min (a + B + B) n = b by omega] at y1 y2
  exact ⟨by omega, hab, by omega, x1, y1, fun i j i1 i2 j1 j2 => hv _ _ (by have := (x2 i i1 i2).2; have := (y2 j j1 j2).1; omega)⟩
/-- Two blocks are one of double length. -/
theorem Bk.join {B a b n : Nat} {d d' : Array α} (hB : 0 < B) (h0 : Bk lt v (2 * B) 0 a d) (h : Bk lt v B a n d) (ha : a % (2 * B) = 0) (hab : a + B < b) (hbB : b ≤ a + 2 * B) (hbn : b ≤ n) (hbn2 : b = a + 2 * B ∨ b = n) (hn : n ≤ d.size) (hD : Done lt d a b d') :
    Bk lt v (2 * B) 0 b d' ∧ Bk lt v B b n d' := by
  have haB : a % B = 0 := by
    obtain ⟨x, rfl⟩ : ∃ x, a = 2 * B * x := ⟨a / (2 * B), by have := Nat.div_add_mod a (2 * B); omega⟩
    rw [show 2 * B * x = B * (2 * x) by rw [Nat.mul_comm 2 B, Nat.mul_assoc], Nat.mul_mod_right]
  obtain ⟨x1, x2⟩ := h a (Nat.le_refl _) (by omega) haB
  obtain ⟨y1, y2⟩ := h (a + B) (by omega) (by omega) (by rw [Nat.add_mod_right]; exact haB)
  rw [show min (a + B) n = a + B by omega] at x1 x2
  rw [show min (a + B + B) n = b by omega] at y1 y2
  constructor
  · intro s h1 h2 h3
    by_cases c : s < a
    · obtain ⟨z1, z2⟩ := h0 s h1 c h3
      have hsa : s + 2 * B ≤ a := by
        obtain ⟨x, rfl⟩ : ∃ x, s = 2 * B * x := ⟨s / (2 * B), by have := Nat.div_add_mod s (2 * B); omega⟩
        obtain ⟨y, rfl⟩ : ∃ y, a = 2 * B * y := ⟨a / (2 * B), by have := Nat.div_add_mod a (2 * B); omega⟩
        have hxy : x < y := Nat.lt_of_mul_lt_mul_left c
        calc 2 * B * x + 2 * B = 2 * B * (x + 1) := by rw [Nat.mul_add, Nat.mul_one]
          _ ≤ 2 * B * y := Nat.mul_le_mul_left _ hxy
      rw [show min (s + 2 * B) a = s + 2 * B by omega] at z1 z2
      rw [show min (s + 2 * B) b = s + 2 * B by omega]
      refine ⟨SortedIn.same z1 (fun p _ p2 => hD.1.2.1 p (.inl (by omega))), fun p p1 p2 => ?_⟩
      rw [hD.1.2.1 p (.inl (by omega))]; exact z2 p p1 p2
    · have hs : s = a := by
        obtain ⟨x, rfl⟩ : ∃ x, s = 2 * B * x := ⟨s / (2 * B), by have := Nat.div_add_mod s (2 * B); omega⟩
        obtain ⟨y, rfl⟩ : ∃ y, a = 2 * B * y := ⟨a / (2 * B), by have := Nat.div_add_mod a (2 * B); omega⟩
        have : 2 * B * x < 2 * B * (y + 1) := by rw [Nat.mul_add, Nat.mul_one]; omega
        have h4 : x < y + 1 := Nat.lt_of_mul_lt_mul_left this
        have h5 : ¬ x < y := fun h => c (Nat.mul_lt_mul_of_pos_left h (by omega))
        rw [show x = y by omega]
      subst hs
      rw [show min (s + 2 * B) b = b by omega]
      refine ⟨hD.2, permIn_all d d' s b (fun x => s ≤ v x ∧ v x < s + 2 * B) (by omega) hD.1 (fun p p1 p2 => ?_)⟩
      by_cases e : p < s + B
      · have := x2 p p1 e; omega
      · have := y2 p (by omega) p2; omega
  · intro s h1 h2 h3
    obtain ⟨z1, z2⟩ := h s (by omega) h2 h3
    refine ⟨SortedIn.same z1 (fun p p1 _ => hD.1.2.1 p (.inr (by omega))), fun p p1 p2 => ?_⟩
    rw [hD.1.2.1 p (.inr (by omega))]; exact z2 p p1 p2
/-- A rest of at most one block needs nothing. -/
theorem Bk.rest {B a n : Nat} {d : Array α} (hB : 0 < B) (h0 : Bk lt v (2 * B) 0 a d) (h : Bk lt v B a n d) (ha : a % (2 * B) = 0) (hab : n ≤ a + B) (han : a ≤ n) : Bk lt v (2 * B) 0 n d := by
  have haB : a % B = 0 := by
    obtain ⟨x, rfl⟩ : ∃ x, a = 2 * B * x := ⟨a / (2 * B), by have := Nat.div_add_mod a (2 * B); omega⟩
    rw [show 2 * B * x = B * (2 * x) by rw [Nat.mul_comm 2 B, Nat.mul_assoc], Nat.mul_mod_right]
  intro s h1 h2 h3
  by_cases c : s < a
  · obtain ⟨z1, z2⟩ := h0 s h1 c h3
    have hsa : s + 2 * B ≤ a := by
      obtain ⟨x, rfl⟩ : ∃ x, s = 2 * B * x := ⟨s / (2 * B), by have := Nat.div_add_mod s (2 * B); omega⟩
      obtain ⟨y, rfl⟩ : ∃ y, a = 2 * B * y := ⟨a / (2 * B), by have := Nat.div_add_mod a (2 * B); omega⟩
      have hxy : x < y := Nat.lt_of_mul_lt_mul_left c
      calc 2 * B * x + 2 * B = 2 * B * (x + 1) := by rw [Nat.mul_add, Nat.mul_one]
        _ ≤ 2 * B * y := Nat.mul_le_mul_left _ hxy
    rw [show min (s + 2 * B) a = s + 2 * B by omega] at z1 z2
    rw [show min (s + 2 * B) n = s + 2 * B by omega]
    exact ⟨z1, z2⟩
  · have hs : s = a := by
      obtain ⟨x, rfl⟩ : ∃ x, s = 2 * B * x := ⟨s / (2 * B), by have := Nat.div_add_mod s (2 * B); omega⟩
      obtain ⟨y, rfl⟩ : ∃ y, a = 2 * B * y := ⟨a / (2 * B), by have := Nat.div_add_mod a (2 * B); omega⟩
      have : 2 * B * x < 2 * B * (y + 1) := by rw [Nat.mul_add, Nat.mul_one]; omega
      have h4 : x < y + 1 := Nat.lt_of_mul_lt_mul_left this
      have h5 : ¬ x < y := fun h => c (Nat.mul_lt_mul_of_pos_left h (by omega))
      rw [show x = y by omega]
    subst hs
    obtain ⟨z1, z2⟩ := h s (Nat.le_refl _) h2 haB
    rw [show min (s + B) n = n by omega] at z1 z2
    rw [show min (s + 2 * B) n = n by omega]
    exact ⟨z1, fun p p1 p2 => by have := z2 p p1 p2; omega⟩
/-- A block as long as all. -/
theorem Bk.all {B n : Nat} {d : Array α} (h : Bk lt v B 0 n d) (hn : n ≤ B) : SortedIn lt 0 n d := by
  by_cases c : 0 < n
  · have := (h 0 (Nat.le_refl _) c (Nat.zero_mod _)).1
    rw [show min (0 + B) n = n by omega] at this
    exact this
  · intro i j h1 h2 h3; omega
end Go.Proofs.YtjjhdbodjcffaaaDoor.Sym
