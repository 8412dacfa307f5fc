/-
  Plain facts on identifiers: what a character is worth, what a check character is. No program is named here.
-/
namespace Go.Proofs.YtkimniggdnlliaaDoor.Plain

/-- The value of a character, or -1. -/
def val (c : Nat) : Int :=
  if 48 ≤ c ∧ c ≤ 57 then (c : Int) - 48 else if 65 ≤ c ∧ c ≤ 90 then (c : Int) - 55 else if 97 ≤ c ∧ c ≤ 122 then (c : Int) - 87 else -1
theorem val_bd (c : Nat) : -1 ≤ val c ∧ val c ≤ 35 := by unfold val; split <;> (try split) <;> (try split) <;> omega
theorem val_high (c : Nat) (h : 128 ≤ c) : val c = -1 := by unfold val; rw [if_neg (by omega), if_neg (by omega), if_neg (by omega)]

/-- A letter as a capital. -/
def capN (c : Nat) : Nat := if 97 ≤ c ∧ c ≤ 122 then c - 32 else c
theorem capN_lt (c : Nat) (h : c < 256) : capN c < 256 := by unfold capN; split <;> omega
def cap (c : UInt8) : UInt8 := UInt8.ofNat (capN c.toNat)
theorem cap_toNat (c : UInt8) : (cap c).toNat = capN c.toNat := by
  unfold cap; rw [UInt8.toNat_ofNat']; exact Nat.mod_eq_of_lt (capN_lt _ c.toNat_lt)
theorem val_capN (c : Nat) : val (capN c) = val c := by
  unfold val capN; split <;> split <;> (try split) <;> (try split) <;> (try split) <;> (try split) <;> omega
theorem capN_capN (c : Nat) : capN (capN c) = capN c := by unfold capN; split <;> (try split) <;> omega

/-- May the character stand in an identifier. -/
def perm (c : Nat) : Bool := decide (c = 45 ∨ c = 95 ∨ c = 46 ∨ c = 58 ∨ c = 42 ∨ 0 ≤ val c)
def atLeast (low : Int) (c : Nat) : Bool := decide (low ≤ val c)

def allOk (f : Nat → Bool) (l : List UInt8) : Bool := l.all fun c => f c.toNat

def validL (l : List UInt8) : Bool := decide (1 ≤ l.length) && (decide (l.length ≤ 36) && allOk perm l)

/-- One step of the sum. -/
def turn (p v : Int) : Int := 2 * (if (p + v) % 36 = 0 then 36 else (p + v) % 36) % 37
def fold1 (x : Int × Int) (c : UInt8) : Int × Int := if val c.toNat < 0 then x else (turn x.1 (val c.toNat), x.2 + 1)
def sumL (l : List UInt8) : Int × Int := l.foldl fold1 (36, 0)

theorem turn_bd (p v : Int) : 1 ≤ turn p v ∧ turn p v ≤ 36 := by unfold turn; split <;> omega

theorem foldl_bd : ∀ (l : List UInt8) (x : Int × Int), 1 ≤ x.1 → x.1 ≤ 36 → 0 ≤ x.2 →
    1 ≤ (l.foldl fold1 x).1 ∧ (l.foldl fold1 x).1 ≤ 36 ∧ 0 ≤ (l.foldl fold1 x).2 ∧ (l.foldl fold1 x).2 ≤ x.2 + l.length
  | [], x, h1, h2, h3 => ⟨h1, h2, h3, by simp⟩
  | c :: l, x, h1, h2, h3 => by
    have ht := turn_bd x.1 (val c.toNat)
    have hx : 1 ≤ (fold1 x c).1 ∧ (fold1 x c).1 ≤ 36 ∧ 0 ≤ (fold1 x c).2 ∧ (fold1 x c).2 ≤ x.2 + 1 := by
      unfold fold1; split
      · exact ⟨h1, h2, h3, by omega⟩
      · exact ⟨ht.1, ht.2, by show 0 ≤ x.2 + 1; omega, Int.le_refl _⟩
    have ih := foldl_bd l (fold1 x c) hx.1 hx.2.1 hx.2.2.1
    rw [List.foldl_cons, List.length_cons]
    refine ⟨ih.1, ih.2.1, ih.2.2.1, ?_⟩
    have := ih.2.2.2; omega
theorem sumL_bd (l : List UInt8) : 1 ≤ (sumL l).1 ∧ (sumL l).1 ≤ 36 ∧ 0 ≤ (sumL l).2 ∧ (sumL l).2 ≤ l.length := by
  have := foldl_bd l (36, 0) (by decide) (by decide) (by decide)
  unfold sumL
  refine ⟨this.1, this.2.1, this.2.2.1, ?_⟩
  have h := this.2.2.2; simp at h ⊢; omega
theorem sumL_snoc (l : List UInt8) (c : UInt8) : sumL (l ++ [c]) = fold1 (sumL l) c := by unfold sumL; rw [List.foldl_append]; rfl

/-- The digit or capital letter of a value. -/
def letterN (v : Nat) : Nat := if v < 10 then v + 48 else v + 55
def checkN (p : Int) : Nat := ((37 - p) % 36).toNat
theorem checkN_lt (p : Int) : checkN p < 36 := by unfold checkN; omega
theorem letterN_lt (v : Nat) (h : v < 36) : letterN v < 128 := by unfold letterN; split <;> omega
theorem val_letterN (v : Nat) (h : v < 36) : val (letterN v) = v := by
  unfold val letterN; split <;> split <;> (try split) <;> (try split) <;> omega
theorem capN_letterN (v : Nat) (h : v < 36) : capN (letterN v) = letterN v := by unfold capN letterN; split <;> split <;> omega
def letter (v : Nat) : UInt8 := UInt8.ofNat (letterN v)
theorem letter_toNat (v : Nat) (h : v < 36) : (letter v).toNat = letterN v := by
  unfold letter; rw [UInt8.toNat_ofNat']; exact Nat.mod_eq_of_lt (by have := letterN_lt v h; omega)
/-- The character with a value is one only. -/
theorem val_letter (c v : Nat) (h : v < 36) (e : letterN v = capN c) : val c = v := by
  rw [← val_capN c, ← e, val_letterN v h]
theorem letter_val (c : Nat) (v : Nat) (h : val c = v) : letterN v = capN c := by
  unfold val at h; unfold letterN capN
  split at h
  · rw [if_pos (by omega), if_neg (by omega)]; omega
  · split at h
    · rw [if_neg (by omega), if_neg (by omega)]; omega
    · split at h
      · rw [if_neg (by omega), if_pos (by omega)]; omega
      · omega

def goodL (l : List UInt8) : Bool := validL l && decide (0 < (sumL l).2)
def checkL (l : List UInt8) : Nat := if goodL l then letterN (checkN (sumL l).1) else 0
def checkE (l : List UInt8) : Int := if goodL l then 0 else 4

/-- The check character's value is the only one that fits. -/
theorem checkN_eq (p c : Int) (h1 : 1 ≤ p) (h2 : p ≤ 36) (h3 : 0 ≤ c) (h4 : c < 36) : (p + c) % 36 = 1 ↔ c = checkN p := by
  unfold checkN; omega

def capsL (l : List UInt8) : List UInt8 := l.map cap
def partsOk (a b i : List UInt8) : Bool := (decide (a.length = 2) && allOk (atLeast 10) a) && ((decide (b.length = 3) && allOk (atLeast 0) b) && (decide (i.length = 9) && allOk (atLeast 0) i))
def bodyL (a b i : List UInt8) : List UInt8 := capsL (a ++ ([45] ++ (b ++ ([45] ++ i))))
def wholeL (a b i : List UInt8) : List UInt8 := bodyL a b i ++ ([45] ++ [UInt8.ofNat (checkL (bodyL a b i))])

/-! A string by its places. -/
theorem allOk_true (f : Nat → Bool) (s : ByteArray) (h : ∀ j (hj : j < s.size), f (s[j]'hj).toNat = true) : allOk f s.data.toList = true := by
  unfold allOk
  rw [List.all_eq_true]
  intro c hc
  obtain ⟨j, hj, rfl⟩ := List.mem_iff_getElem.1 hc
  exact h j (by simpa using hj)
theorem allOk_false (f : Nat → Bool) (s : ByteArray) (j : Nat) (hj : j < s.size) (h : f (s[j]'hj).toNat = false) : allOk f s.data.toList = false := by
  unfold allOk
  rw [List.all_eq_false]
  exact ⟨s[j]'hj, by simp [ByteArray.getElem_eq_getElem_data], by simp [h]⟩
theorem size_list (s : ByteArray) : s.data.toList.length = s.size := by simp
theorem take_snoc (s : ByteArray) (k : Nat) (h : k < s.size) : s.data.toList.take (k + 1) = s.data.toList.take k ++ [s[k]] := by
  rw [List.take_succ_eq_append_getElem (by simpa using h)]; rfl
end Go.Proofs.YtkimniggdnlliaaDoor.Plain
