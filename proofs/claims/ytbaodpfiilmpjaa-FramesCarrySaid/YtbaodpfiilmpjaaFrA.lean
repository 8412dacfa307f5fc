/-
  Plain facts on the checksum: a register of 16 bits, and what a changed byte does to it. No program is named here.
-/
import Derived.Laws.BitsAllLaws
namespace Go.Proofs.Ytbaodpfiilmpjaa.F

/-- One step of the register. -/
def st (c : Nat) : Nat := if 32768 ≤ c then (2 * c - 65536) ^^^ 4129 else 2 * c
def stN (c : Nat) : Nat → Nat
  | 0 => c
  | k + 1 => st (stN c k)
/-- One byte. -/
def feedB (c : Nat) (b : UInt8) : Nat := stN (c ^^^ (b.toNat * 256)) 8
def crcF (l : List UInt8) (c : Nat) : Nat := l.foldl feedB c
def crc (l : List UInt8) : Nat := crcF l 65535
theorem st_lt (c : Nat) (h : c < 65536) : st c < 65536 := by
  unfold st
  split
  · exact Nat.xor_lt_two_pow (n := 16) (by omega) (by omega)
  · omega
theorem stN_lt (c k : Nat) (h : c < 65536) : stN c k < 65536 := by
  induction k with
  | zero => exact h
  | succ k ih => exact st_lt _ ih
theorem mix_lt (c : Nat) (b : UInt8) (h : c < 65536) : c ^^^ (b.toNat * 256) < 65536 := by
  have := b.toNat_lt
  exact Nat.xor_lt_two_pow (n := 16) (by omega) (by omega)
theorem feedB_lt (c : Nat) (b : UInt8) (h : c < 65536) : feedB c b < 65536 := stN_lt _ _ (mix_lt c b h)
theorem crcF_cons (l : List UInt8) (b : UInt8) (c : Nat) : crcF (b :: l) c = crcF l (feedB c b) := by unfold crcF; rw [List.foldl_cons]
theorem crcF_lt (l : List UInt8) : ∀ c, c < 65536 → crcF l c < 65536 := by
  induction l with
  | nil => intro c h; exact h
  | cons b l ih => intro c h; rw [crcF_cons]; exact ih _ (feedB_lt c b h)
theorem crc_lt (l : List UInt8) : crc l < 65536 := by unfold crc; exact crcF_lt l _ (by decide)
theorem crcF_snoc (l : List UInt8) (b : UInt8) (c : Nat) : crcF (l ++ [b]) c = feedB (crcF l c) b := by unfold crcF; rw [List.foldl_append, List.foldl_cons, List.foldl_nil]
theorem crcF_app (l m : List UInt8) (c : Nat) : crcF (l ++ m) c = crcF m (crcF l c) := by unfold crcF; rw [List.foldl_append]
theorem xor_back (a b c : Nat) (h : a ^^^ c = b ^^^ c) : a = b := by
  have := congrArg (· ^^^ c) h
  simpa [Nat.xor_assoc] using this
theorem st_inj (c d : Nat) (hc : c < 65536) (hd : d < 65536) (h : st c = st d) : c = d := by
  have low : ∀ x y, 2 * x ≠ (2 * y) ^^^ 4129 := fun x y e => by
    have h1 := congrArg (fun z => Nat.testBit z 0) e
    simp [Nat.testBit_zero] at h1
  have e1 : ∀ z, 32768 ≤ z → z < 65536 → 2 * z - 65536 = 2 * (z - 32768) := fun z _ _ => by omega
  unfold st at h
  by_cases h1 : 32768 ≤ c
  · by_cases h2 : 32768 ≤ d
    · rw [if_pos h1, if_pos h2] at h
      have := xor_back _ _ _ h
      omega
    · rw [if_pos h1, if_neg h2, e1 c h1 hc] at h
      exact absurd h.symm (low _ _)
  · by_cases h2 : 32768 ≤ d
    · rw [if_neg h1, if_pos h2, e1 d h2 hd] at h
      exact absurd h (low _ _)
    · rw [if_neg h1, if_neg h2] at h
      omega
theorem stN_inj (k : Nat) : ∀ c d, c < 65536 → d < 65536 → stN c k = stN d k → c = d := by
  induction k with
  | zero => intro c d _ _ h; exact h
  | succ k ih => intro c d hc hd h; exact ih c d hc hd (st_inj _ _ (stN_lt _ _ hc) (stN_lt _ _ hd) h)
theorem feedB_inj (c d : Nat) (b : UInt8) (hc : c < 65536) (hd : d < 65536) (h : feedB c b = feedB d b) : c = d :=
  xor_back _ _ _ (stN_inj 8 _ _ (mix_lt c b hc) (mix_lt d b hd) h)
theorem crcF_inj (l : List UInt8) : ∀ c d, c < 65536 → d < 65536 → crcF l c = crcF l d → c = d := by
  induction l with
  | nil => intro c d _ _ h; exact h
  | cons b l ih => intro c d hc hd h; rw [crcF_cons, crcF_cons] at h; exact feedB_inj c d b hc hd (ih _ _ (feedB_lt c b hc) (feedB_lt d b hd) h)
theorem feedB_byte (c : Nat) (a b : UInt8) (hc : c < 65536) (h : feedB c a = feedB c b) : a = b := by
  have h1 := stN_inj 8 _ _ (mix_lt c a hc) (mix_lt c b hc) h
  rw [Nat.xor_comm c, Nat.xor_comm c] at h1
  have h2 := xor_back _ _ _ h1
  exact UInt8.toNat_inj.1 (by omega)
/-- A changed byte changes the checksum. -/
theorem crc_changed (l : List UInt8) (i : Nat) (hi : i < l.length) (b : UInt8) (h : b ≠ l[i]) : crc (l.set i b) ≠ crc l := by
  have e1 : l = l.take i ++ (l[i] :: l.drop (i + 1)) := by rw [← List.drop_eq_getElem_cons hi, List.take_append_drop]
  have e2 : l.set i b = l.take i ++ (b :: l.drop (i + 1)) := by
    conv => lhs; rw [e1]
    rw [List.set_append_right _ _ (by rw [List.length_take]; omega)]
    rw [List.length_take, show i - min i l.length = 0 by omega]
    rfl
  intro e
  rw [e2] at e
  conv at e => rhs; rw [e1]
  unfold crc at e
  rw [crcF_app, crcF_app, crcF_cons, crcF_cons] at e
  have hl := crcF_lt (l.take i) 65535 (by decide)
  have := crcF_inj _ _ _ (feedB_lt _ b hl) (feedB_lt _ _ hl) e
  exact h (feedB_byte _ _ _ hl this)
/-- Bits as integers. -/
theorem and_top (c : Nat) (h : c < 65536) : bits .and .u16 (c : Int) 32768 = if 32768 ≤ c then 32768 else 0 := by
  have := u16_and_nat c 32768 h (by decide)
  rw [show ((32768 : Nat) : Int) = 32768 from rfl] at this
  rw [this]
  have h2 : c &&& 32768 = c / 32768 % 2 * 32768 := by
    have key : c &&& 2 ^ 15 = if c.testBit 15 then 2 ^ 15 else 0 := by
      apply Nat.eq_of_testBit_eq
      intro i
      rw [Nat.testBit_and, Nat.testBit_two_pow]
      by_cases hi : 15 = i
      · subst hi
        cases c.testBit 15 with
        | true => rw [if_pos rfl, Nat.testBit_two_pow]; rfl
        | false => simp
      · rw [show decide (15 = i) = false by simpa using hi, Bool.and_false]
        split
        · rw [Nat.testBit_two_pow]; simpa using hi
        · simp
    rw [show (32768 : Nat) = 2 ^ 15 from rfl, key, Nat.testBit_eq_decide_div_mod_eq]
    by_cases hb : c / 2 ^ 15 % 2 = 1
    · simp [hb]
    · simp [hb]; omega
  rw [h2]
  split <;> omega
theorem xor_poly (c : Nat) (h : c < 65536) : bits .xor .u16 (c : Int) 4129 = ((c ^^^ 4129 : Nat) : Int) := u16_xor_nat c 4129 h (by decide)
theorem xor_byte (c b : Nat) (h : c < 65536) (hb : b < 65536) : bits .xor .u16 (c : Int) (b : Int) = ((c ^^^ b : Nat) : Int) := u16_xor_nat c b h hb
theorem ofInt_64 (a : Nat) (ha : a < 9223372036854775808) : (BitVec.ofInt 64 (a : Int)).toNat = a := by
  rw [BitVec.ofInt_natCast, BitVec.toNat_ofNat]; exact Nat.mod_eq_of_lt (by omega)
theorem xor_i64 (a b : Nat) (ha : a < 65536) (hb : b < 65536) : bits .xor .i64 (a : Int) (b : Int) = ((a ^^^ b : Nat) : Int) := by
  have hx : a ^^^ b < 2 ^ 16 := Nat.xor_lt_two_pow (by omega) (by omega)
  show IntKind.i64.wrap ((BitVec.ofInt 64 (a : Int) ^^^ BitVec.ofInt 64 (b : Int)).toNat : Int) = _
  rw [BitVec.toNat_xor, ofInt_64 a (by omega), ofInt_64 b (by omega)]
  generalize a ^^^ b = X at hx
  simp [IntKind.wrap, IntKind.bits, IntKind.signed]
  omega
theorem or_i64 (a b : Nat) (ha : a < 256) (hb : b < 256) : bits .or .i64 ((a * 256 : Nat) : Int) (b : Int) = ((a * 256 + b : Nat) : Int) := by
  have e : a * 256 ||| b = a * 256 + b := by
    rw [show a * 256 = a <<< 8 by rw [Nat.shiftLeft_eq]]
    exact (Nat.shiftLeft_add_eq_or_of_lt (by omega) a).symm
  show IntKind.i64.wrap ((BitVec.ofInt 64 ((a * 256 : Nat) : Int) ||| BitVec.ofInt 64 (b : Int)).toNat : Int) = _
  rw [BitVec.toNat_or, ofInt_64 _ (by omega), ofInt_64 b (by omega), e]
  simp [IntKind.wrap, IntKind.bits, IntKind.signed]
  omega
end Go.Proofs.Ytbaodpfiilmpjaa.F
