/-
  The notation of an amount spells the amount: plain facts.
-/
import Derived.Test.YtjjhdbodjcffaaaDoorMonS
import Derived.Lib.AtoiAllCases
import Derived.Lib.IndexBytes
namespace Go.Proofs.YtjjhdbodjcffaaaDoor
open Go.RowKit
open IntWalk

/-- What digits spell behind a number. -/
def val (l : List UInt8) (a : Nat) : Nat := l.foldl (fun a c => 10 * a + (c.toNat - 48)) a
def digs (l : List UInt8) : Prop := ∀ c ∈ l, 48 ≤ c.toNat ∧ c.toNat ≤ 57
theorem val_cons (c : UInt8) (l : List UInt8) (a : Nat) : val (c :: l) a = val l (10 * a + (c.toNat - 48)) := by unfold val; rw [List.foldl_cons]
theorem val_app (l m : List UInt8) (a : Nat) : val (l ++ m) a = val m (val l a) := by unfold val; rw [List.foldl_append]
theorem val_ge (l : List UInt8) : ∀ a, a ≤ val l a := by
  induction l with
  | nil => intro a; exact Nat.le_refl _
  | cons c l ih => intro a; rw [val_cons]; have := ih (10 * a + (c.toNat - 48)); omega
theorem parse_val (l : List UInt8) : ∀ a, digs l → val l a < 18446744073709551616 → Lib.parseUint10 a l = .ok (val l a) := by
  induction l with
  | nil => intro a _ _; rfl
  | cons c l ih =>
    intro a hd hv
    obtain ⟨h1, h2⟩ := hd c (List.mem_cons_self ..)
    rw [val_cons] at hv ⊢
    have hg := val_ge l (10 * a + (c.toNat - 48))
    rw [Lib.parseUint10, if_pos ⟨h1, h2⟩, if_neg (by omega), if_neg (by omega), show a * 10 + (c.toNat - 48) = 10 * a + (c.toNat - 48) by omega]
    exact ih _ (fun x hx => hd x (List.mem_cons_of_mem _ hx)) hv
theorem ofN (k : Nat) (h : k < 256) : (UInt8.ofNat k).toNat = k := by rw [UInt8.toNat_ofNat']; omega
theorem dec_digs (u : Nat) : digs (Lib.decDigits u) := by
  induction u using Nat.strongRecOn with
  | ind u ih =>
    rw [Lib.decDigits]
    split
    · intro c hc
      simp only [List.mem_singleton] at hc
      subst hc
      rw [ofN _ (by omega)]; omega
    · intro c hc
      rcases List.mem_append.1 hc with h | h
      · exact ih _ (by omega) c h
      · simp only [List.mem_singleton] at h
        subst h
        rw [ofN _ (by omega)]; omega
theorem dec_val (u : Nat) : val (Lib.decDigits u) 0 = u := by
  induction u using Nat.strongRecOn with
  | ind u ih =>
    rw [Lib.decDigits]
    split
    · rw [val_cons, ofN _ (by omega)]; show 10 * 0 + (48 + u - 48) = u; omega
    · rw [val_app, ih _ (by omega), val_cons, ofN _ (by omega)]; show 10 * (u / 10) + (48 + u % 10 - 48) = u; omega
/-- The three digits behind the point. -/
def three (k : Nat) : List UInt8 := [UInt8.ofNat (48 + k / 100), UInt8.ofNat (48 + k / 10 % 10), UInt8.ofNat (48 + k % 10)]
theorem dec_four (k : Nat) (h : k < 1000) : Lib.decDigits (1000 + k) = UInt8.ofNat 49 :: three k := by
  rw [Lib.decDigits, dif_neg (by omega), Lib.decDigits, dif_neg (by omega), Lib.decDigits, dif_neg (by omega), Lib.decDigits, dif_pos (by omega)]
  simp only [List.cons_append, List.nil_append, three]
  rw [show 48 + (1000 + k) / 10 / 10 / 10 = 49 by omega, show 48 + (1000 + k) / 10 / 10 % 10 = 48 + k / 100 by omega, show 48 + (1000 + k) / 10 % 10 = 48 + k / 10 % 10 by omega, show 48 + (1000 + k) % 10 = 48 + k % 10 by omega]
theorem three_digs (k : Nat) (h : k < 1000) : digs (three k) := by
  intro c hc
  simp only [three, List.mem_cons, List.not_mem_nil, or_false] at hc
  rcases hc with rfl | rfl | rfl <;> rw [ofN _ (by omega)] <;> omega
theorem three_val (k a : Nat) (h : k < 1000) : val (three k) a = 1000 * a + k := by
  unfold three
  rw [val_cons, val_cons, val_cons, ofN _ (by omega), ofN _ (by omega), ofN _ (by omega)]
  show 10 * (10 * (10 * a + _) + _) + _ = _
  omega
/-- The digits of an amount. -/
def body (n : Int) : List UInt8 := Lib.decDigits ((ab n / 1000).toNat)
def sgn (n : Int) : List UInt8 := if n < 0 then [45] else []
def frac (n : Int) : List UInt8 := three (ab n % 1000).toNat
theorem fmt_list (n : Int) (cur : ByteArray) (n0 : -9223372036854775808 ≤ n) (n1 : n ≤ 9223372036854775807) :
    (fmtS n cur).data.toList = sgn n ++ (body n ++ ([46] ++ (frac n ++ ([32] ++ cur.data.toList)))) := by
  obtain ⟨a0, a1⟩ := ab_bd n n0 n1
  have e : ((dec (1000 + ab n % 1000).toNat).extract 1 4).data.toList = frac n := by
    rw [Lib.extract_data]
    show ((Lib.decDigits (1000 + ab n % 1000).toNat).toArray.toList.drop 1).take 3 = _
    rw [show (1000 + ab n % 1000).toNat = 1000 + (ab n % 1000).toNat by omega, dec_four _ (by omega)]
    rfl
  unfold fmtS fmtAB sgn
  split <;> simp only [ByteArray.data_append, Array.toList_append, e] <;> simp [dec, body]
theorem frac_len (n : Int) : (frac n).length = 3 := rfl
theorem body_pos (n : Int) : 1 ≤ (body n).length := by
  unfold body; rw [Lib.decDigits]; split <;> simp
theorem fmt_parts (n : Int) (cur : ByteArray) (n0 : -9223372036854775808 ≤ n) (n1 : n ≤ 9223372036854775807) (hc : cur.size = 3) :
    (fmtS n cur).size = (sgn n ++ body n).length + 8 ∧ (parD (fmtS n cur)).data.toList = sgn n ++ body n ++ frac n ∧ parC (fmtS n cur) = cur := by
  have hl := fmt_list n cur n0 n1
  have hcl : cur.data.toList.length = 3 := by simpa using hc
  have hs : (fmtS n cur).size = (sgn n ++ body n).length + 8 := by
    have : (fmtS n cur).data.toList.length = (fmtS n cur).size := by simp
    rw [← this, hl]
    simp only [List.length_append, frac_len, hcl, List.length_cons, List.length_nil]
    omega
  refine ⟨hs, ?_, ?_⟩
  · unfold parD
    rw [ByteArray.data_append, Array.toList_append, Lib.extract_data, Lib.extract_data, hs, hl, ← List.append_assoc]
    have e1 : (sgn n ++ body n).length + 8 - 8 = (sgn n ++ body n).length := by omega
    rw [e1]
    congr 1
    · rw [List.drop_zero, Nat.sub_zero, List.take_left]
    · rw [← List.append_assoc (sgn n ++ body n), List.drop_left' (by simp; omega), show (sgn n ++ body n).length + 1 + 3 - ((sgn n ++ body n).length + 1) = 3 by omega]
      exact List.take_left' (frac_len n)
  · unfold parC
    apply ByteArray.ext
    rw [← Array.toList_inj, Lib.extract_to_end, hs, hl]
    rw [← List.append_assoc, ← List.append_assoc, ← List.append_assoc, ← List.append_assoc]
    apply List.drop_left'
    simp only [List.length_append, frac_len, List.length_cons, List.length_nil]
    omega
theorem atoi_back (n : Int) (n0 : -9223372036854775808 ≤ n) (n1 : n ≤ 9223372036854775807) : Lib.atoiAll (sgn n ++ body n ++ frac n) = .ok n := by
  obtain ⟨a0, a1⟩ := ab_bd n n0 n1
  have hv : val (body n ++ frac n) 0 = (ab n).toNat := by
    unfold body frac
    rw [val_app, dec_val, three_val _ _ (by omega)]; omega
  have hd : digs (body n ++ frac n) := fun c hc => by
    rcases List.mem_append.1 hc with h | h
    · exact dec_digs _ c h
    · exact three_digs _ (by omega) c h
  have hb := body_pos n
  have hn : body n ++ frac n ≠ [] := fun e => by
    have := congrArg List.length e
    simp only [List.length_append, List.length_nil] at this; omega
  have hp : Lib.parseMag (body n ++ frac n) = .ok (ab n).toNat := by
    unfold Lib.parseMag
    rw [if_neg hn, parse_val _ _ hd (by rw [hv]; omega), hv]
  unfold sgn
  by_cases h : n < 0
  · have ea : (ab n).toNat = (-n).toNat := by unfold ab; rw [if_pos h]
    rw [if_pos h, List.append_assoc]
    show Lib.atoiAll (45 :: (body n ++ frac n)) = _
    rw [Lib.atoiAll_minus, hp, ea]
    unfold Lib.signed
    simp only
    rw [if_neg (by omega)]
    congr 1; omega
  · have ea : (ab n).toNat = n.toNat := by unfold ab; rw [if_neg h]
    rw [if_neg h, List.nil_append]
    obtain ⟨c, r, e⟩ : ∃ c r, body n ++ frac n = c :: r := by
      cases hh : body n ++ frac n with
      | nil => exact absurd hh hn
      | cons c r => exact ⟨c, r, rfl⟩
    obtain ⟨d1, d2⟩ := hd c (by rw [e]; exact List.mem_cons_self ..)
    rw [e, Lib.atoiAll_plain c r (by omega) (by omega), ← e, hp, ea]
    unfold Lib.signless
    simp only
    rw [if_neg (by omega)]
    congr 1; omega
end Go.Proofs.YtjjhdbodjcffaaaDoor
