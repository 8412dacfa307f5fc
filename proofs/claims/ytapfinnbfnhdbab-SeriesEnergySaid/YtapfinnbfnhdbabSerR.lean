/-
  Plain facts on series of steps: what is moved; energies. No program is named here.
-/
import Derived.Test.YtapfinnbfnhdbabSerP
namespace Go.Proofs.Ytapfinnbfnhdbab.Ser
set_option linter.unusedVariables false

/-! Moved in time. -/
def mvL (by_ : Int) (l : List St) : List St := l.map fun s => (s.1 + by_, s.2)
def mvB (by_ : Int) (s : St) : Bool := decide (0 ≤ s.1 + by_ ∧ s.1 + by_ ≤ 268435456)
def mvOk (by_ : Int) (l : List St) : Bool := l.all (mvB by_)
theorem mvL_take (b : Int) (l : List St) (k : Nat) (h : k < l.length) : mvL b (l.take (k + 1)) = mvL b (l.take k) ++ [((l[k]'h).1 + b, (l[k]'h).2)] := by
  unfold mvL; rw [List.take_succ_eq_append_getElem h, List.map_append]; rfl
theorem mvL_len (b : Int) (l : List St) : (mvL b l).length = l.length := by unfold mvL; simp
theorem mv_asc (b : Int) : ∀ (l : List St) (p : Int), Asc p l → Asc (p + b) (mvL b l)
  | [], _, _ => trivial
  | s :: l, p, ⟨h1, h2⟩ => ⟨by show p + b < s.1 + b; omega, mv_asc b l s.1 h2⟩
theorem mv_asc' (b q : Int) : ∀ (l : List St) (p : Int), Asc p l → (∀ s ∈ l, q < s.1 + b) → Asc q (mvL b l)
  | [], _, _, _ => trivial
  | s :: l, p, ⟨h1, h2⟩, h => ⟨h s List.mem_cons_self, mv_asc b l s.1 h2⟩
theorem mv_ok {b : Int} {l : List St} (h : Ok l) (hm : mvOk b l = true) : Ok (mvL b l) := by
  have hall : ∀ s ∈ l, 0 ≤ s.1 + b ∧ s.1 + b ≤ 268435456 := fun s hs => by
    have := List.all_eq_true.1 hm s hs
    unfold mvB at this
    simpa using this
  refine ⟨by rw [mvL_len]; exact h.len, fun s hs => ?_, mv_asc' b (-1) l (-1) h.asc fun s hs => by have := hall s hs; omega⟩
  obtain ⟨x, hx, rfl⟩ := List.mem_map.1 hs
  exact (okS_iff _).2 ⟨hall x hx, ((okS_iff x).1 (h.all x hx)).2⟩
theorem mv_at (b t : Int) : ∀ (l : List St) (v : Int), atFrom v t (mvL b l) = atFrom v (t - b) l
  | [], _ => rfl
  | s :: l, v => by
    show atFrom (if s.1 + b ≤ t then s.2 else v) t (mvL b l) = atFrom (if s.1 ≤ t - b then s.2 else v) (t - b) l
    rw [mv_at b t l]
    by_cases c : s.1 + b ≤ t
    · rw [if_pos c, if_pos (by omega)]
    · rw [if_neg c, if_neg (by omega)]

/-! Energies. -/
def nxT (l : List St) (t : Int) (i : Nat) : Int := if i + 1 < l.length then min t (l.getD (i + 1) (0, 0)).1 else t
def mn (l : List St) (f t : Int) (i : Nat) : Int := max 0 (nxT l t i - max f (l.getD i (0, 0)).1)
def hiS (l : List St) (f t : Int) : Nat → Int
  | 0 => 0
  | k + 1 => hiS l f t k + (l.getD k (0, 0)).2 / 1048576 * mn l f t k
def loS (l : List St) (f t : Int) : Nat → Int
  | 0 => 0
  | k + 1 => loS l f t k + (l.getD k (0, 0)).2 % 1048576 * mn l f t k
def enS (l : List St) (f t : Int) : Nat → Int
  | 0 => 0
  | k + 1 => enS l f t k + (l.getD k (0, 0)).2 * mn l f t k
theorem mn_bd (l : List St) (f t : Int) (i : Nat) (f0 : 0 ≤ f) (tm : t ≤ 268435456) : 0 ≤ mn l f t i ∧ mn l f t i ≤ 268435456 := by
  unfold mn nxT; split <;> omega
theorem hl_eq (l : List St) (f t : Int) : ∀ k, hiS l f t k * 1048576 + loS l f t k = enS l f t k
  | 0 => rfl
  | k + 1 => by
    have ih := hl_eq l f t k
    unfold hiS loS enS
    rw [← ih]
    have h := Int.emod_add_mul_ediv (l.getD k (0, 0)).2 1048576
    generalize (l.getD k (0, 0)).2 = v at *
    generalize mn l f t k = m at *
    have e : v * m = v / 1048576 * m * 1048576 + v % 1048576 * m := by
      have : v = v / 1048576 * 1048576 + v % 1048576 := by omega
      conv => lhs; rw [this]
      rw [Int.add_mul, Int.mul_right_comm]
    rw [e, Int.add_mul]; omega
theorem mul_bd (v m lo hi : Int) (m0 : 0 ≤ m) (m1 : m ≤ 268435456) (hv : lo ≤ v) (hv' : v ≤ hi) (h0 : lo ≤ 0) (h1 : 0 ≤ hi) : lo * 268435456 ≤ v * m ∧ v * m ≤ hi * 268435456 := by
  constructor
  · calc lo * 268435456 ≤ lo * m := Int.mul_le_mul_of_nonpos_left h0 m1
      _ ≤ v * m := Int.mul_le_mul_of_nonneg_right hv m0
  · calc v * m ≤ hi * m := Int.mul_le_mul_of_nonneg_right hv' m0
      _ ≤ hi * 268435456 := Int.mul_le_mul_of_nonneg_left m1 h1
theorem hl_bd (l : List St) (f t : Int) (f0 : 0 ≤ f) (tm : t ≤ 268435456) (hv : ∀ s ∈ l, okS s = true) : ∀ k, k ≤ l.length →
    (-(k : Int) * 281474976710656 ≤ hiS l f t k ∧ hiS l f t k ≤ (k : Int) * 281474976710656) ∧ 0 ≤ loS l f t k ∧ loS l f t k ≤ (k : Int) * 281474976710656
  | 0, _ => by unfold hiS loS; simp
  | k + 1, hk => by
    obtain ⟨⟨a1, a2⟩, a3, a4⟩ := hl_bd l f t f0 tm hv k (by omega)
    obtain ⟨m0, m1⟩ := mn_bd l f t k f0 tm
    have hs := ((okS_iff _).1 (hv (l[k]'(by omega)) (List.getElem_mem _))).2
    have e : l.getD k (0, 0) = l[k]'(by omega) := by simp [show k < l.length by omega]
    unfold hiS loS
    rw [e]
    generalize (l[k]'(by omega)).2 = v at *
    generalize mn l f t k = m at *
    have b1 := mul_bd (v / 1048576) m (-1048576) 1048576 m0 m1 (by omega) (by omega) (by omega) (by omega)
    have b2 := mul_bd (v % 1048576) m 0 1048576 m0 m1 (by omega) (by omega) (by omega) (by omega)
    refine ⟨⟨?_, ?_⟩, ?_, ?_⟩ <;> (push_cast; omega)
theorem enS_out {h lo : Int} (h0 : 0 ≤ lo) : ((h + lo / 1048576 < -8796093022208 ∨ 8796093022208 ≤ h + lo / 1048576) ↔ ¬ (-9223372036854775808 ≤ h * 1048576 + lo ∧ h * 1048576 + lo < 9223372036854775808)) ∧
    (h + lo / 1048576) * 1048576 + lo % 1048576 = h * 1048576 + lo := by
  refine ⟨?_, by omega⟩
  omega

/-- The same by the list. -/
def enR (f t : Int) : List St → Int
  | [] => 0
  | s :: l => s.2 * max 0 ((match l with | [] => t | u :: _ => min t u.1) - max f s.1) + enR f t l
theorem enR_drop (l : List St) (f t : Int) (k : Nat) (h : k < l.length) : enR f t (l.drop k) = (l.getD k (0, 0)).2 * mn l f t k + enR f t (l.drop (k + 1)) := by
  rw [List.drop_eq_getElem_cons h]
  show _ * max 0 ((match l.drop (k + 1) with | [] => t | u :: _ => min t u.1) - max f _) + _ = _
  have e : l.getD k (0, 0) = l[k] := by simp [h]
  have e2 : (match l.drop (k + 1) with | [] => t | u :: _ => min t u.1) = nxT l t k := by
    unfold nxT
    by_cases c : k + 1 < l.length
    · rw [List.drop_eq_getElem_cons c, if_pos c]
      have e : l.getD (k + 1) (0, 0) = l[k + 1] := by simp [c]
      rw [e]
    · rw [List.drop_eq_nil_of_le (by omega), if_neg c]
  rw [e2, e]; unfold mn; rw [e]
theorem enS_enR (l : List St) (f t : Int) : ∀ k, k ≤ l.length → enS l f t k + enR f t (l.drop k) = enR f t l
  | 0, _ => by show 0 + enR f t l = _; omega
  | k + 1, h => by
    rw [← enS_enR l f t k (by omega), enR_drop l f t k (by omega)]
    show enS l f t k + (l.getD k (0, 0)).2 * mn l f t k + _ = _
    omega
/-- One minute more. -/
theorem enR_succ (f t : Int) (hft : f ≤ t) : ∀ (l : List St) (p : Int), Asc p l → enR f (t + 1) l = enR f t l + atL l t
  | [], _, _ => rfl
  | [s], p, _ => by
    show s.2 * max 0 (t + 1 - max f s.1) + 0 = s.2 * max 0 (t - max f s.1) + 0 + (if s.1 ≤ t then s.2 else 0)
    by_cases c : s.1 ≤ t
    · rw [if_pos c, show max 0 (t + 1 - max f s.1) = max 0 (t - max f s.1) + 1 by omega, Int.mul_add]; omega
    · rw [if_neg c, show max 0 (t + 1 - max f s.1) = max 0 (t - max f s.1) by omega]; omega
  | s :: u :: l, p, ⟨h1, h2, h3⟩ => by
    have ih := enR_succ f t hft (u :: l) s.1 ⟨h2, h3⟩
    show s.2 * max 0 (min (t + 1) u.1 - max f s.1) + enR f (t + 1) (u :: l) = s.2 * max 0 (min t u.1 - max f s.1) + enR f t (u :: l) + atL (s :: u :: l) t
    rw [ih]
    by_cases c : u.1 ≤ t
    · have e : atL (s :: u :: l) t = atL (u :: l) t := by
        show atFrom (if u.1 ≤ t then u.2 else (if s.1 ≤ t then s.2 else 0)) t l = atFrom (if u.1 ≤ t then u.2 else 0) t l
        rw [if_pos c, if_pos c]
      rw [e, show min (t + 1) u.1 = min t u.1 by omega]; omega
    · have e0 : atL (u :: l) t = 0 := atFrom_none _ _ _ fun x hx => by
        rcases List.mem_cons.1 hx with rfl | hx
        · omega
        · have := h3.all x hx; omega
      have e : atL (s :: u :: l) t = if s.1 ≤ t then s.2 else 0 := atFrom_none t (u :: l) _ fun x hx => by
        rcases List.mem_cons.1 hx with rfl | hx
        · omega
        · have := h3.all x hx; omega
      rw [e, e0]
      by_cases d : s.1 ≤ t
      · rw [if_pos d, show max 0 (min (t + 1) u.1 - max f s.1) = max 0 (min t u.1 - max f s.1) + 1 by omega, Int.mul_add]; omega
      · rw [if_neg d, show max 0 (min (t + 1) u.1 - max f s.1) = max 0 (min t u.1 - max f s.1) by omega]; omega
theorem enR_zero (f t : Int) (h : t ≤ f) : ∀ l : List St, enR f t l = 0
  | [] => rfl
  | s :: l => by
    unfold enR
    rw [enR_zero f t h l]
    have : max 0 ((match l with | [] => t | u :: _ => min t u.1) - max f s.1) = 0 := by
      cases l with
      | nil => show max 0 (t - max f s.1) = 0; omega
      | cons u l => show max 0 (min t u.1 - max f s.1) = 0; omega
    rw [this]; simp
theorem enR_split (l : List St) (hl : Asc (-1) l) (f m : Int) (h1 : f ≤ m) : ∀ n : Nat, enR f (m + n) l = enR f m l + enR m (m + n) l
  | 0 => by rw [show m + ((0 : Nat) : Int) = m by omega, enR_zero m m (Int.le_refl _)]; omega
  | n + 1 => by
    have ih := enR_split l hl f m h1 n
    rw [show m + ((n + 1 : Nat) : Int) = m + n + 1 by omega, enR_succ f (m + n) (by omega) l _ hl, enR_succ m (m + n) (by omega) l _ hl, ih]; omega
theorem enR_add (a b c : List St) (ha : Asc (-1) a) (hb : Asc (-1) b) (hc : Asc (-1) c) (h : ∀ t, atL c t = atL a t + atL b t) (f : Int) : ∀ n : Nat, enR f (f + n) c = enR f (f + n) a + enR f (f + n) b
  | 0 => by rw [show f + ((0 : Nat) : Int) = f by omega, enR_zero, enR_zero, enR_zero] <;> omega
  | n + 1 => by
    have ih := enR_add a b c ha hb hc h f n
    rw [show f + ((n + 1 : Nat) : Int) = f + n + 1 by omega, enR_succ f _ (by omega) a _ ha, enR_succ f _ (by omega) b _ hb, enR_succ f _ (by omega) c _ hc, ih, h]; omega
end Go.Proofs.Ytapfinnbfnhdbab.Ser
