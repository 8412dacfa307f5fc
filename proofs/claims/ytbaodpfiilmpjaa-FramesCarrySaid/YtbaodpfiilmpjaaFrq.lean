/-
  A stream of frames that is fed in pieces: plain facts.
-/
import Derived.Test.YtbaodpfiilmpjaaFrO
namespace Go.Proofs.Ytbaodpfiilmpjaa.F
open Go.RowKit
open IntWalk
set_option linter.unusedVariables false

theorem feed_app2 (s y : List UInt8) (h : ∀ t, after s = some t → (lst [] t).length + 1 ≤ 8198) : feedP (s ++ y) = feedP s ++ feedP (feedR s ++ y) ∧ feedR (s ++ y) = feedR (feedR s ++ y) := by
  cases hs : after s with
  | none =>
    have e1 : feedP s = [] := by unfold feedP; rw [hs]
    have e2 : feedR s = [] := by unfold feedR; rw [hs]
    have e3 : after (s ++ y) = after y := by rw [after_app, hs]
    rw [e1, e2, List.nil_append, List.nil_append]
    constructor
    · unfold feedP; rw [e3]
    · unfold feedR; rw [e3]
  | some t =>
    have hn := lst_no t [] List.not_mem_nil
    have e0 : after (s ++ y) = some (t ++ y) := by rw [after_app, hs]
    have e1 : feedP s = pay [] t := by unfold feedP; rw [hs]
    have e2 : feedR s = 192 :: lst [] t := by unfold feedR; rw [hs]; show (if _ then _ else _) = _; rw [if_pos (h t hs)]
    have e3 : after (feedR s ++ y) = some (lst [] t ++ y) := by rw [e2, List.cons_append, after, if_pos rfl]
    have e4 : lst [] (lst [] t ++ y) = lst (lst [] t) y := lst_move _ hn _
    constructor
    · unfold feedP at e1 ⊢
      rw [e0, e3, e1]
      show pay [] (t ++ y) = pay [] t ++ pay [] (lst [] t ++ y)
      rw [pay_app, pay_move _ hn]
    · unfold feedR at e2 ⊢
      rw [e0]
      unfold feedR at e3
      rw [e3]
      show (if (lst [] (t ++ y)).length + 1 ≤ 8198 then 192 :: lst [] (t ++ y) else []) = (if (lst [] (lst [] t ++ y)).length + 1 ≤ 8198 then 192 :: lst [] (lst [] t ++ y) else [])
      rw [lst_app, e4]
/-- Marks come often enough. -/
def gap : List UInt8 → Nat → Prop
  | [], n => n ≤ 800
  | c :: t, n => n ≤ 800 ∧ if c = 192 then gap t 0 else gap t (n + 1)
theorem gap_le (t : List UInt8) (n : Nat) (h : gap t n) : n ≤ 800 := by
  cases t with
  | nil => exact h
  | cons c t => exact h.1
theorem gap_pre (s y : List UInt8) : ∀ n, gap (s ++ y) n → gap s n := by
  induction s with
  | nil => intro n h; exact gap_le _ _ h
  | cons c s ih =>
    intro n h
    rw [List.cons_append] at h
    refine ⟨h.1, ?_⟩
    have h2 := h.2
    split
    · next e => rw [if_pos e] at h2; exact ih _ h2
    · next e => rw [if_neg e] at h2; exact ih _ h2
theorem gap_lst (t : List UInt8) : ∀ x : List UInt8, gap t x.length → (lst x t).length ≤ 800 := by
  induction t with
  | nil => intro x h; exact h
  | cons c t ih =>
    intro x h
    have h2 := h.2
    rw [lst]
    split
    · next e => rw [if_pos e] at h2; exact ih [] h2
    · next e => rw [if_neg e] at h2; exact ih (x ++ [c]) (by rw [List.length_append]; exact h2)
theorem gap_after (s : List UInt8) : ∀ n t, gap s n → after s = some t → gap t 0 := by
  induction s with
  | nil => intro n t _ h; cases h
  | cons c s ih =>
    intro n t h ha
    have h2 := h.2
    rw [after] at ha
    split at ha
    · next e => rw [if_pos e] at h2; injection ha with ha; rw [← ha]; exact h2
    · next e => rw [if_neg e] at h2; exact ih _ t h2 ha
theorem gap_free (e t : List UInt8) (he : (192 : UInt8) ∉ e) : ∀ n, n + e.length ≤ 800 → gap t 0 → gap (e ++ 192 :: t) n := by
  induction e with
  | nil => intro n h ht; exact ⟨by simpa using h, by rw [if_pos rfl]; exact ht⟩
  | cons c e ih =>
    intro n h ht
    have hc : c ≠ 192 := fun z => he (by rw [z]; exact List.mem_cons_self ..)
    rw [List.length_cons] at h
    exact ⟨by omega, by rw [if_neg hc]; exact ih (fun z => he (List.mem_cons_of_mem _ z)) _ (by omega) ht⟩
theorem esc_two (l : List UInt8) : (esc l).length ≤ 2 * l.length := by
  induction l with
  | nil => exact Nat.zero_le _
  | cons c l ih =>
    rw [esc_cons, List.length_append, List.length_cons]
    have : (esc1 c).length ≤ 2 := by unfold esc1; split <;> (try split) <;> simp
    omega
theorem gap_all (ps : List (List UInt8)) (h : ∀ p ∈ ps, p.length ≤ 398) : gap (ps.flatMap frm) 0 := by
  induction ps with
  | nil => exact Nat.zero_le _
  | cons p ps ih =>
    have h1 := esc_two (cont p (crc p))
    have h2 := h p (List.mem_cons_self ..)
    have h3 : (cont p (crc p)).length = p.length + 2 := by unfold cont; simp
    have e : (p :: ps).flatMap frm = 192 :: (esc (cont p (crc p)) ++ 192 :: ps.flatMap frm) := by
      rw [List.flatMap_cons]
      show (192 :: (esc (cont p (crc p)) ++ [192])) ++ _ = _
      simp
    rw [e]
    exact ⟨by omega, by rw [if_pos rfl]; exact gap_free _ _ (esc_no _) 0 (by omega) (ih fun q hq => h q (List.mem_cons_of_mem _ hq))⟩
theorem frm_two (p : List UInt8) : (frm p).length ≤ 2 * p.length + 6 := by
  unfold frm
  rw [stuff_len]
  have h1 := esc_two (cont p (crc p))
  have h3 : (cont p (crc p)).length = p.length + 2 := by unfold cont; simp
  omega
theorem ends_all (ps : List (List UInt8)) (h : ∀ p ∈ ps, p.length ≤ 4096) : ∀ j, j ≤ ps.length → Ends ((ps.take j).flatMap frm) (ps.take j) := by
  intro j
  induction j with
  | zero => intro _; exact .inl ⟨by simp, by simp⟩
  | succ j ih =>
    intro hj
    have := ends_more _ [] ps[j] _ (ih (by omega)) List.not_mem_nil 6 unR_none (h _ (List.getElem_mem hj))
    rw [List.append_nil] at this
    rw [List.take_succ_eq_append_getElem hj, List.flatMap_append]
    simpa using this
theorem feedP_all (ps : List (List UInt8)) (h : ∀ p ∈ ps, p.length ≤ 4096) : feedP (ps.flatMap frm) = ps := by
  have := ends_feed _ _ (ends_all ps h ps.length (Nat.le_refl _))
  rwa [List.take_length] at this
/-- One piece more. -/
theorem carry_step (ps : List (List UInt8)) (hp : ∀ p ∈ ps, p.length ≤ 398) (c ch y : List UInt8) (hs : ps.flatMap frm = c ++ (ch ++ y)) (k : Nat) (hk : k ≤ ps.length) (hc : feedP c = ps.take k) :
    feedR (c ++ ch) = feedR (feedR c ++ ch) ∧ k + (feedP (feedR c ++ ch)).length ≤ ps.length ∧ feedP (c ++ ch) = ps.take (k + (feedP (feedR c ++ ch)).length) ∧ ∀ i (h : i < (feedP (feedR c ++ ch)).length), ps[k + i]? = some (feedP (feedR c ++ ch))[i] := by
  have hg := gap_all ps hp
  have hP := feedP_all ps (fun p h => by have := hp p h; omega)
  rw [hs] at hg hP
  have g1 := gap_pre _ _ _ hg
  have a1 := feed_app2 c ch (fun t ht => by have := gap_lst t [] (gap_after _ _ _ g1 ht); omega)
  rw [← List.append_assoc] at hg hP
  have g2 := gap_pre _ _ _ hg
  have a2 := feed_app2 (c ++ ch) y (fun t ht => by have := gap_lst t [] (gap_after _ _ _ g2 ht); omega)
  rw [hP, a1.1, hc] at a2
  obtain ⟨G, hG⟩ : ∃ G, G = feedP (feedR c ++ ch) := ⟨_, rfl⟩
  obtain ⟨Z, hZ⟩ : ∃ Z, Z = feedP (feedR (c ++ ch) ++ y) := ⟨_, rfl⟩
  rw [← hG, ← hZ] at a2
  rw [a1.1, hc, ← hG]
  have e := a2.1
  have hl : (ps.take k).length = k := by rw [List.length_take]; omega
  have hlen : ps.length = k + G.length + Z.length := by
    have := congrArg List.length e
    rw [List.length_append, List.length_append, hl] at this
    exact this
  refine ⟨a1.2, by omega, ?_, fun i h => ?_⟩
  · have q : (ps.take k ++ G).length = k + G.length := by rw [List.length_append, hl]
    have : ps.take (k + G.length) = (ps.take k ++ G ++ Z).take (k + G.length) := congrArg (List.take (k + G.length)) e
    rw [this, ← q, List.take_left]
  · have : ps[k + i]? = (ps.take k ++ G ++ Z)[k + i]? := congrArg (·[k + i]?) e
    rw [this, List.append_assoc, List.getElem?_append_right (by omega), hl, Nat.add_sub_cancel_left, List.getElem?_append_left h, List.getElem?_eq_getElem h]
end Go.Proofs.Ytbaodpfiilmpjaa.F
