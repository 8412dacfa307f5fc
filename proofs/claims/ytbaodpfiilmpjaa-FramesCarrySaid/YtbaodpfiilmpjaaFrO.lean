/-
  Plain facts on frames: what stands between two marks, what is read back, streams in pieces. No walk is here.
-/
import Derived.Test.YtbaodpfiilmpjaaFrN
namespace Go.Proofs.Ytbaodpfiilmpjaa.F

theorem esc_nil : esc [] = [] := rfl
theorem esc_cons (c : UInt8) (l : List UInt8) : esc (c :: l) = esc1 c ++ esc l := by unfold esc; rw [List.flatMap_cons]
theorem esc1_mark : esc1 192 = [219, 220] := rfl
theorem esc1_esc : esc1 219 = [219, 221] := rfl
theorem esc1_plain (c : UInt8) (h1 : c ≠ 192) (h2 : c ≠ 219) : esc1 c = [c] := by unfold esc1; rw [if_neg h1, if_neg h2]
theorem esc_no (l : List UInt8) : (192 : UInt8) ∉ esc l := by
  induction l with
  | nil => rw [esc_nil]; exact List.not_mem_nil
  | cons c l ih =>
    rw [esc_cons]
    intro h
    rcases List.mem_append.1 h with h | h
    · by_cases h1 : c = 192
      · subst h1; rw [esc1_mark] at h; revert h; decide
      · by_cases h2 : c = 219
        · subst h2; rw [esc1_esc] at h; revert h; decide
        · rw [esc1_plain c h1 h2] at h
          exact h1 (List.mem_singleton.1 h).symm
    · exact ih h
/-- Reading back. -/
theorem ins_esc (l r : List UInt8) : ∀ acc, ins (esc l ++ 192 :: r) acc = .done (acc ++ l) r := by
  induction l with
  | nil => intro acc; rw [esc_nil, List.nil_append, ins_mark, List.append_nil]
  | cons c l ih =>
    intro acc
    rw [esc_cons]
    by_cases h1 : c = 192
    · subst h1; rw [esc1_mark]
      show ins (219 :: 220 :: (esc l ++ 192 :: r)) acc = _
      rw [ins_220, ih, List.append_assoc]; rfl
    · by_cases h2 : c = 219
      · subst h2; rw [esc1_esc]
        show ins (219 :: 221 :: (esc l ++ 192 :: r)) acc = _
        rw [ins_221, ih, List.append_assoc]; rfl
      · rw [esc1_plain c h1 h2]
        show ins (c :: (esc l ++ 192 :: r)) acc = _
        rw [ins_plain c _ _ h1 h2, ih, List.append_assoc]; rfl
theorem contR_stuff (l : List UInt8) : contR (stuff l) = .ok l := by
  unfold stuff contR
  simp only [ne_eq, not_true_eq_false, if_false]
  rw [ins_esc, List.nil_append, resR_done]
theorem two_ok (s : Nat) (h : s < 65536) : (hiB s).toNat * 256 + (loB s).toNat = s := by rw [hiB_nat s h, loB_nat]; omega
theorem unR_stuff (l : List UInt8) (s : Nat) (hs : s < 65536) (hl : l.length ≤ 4096) : unR (stuff (cont l s)) = if crc l = s then .ok l else .error 7 := by
  unfold unR
  rw [contR_stuff]
  show sumR (cont l s) = _
  unfold cont
  rw [sumR_two l _ _ hl, two_ok s hs]
theorem unR_frm (l : List UInt8) (hl : l.length ≤ 4096) : unR (frm l) = .ok l := by
  unfold frm; rw [unR_stuff l _ (crc_lt l) hl, if_pos rfl]
theorem unR_bad (l : List UInt8) (s : Nat) (hs : s < 65536) (hl : l.length ≤ 4096) (h : crc l ≠ s) : unR (stuff (cont l s)) = .error 7 := by rw [unR_stuff l s hs hl, if_neg h]
/-- A frame that is cut is short. -/
theorem ins_cut (l : List UInt8) : ∀ (k : Nat) (acc : List UInt8), ins ((esc l).take k) acc = .short := by
  induction l with
  | nil => intro k acc; rw [esc_nil, List.take_nil, ins_nil]
  | cons c l ih =>
    intro k acc
    cases k with
    | zero => rw [List.take_zero, ins_nil]
    | succ k =>
      rw [esc_cons]
      by_cases h1 : c = 192
      · subst h1; rw [esc1_mark]
        show ins (219 :: (220 :: esc l).take k) acc = _
        cases k with
        | zero => rw [List.take_zero, ins_end]
        | succ k => rw [List.take_succ_cons, ins_220]; exact ih _ _
      · by_cases h2 : c = 219
        · subst h2; rw [esc1_esc]
          show ins (219 :: (221 :: esc l).take k) acc = _
          cases k with
          | zero => rw [List.take_zero, ins_end]
          | succ k => rw [List.take_succ_cons, ins_221]; exact ih _ _
        · rw [esc1_plain c h1 h2]
          show ins (c :: (esc l).take k) acc = _
          rw [ins_plain c _ _ h1 h2]; exact ih _ _
theorem stuff_len (l : List UInt8) : (stuff l).length = (esc l).length + 2 := by unfold stuff; simp
theorem unR_cut (l : List UInt8) (k : Nat) (h : k < (stuff l).length) : unR ((stuff l).take k) = .error 6 := by
  rw [stuff_len] at h
  have hc : contR ((stuff l).take k) = .error 6 := by
    cases k with
    | zero => rw [List.take_zero]; rfl
    | succ k =>
      unfold stuff
      rw [List.take_succ_cons]
      unfold contR
      simp only [ne_eq, not_true_eq_false, if_false]
      rw [List.take_append_of_le_length (by omega), ins_cut]; rfl
  unfold unR; rw [hc]
/-- Marks stand at both ends only. -/
theorem marks_in (E : List UInt8) (hE : (192 : UInt8) ∉ E) (i : Nat) (h : i < (192 :: (E ++ [192])).length) : (192 :: (E ++ [192]))[i] = 192 ↔ (i = 0 ∨ i = (192 :: (E ++ [192])).length - 1) := by
  have hl : (192 :: (E ++ [192])).length = E.length + 2 := by simp
  cases i with
  | zero => simp
  | succ i =>
    by_cases he : i < E.length
    · have e : (192 :: (E ++ [192]))[i + 1] = E[i] := by rw [List.getElem_cons_succ, List.getElem_append_left he]
      rw [e]
      constructor
      · intro e2; exact absurd (e2 ▸ List.getElem_mem he) hE
      · intro h2; omega
    · have e0 : i = E.length := by omega
      have e : (192 :: (E ++ [192]))[i + 1] = 192 := by subst e0; rw [List.getElem_cons_succ, List.getElem_append_right (Nat.le_refl _)]; simp
      rw [e]
      constructor
      · intro _; right; omega
      · intro _; rfl
theorem stuff_marks (l : List UInt8) (i : Nat) (h : i < (stuff l).length) : (stuff l)[i] = 192 ↔ (i = 0 ∨ i = (stuff l).length - 1) := marks_in (esc l) (esc_no l) i h
theorem frm_len4 (l : List UInt8) : 4 ≤ (frm l).length := by
  unfold frm
  rw [stuff_len]
  have := (esc_len (cont l (crc l))).1
  rw [cont_len] at this
  omega
/-- Only what Pack returns is accepted. -/
theorem ins_back (n : Nat) : ∀ (r acc p rest : List UInt8), r.length ≤ n → ins r acc = .done p rest → ∃ q, p = acc ++ q ∧ r = esc q ++ 192 :: rest := by
  induction n with
  | zero =>
    intro r acc p rest h hi
    have : r = [] := List.length_eq_zero_iff.1 (by omega)
    subst this
    rw [ins_nil] at hi; cases hi
  | succ n ih =>
    intro r acc p rest h hi
    match r, h, hi with
    | [], _, hi => rw [ins_nil] at hi; cases hi
    | c :: r, h, hi =>
      rw [List.length_cons] at h
      by_cases h1 : c = 192
      · subst h1; rw [ins_mark] at hi; injection hi with e1 e2; subst e1; subst e2
        exact ⟨[], by rw [List.append_nil], rfl⟩
      · by_cases h2 : c = 219
        · subst h2
          match r, h, hi with
          | [], _, hi => rw [ins_end] at hi; cases hi
          | d :: r, h, hi =>
            rw [List.length_cons] at h
            by_cases h3 : d = 220
            · subst h3; rw [ins_220] at hi
              obtain ⟨q, e1, e2⟩ := ih r _ p rest (by omega) hi
              refine ⟨192 :: q, by rw [e1, List.append_assoc]; rfl, ?_⟩
              rw [esc_cons, esc1_mark, e2]; rfl
            · by_cases h4 : d = 221
              · subst h4; rw [ins_221] at hi
                obtain ⟨q, e1, e2⟩ := ih r _ p rest (by omega) hi
                refine ⟨219 :: q, by rw [e1, List.append_assoc]; rfl, ?_⟩
                rw [esc_cons, esc1_esc, e2]; rfl
              · rw [ins_bad d r acc h3 h4] at hi; cases hi
        · rw [ins_plain c r acc h1 h2] at hi
          obtain ⟨q, e1, e2⟩ := ih r _ p rest (by omega) hi
          refine ⟨c :: q, by rw [e1, List.append_assoc]; rfl, ?_⟩
          rw [esc_cons, esc1_plain c h1 h2, e2]; rfl
theorem contR_back (l p : List UInt8) (h : contR l = .ok p) : l = stuff p := by
  unfold contR at h
  split at h
  · cases h
  · rename_i c r
    split at h
    · cases h
    · rename_i hc
      have hc' : c = 192 := by simpa using hc
      subst hc'
      unfold resR at h
      split at h
      · cases h
      · cases h
      · rename_i acc rest hi
        split at h
        · rename_i hr
          subst hr
          injection h with h
          subst h
          obtain ⟨q, e1, e2⟩ := ins_back _ r [] acc [] (Nat.le_refl _) hi
          rw [List.nil_append] at e1
          subst e1
          unfold stuff; rw [e2]
        · cases h
theorem byte_two (x y : UInt8) (s : Nat) (h : s = x.toNat * 256 + y.toNat) : hiB s = x ∧ loB s = y := by
  have h1 := x.toNat_lt
  have h2 := y.toNat_lt
  constructor
  · apply UInt8.toNat_inj.1; rw [hiB_nat s (by omega)]; omega
  · apply UInt8.toNat_inj.1; rw [loB_nat]; omega
theorem unR_back (l p : List UInt8) (h : unR l = .ok p) : p.length ≤ 4096 ∧ frm p = l := by
  unfold unR at h
  split at h
  · cases h
  · rename_i acc hc
    have hl := contR_back l acc hc
    by_cases h2 : acc.length < 2
    · unfold sumR at h; rw [if_pos h2] at h; cases h
    · obtain ⟨P, x, y, e⟩ := two_more acc h2
      subst e
      have hP : P.length ≤ 4096 := by
        by_cases h3 : 4098 < (P ++ [x, y]).length
        · unfold sumR at h; rw [if_neg h2, if_pos h3] at h; cases h
        · simp at h3; omega
      rw [sumR_two P x y hP] at h
      split at h
      · rename_i hs
        injection h with h
        subst h
        refine ⟨hP, ?_⟩
        obtain ⟨b1, b2⟩ := byte_two x y (crc P) hs
        unfold frm cont
        rw [b1, b2, hl]
      · cases h
/-- Streams in pieces. -/
theorem pay_app (t y : List UInt8) : ∀ x, pay x (t ++ y) = pay x t ++ pay (lst x t) y := by
  induction t with
  | nil => intro x; rfl
  | cons c t ih =>
    intro x
    rw [List.cons_append, pay, pay, lst]
    by_cases hc : c = 192
    · rw [if_pos hc, if_pos hc, if_pos hc, ih, List.append_assoc]
    · rw [if_neg hc, if_neg hc, if_neg hc, ih]
theorem lst_app (t y : List UInt8) : ∀ x, lst x (t ++ y) = lst (lst x t) y := by
  induction t with
  | nil => intro x; rfl
  | cons c t ih =>
    intro x
    rw [List.cons_append, lst, lst]
    by_cases hc : c = 192
    · rw [if_pos hc, if_pos hc, ih]
    · rw [if_neg hc, if_neg hc, ih]
theorem lst_no (t : List UInt8) : ∀ x, (192 : UInt8) ∉ x → (192 : UInt8) ∉ lst x t := by
  induction t with
  | nil => intro x h; exact h
  | cons c t ih =>
    intro x h
    rw [lst]
    by_cases hc : c = 192
    · rw [if_pos hc]; exact ih _ List.not_mem_nil
    · rw [if_neg hc]; refine ih _ fun hm => ?_
      rcases List.mem_append.1 hm with hm | hm
      · exact h hm
      · exact hc (List.mem_singleton.1 hm).symm
theorem pay_move (x : List UInt8) (hx : (192 : UInt8) ∉ x) (y : List UInt8) : pay [] (x ++ y) = pay x y := by rw [pay_app, pay_stop x hx, lst_stop x hx]; rfl
theorem lst_move (x : List UInt8) (hx : (192 : UInt8) ∉ x) (y : List UInt8) : lst [] (x ++ y) = lst x y := by rw [lst_app, lst_stop x hx]; rfl
theorem after_app (s y : List UInt8) : after (s ++ y) = match after s with | none => after y | some t => some (t ++ y) := by
  induction s with
  | nil => rfl
  | cons c t ih =>
    rw [List.cons_append, after, after]
    by_cases hc : c = 192
    · rw [if_pos hc, if_pos hc]
    · rw [if_neg hc, if_neg hc, ih]
theorem lst_len (t : List UInt8) : ∀ x, (lst x t).length ≤ x.length + t.length := by
  induction t with
  | nil => intro x; simp [lst]
  | cons c t ih =>
    intro x
    rw [lst]
    by_cases hc : c = 192
    · rw [if_pos hc]; have := ih []; simp at this ⊢; omega
    · rw [if_neg hc]; have := ih (x ++ [c]); simp at this ⊢; omega
theorem after_len (s : List UInt8) : ∀ t, after s = some t → t.length < s.length := by
  induction s with
  | nil => intro t h; cases h
  | cons c r ih =>
    intro t h
    rw [after] at h
    by_cases hc : c = 192
    · rw [if_pos hc] at h; injection h with h; subst h; simp
    · rw [if_neg hc] at h; have := ih t h; simp; omega
theorem feedR_len (s : List UInt8) : (feedR s).length ≤ s.length := by
  unfold feedR
  split
  · simp
  · rename_i t ht
    have h1 := after_len s t ht
    have h2 := lst_len t []
    split
    · simp at h2 ⊢; omega
    · simp
theorem feed_app (s y : List UInt8) (h : s.length + y.length ≤ 8000) : feedP (s ++ y) = feedP s ++ feedP (feedR s ++ y) ∧ feedR (s ++ y) = feedR (feedR s ++ y) := by
  cases hs : after s with
  | none =>
    have e1 : feedP s = [] := by unfold feedP; rw [hs]
    have e2 : feedR s = [] := by unfold feedR; rw [hs]
    have e3 : after (s ++ y) = after y := by rw [after_app, hs]
    rw [e1, e2, List.nil_append, List.nil_append]
    constructor
    · unfold feedP; rw [e3]
    · unfold feedR; rw [e3]
  | some t =>
    have h1 := after_len s t hs
    have h2 := lst_len t []
    have hn := lst_no t [] List.not_mem_nil
    rw [List.length_nil, Nat.zero_add] at h2
    have e0 : after (s ++ y) = some (t ++ y) := by rw [after_app, hs]
    have e1 : feedP s = pay [] t := by unfold feedP; rw [hs]
    have e2 : feedR s = 192 :: lst [] t := by unfold feedR; rw [hs]; show (if _ then _ else _) = _; rw [if_pos (by omega)]
    have e3 : after (feedR s ++ y) = some (lst [] t ++ y) := by rw [e2, List.cons_append, after, if_pos rfl]
    have e4 : lst [] (lst [] t ++ y) = lst (lst [] t) y := lst_move _ hn _
    constructor
    · unfold feedP at e1 ⊢
      rw [e0, e3, e1]
      show pay [] (t ++ y) = pay [] t ++ pay [] (lst [] t ++ y)
      rw [pay_app, pay_move _ hn]
    · unfold feedR at e2 ⊢
      rw [e0]
      unfold feedR at e3
      rw [e3]
      show (if (lst [] (t ++ y)).length + 1 ≤ 8198 then 192 :: lst [] (t ++ y) else []) = (if (lst [] (lst [] t ++ y)).length + 1 ≤ 8198 then 192 :: lst [] (lst [] t ++ y) else [])
      rw [lst_app, e4]
/-- A stream that ends with a frame, or has nothing yet. -/
def Ends (s : List UInt8) (ps : List (List UInt8)) : Prop := (s = [] ∧ ps = []) ∨ ∃ t, after s = some t ∧ lst [] t = [] ∧ pay [] t = ps
theorem upk_err (j : List UInt8) (k : Int) (h : unR (192 :: (j ++ [192])) = .error k) : upk j = [] := by unfold upk; rw [h]
theorem upk_stuff (p : List UInt8) (hp : p.length ≤ 4096) : upk (esc (cont p (crc p))) = [p] := by
  unfold upk
  have := unR_frm p hp
  unfold frm stuff at this
  rw [this]
theorem ends_more (s j p : List UInt8) (ps : List (List UInt8)) (h : Ends s ps) (hj : (192 : UInt8) ∉ j) (k : Int) (hk : unR (192 :: (j ++ [192])) = .error k) (hp : p.length ≤ 4096) : Ends (s ++ j ++ frm p) (ps ++ [p]) := by
  have hf : frm p = 192 :: (esc (cont p (crc p)) ++ [192]) := rfl
  have hE := esc_no (cont p (crc p))
  have hp1 : ∀ x, (192 : UInt8) ∉ x → pay [] (x ++ 192 :: (esc (cont p (crc p)) ++ [192])) = upk x ++ [p] := fun x hx => by
    rw [pay_jump x hx, List.nil_append, pay_jump _ hE, List.nil_append, upk_stuff p hp]; rfl
  have hl1 : ∀ x, (192 : UInt8) ∉ x → lst [] (x ++ 192 :: (esc (cont p (crc p)) ++ [192])) = [] := fun x hx => by
    rw [lst_jump x hx, lst_jump _ hE]; rfl
  rcases h with ⟨rfl, rfl⟩ | ⟨t, h1, h2, h3⟩
  · refine .inr ⟨esc (cont p (crc p)) ++ [192], ?_, ?_, ?_⟩
    · rw [List.nil_append, hf, after_some j _ hj]
    · rw [lst_jump _ hE]; rfl
    · rw [pay_jump _ hE, List.nil_append, upk_stuff p hp]; rfl
  · refine .inr ⟨t ++ (j ++ frm p), ?_, ?_, ?_⟩
    · rw [List.append_assoc, after_app, h1]
    · rw [lst_app, h2, hf]; exact hl1 j hj
    · rw [pay_app, h2, h3, hf, hp1 j hj, upk_err j k hk]; rfl
theorem ends_feed (s : List UInt8) (ps : List (List UInt8)) (h : Ends s ps) : feedP s = ps := by
  rcases h with ⟨rfl, rfl⟩ | ⟨t, h1, _, h3⟩
  · rfl
  · unfold feedP; rw [h1]; exact h3
theorem unR_none : unR [192, 192] = .error 6 := by
  have : contR [192, 192] = .ok [] := by
    unfold contR
    simp only [ne_eq, not_true_eq_false, if_false]
    rw [ins_mark, resR_done]
  unfold unR
  rw [this]
  rfl
/-- What is spoilt is skipped. -/
theorem feed_bad (l : List UInt8) (s : Nat) (hs : s < 65536) (hl : l.length ≤ 4096) (h : crc l ≠ s) : feedP (stuff (cont l s)) = [] := by
  have hE := esc_no (cont l s)
  unfold feedP stuff
  rw [after, if_pos rfl]
  show pay [] (esc (cont l s) ++ 192 :: []) = []
  rw [pay_jump _ hE, List.nil_append]
  have := unR_bad l s hs hl h
  unfold stuff at this
  rw [upk_err _ _ this]; rfl
/-- The bytes other than the mark. -/
def wout (l : List UInt8) : List UInt8 := l.filter (fun c => decide (c ≠ 192))
theorem wout_no (l : List UInt8) : (192 : UInt8) ∉ wout l := fun h => by
  have := (List.mem_filter.1 h).2
  simp at this
theorem wout_len (l : List UInt8) : (wout l).length ≤ l.length := List.length_filter_le _ _
theorem wout_snoc (l : List UInt8) (k : Nat) (h : k < l.length) : wout (l.take (k + 1)) = if l[k] = 192 then wout (l.take k) else wout (l.take k) ++ [l[k]] := by
  unfold wout
  rw [List.take_succ_eq_append_getElem h, List.filter_append]
  by_cases hc : l[k] = 192
  · rw [if_pos hc]; simp [hc]
  · rw [if_neg hc]; simp [hc]
theorem pay_len (t : List UInt8) : ∀ x, (pay x t).length ≤ t.length := by
  induction t with
  | nil => intro x; exact Nat.zero_le _
  | cons c t ih =>
    intro x
    rw [pay]
    by_cases hc : c = 192
    · rw [if_pos hc]
      have h1 := ih []
      have h2 : (upk x).length ≤ 1 := by unfold upk; split <;> simp
      simp; omega
    · rw [if_neg hc]; have h1 := ih (x ++ [c]); simp; omega
theorem feedP_len (s : List UInt8) : (feedP s).length ≤ s.length := by
  unfold feedP
  split
  · simp
  · rename_i t ht
    have h1 := after_len s t ht
    have h2 := pay_len t []
    omega
theorem unR_ne (l : List UInt8) (k : Int) (h : unR l = .error k) : (k != 0) = true := by
  unfold unR at h
  split at h
  · rename_i k' hc
    injection h with h
    subst h
    rcases contR_err hc with rfl | rfl <;> rfl
  · unfold sumR at h
    split at h
    · injection h with h; subst h; rfl
    · split at h
      · injection h with h; subst h; rfl
      · split at h
        · cases h
        · injection h with h; subst h; rfl
end Go.Proofs.Ytbaodpfiilmpjaa.F
