/-
  The reference's greatest: the first place of the greatest remainder that is not taken.
-/
import Derived.Test.YtjjhdbodjcffaaaDoorMonAL
import Derived.WalkKit
namespace Go.Proofs.YtjjhdbodjcffaaaDoor
open Go.RowKit
open IntWalk
set_option linter.unusedVariables false

/-- The place m comes ahead of i. -/
def bef (rs : List Int) (m i : Nat) : Prop := rs.getD i 0 < rs.getD m 0 ∨ (rs.getD i 0 = rs.getD m 0 ∧ m < i)
theorem bef_rank {rs : List Int} {m i : Nat} (hm : m < rs.length) (hi : i < rs.length) (h : bef rs m i) : rankN rs m < rankN rs i := by
  unfold rankN
  rw [dif_pos hm, dif_pos hi]
  refine rank_lt _ _ _ ((Rk.lex_iff _ _ _).2 ?_)
  unfold bef at h
  simp only [List.getD_eq_getElem?_getD, List.getElem?_eq_getElem hm, List.getElem?_eq_getElem hi, Option.getD_some] at h
  exact h
theorem bef_total (rs : List Int) (m i : Nat) (h : m ≠ i) : bef rs m i ∨ bef rs i m := by unfold bef; omega
theorem rank_inj {rs : List Int} {m i : Nat} (hm : m < rs.length) (hi : i < rs.length) (h : rankN rs m = rankN rs i) : m = i := by
  refine Classical.byContradiction fun hne => ?_
  rcases bef_total rs m i hne with b | b
  · have := bef_rank hm hi b; omega
  · have := bef_rank hi hm b; omega
theorem ord_list_any (rs : List Int) : ∃ os, OrdL rs os := by
  obtain ⟨os, h⟩ := ord_any rs (fun i => rs.getD i 0)
  have e : (List.range rs.length).map (fun i => rs.getD i 0) = rs := by
    apply List.ext_getElem
    · simp
    · intro i h1 h2; simp [h2]
  rw [e] at h
  exact ⟨os, h⟩
theorem rank_has (rs : List Int) (t : Nat) (ht : t < rs.length) : ∃ m, m < rs.length ∧ rankN rs m = t := by
  obtain ⟨os, h⟩ := ord_list_any rs
  have hl : t < os.length := by rw [h.len]; exact ht
  obtain ⟨b0, b1⟩ := h.bd os[t] (List.getElem_mem hl)
  obtain ⟨i, hi⟩ := Int.eq_ofNat_of_zero_le b0
  have hin : i < rs.length := by omega
  have h1 : (i : Int) ∈ os.take (t + 1) := by rw [List.take_succ_eq_append_getElem hl, hi]; simp
  have h2 : ¬ (i : Int) ∈ os.take t := fun hm => by
    obtain ⟨p, hp, e⟩ := List.getElem_of_mem hm
    rw [List.length_take] at hp
    rw [List.getElem_take, ← hi] at e
    have := Rk.nodup_inj h.nodup _ _ e
    omega
  have h3 := (h.take i (t + 1) hin).1 h1
  have h4 := mt (h.take i t hin).2 h2
  exact ⟨i, hin, by omega⟩
/-- The best of the first k that are not taken. -/
def Best (rs : List Int) (t k : Nat) (a : Int) : Prop :=
  (a = -1 ∧ ∀ i, i < k → rankN rs i < t) ∨ ∃ m : Nat, a = m ∧ m < k ∧ ¬ rankN rs m < t ∧ ∀ i, i < k → ¬ rankN rs i < t → i ≠ m → bef rs m i
theorem Best.start (rs : List Int) (t : Nat) : Best rs t 0 (-1) := .inl ⟨rfl, fun i h => absurd h (by omega)⟩
theorem Best.skip {rs : List Int} {t k : Nat} {a : Int} (h : Best rs t k a) (ht : rankN rs k < t) : Best rs t (k + 1) a := by
  rcases h with ⟨e, h⟩ | ⟨m, e, hm, h1, h2⟩
  · exact .inl ⟨e, fun i hi => if c : i = k then by rw [c]; exact ht else h i (by omega)⟩
  · exact .inr ⟨m, e, by omega, h1, fun i hi hn => if c : i = k then by rw [c] at hn; exact absurd ht hn else h2 i (by omega) hn⟩
theorem Best.first {rs : List Int} {t k : Nat} (h : Best rs t k (-1)) (ht : ¬ rankN rs k < t) : Best rs t (k + 1) k := by
  rcases h with ⟨e, h⟩ | ⟨m, e, hm, h1, h2⟩
  · exact .inr ⟨k, rfl, by omega, ht, fun i hi hn hne => absurd (h i (by omega)) hn⟩
  · omega
theorem Best.keep {rs : List Int} {t k m : Nat} (h : Best rs t k (m : Int)) (ht : ¬ rankN rs k < t) (hc : ¬ rs.getD m 0 < rs.getD k 0) : Best rs t (k + 1) (m : Int) := by
  rcases h with ⟨e, h⟩ | ⟨m', e, hm, h1, h2⟩
  · omega
  · obtain rfl : m = m' := by omega
    exact .inr ⟨m, rfl, by omega, h1, fun i hi hn hne => if c : i = k then by rw [c]; unfold bef; omega else h2 i (by omega) hn hne⟩
theorem Best.new {rs : List Int} {t k m : Nat} (h : Best rs t k (m : Int)) (ht : ¬ rankN rs k < t) (hc : rs.getD m 0 < rs.getD k 0) : Best rs t (k + 1) (k : Int) := by
  rcases h with ⟨e, h⟩ | ⟨m', e, hm, h1, h2⟩
  · omega
  · obtain rfl : m = m' := by omega
    refine .inr ⟨k, rfl, by omega, ht, fun i hi hn hne => ?_⟩
    by_cases c : i = m
    · rw [c]; unfold bef; omega
    · have := h2 i (by omega) hn c
      unfold bef at this ⊢; omega
theorem Best.at_ {rs : List Int} {t k m : Nat} (h : Best rs t k (m : Int)) : m < k := by
  rcases h with ⟨e, h⟩ | ⟨m', e, hm, h1, h2⟩
  · omega
  · omega
theorem Best.done {rs : List Int} {t : Nat} {a : Int} (h : Best rs t rs.length a) (ht : t < rs.length) : ∃ m : Nat, a = m ∧ m < rs.length ∧ rankN rs m = t := by
  obtain ⟨i, hi, e⟩ := rank_has rs t ht
  rcases h with ⟨e2, h⟩ | ⟨m, e2, hm, h1, h2⟩
  · have := h i hi; omega
  · refine ⟨m, e2, hm, ?_⟩
    by_cases c : i = m
    · rw [← c]; exact e
    · have := bef_rank hm hi (h2 i hi (by omega) c); omega

set_option maxHeartbeats 4000000 in
set_option maxRecDepth 100000 in
theorem great_run (rs : List Int) (g1 c1 g2 n t : Nat) (w : World) (hn : rs.length = n) (ht : t < n) (hb : n ≤ 520) (hr : ∀ x ∈ rs, 0 ≤ x ∧ x ≤ 18446744073709551615)
    (h1 : ∀ i, i < n → w.cell? ⟨g1, i, none⟩ = some (.int .u64 (rs.getD i 0))) (h2 : ∀ i, i < n → w.cell? ⟨g2, i, none⟩ = some (.bool (decide (rankN rs i < t)))) :
    Calls Tryd.prog 36 #[.slice (some ⟨g1, 0, none⟩) n c1, .slice (some ⟨g2, 0, none⟩) n n] w fun e w' => ∃ m : Nat, e = .returned (.int .i64 m) ∧ m < n ∧ rankN rs m = t ∧ ∃ q, w' = w.drewN q := by
  have H1 := Lib.hid h1
  have H2 := Lib.hid h2
  have HN := Lib.hid hn
  clear h1 h2 hn hr
  go_enter Tryd.func36, Tryd.ntmps36
  go_wp2_with fail
  go_loopw [5, 6] (fun s5 s6 wr => ∃ (k q : Nat) (a : Int), s5 = .int .i64 a ∧ s6 = .int .i64 k ∧ k ≤ n ∧ -1 ≤ a ∧ a < n ∧ Hid (Best rs t k a) ∧ wr = w.drewN q) (fun _ i _ => n - (intOf i).toNat)
  case atStart => exact ⟨0, 0, -1, rfl, rfl, Nat.zero_le _, Int.le_refl _, by omega, Lib.hid (Best.start rs t), rfl⟩
  case round =>
    obtain ⟨k, q, a, rfl, rfl, hk, a0, a1, HB, rfl⟩ := hrel
    by_cases hlt : k < n
    · have c1' := H1.out k hlt
      have c2' := H2.out k hlt
      obtain ⟨x, hx⟩ : ∃ x, rs.getD k 0 = x := ⟨_, rfl⟩
      obtain ⟨D, hD⟩ : ∃ D, decide (rankN rs k < t) = D := ⟨_, rfl⟩
      rw [hx] at c1'
      rw [hD] at c2'
      have HX := Lib.hid hx
      have HD := Lib.hid hD
      clear hx hD
      have e1 : (w.drewN q).cell? ⟨g1, k, none⟩ = some (.int .u64 x) := c1'
      have e2 : (w.drewN q).cell? ⟨g2, k, none⟩ = some (.bool D) := c2'
      have k0 : (0 : Int) ≤ (k : Int) := by omega
      have k1 : (k : Int) < (n : Int) := by omega
      clear c1' c2'
      cases D
      · have htk : ¬ rankN rs k < t := of_decide_eq_false HD.out
        have HT := Lib.hid htk
        clear htk
        by_cases ha : a < 0
        · obtain rfl : a = -1 := by omega
          obtain ⟨W, hW⟩ : ∃ W, w.drewN q = W := ⟨_, rfl⟩
          rw [hW] at e1 e2 ⊢
          have HW := Lib.hid hW
          clear hW
          go_wp2_with fail
          go_quiet (fail)
          go_wp2_with fail
          go_roundw
          case rel => exact ⟨k + 1, q + nq, k, rfl, by go_num, by omega, by omega, by omega, Lib.hid (HB.out.first HT.out), by rw [← HW.out, World.drewN_drewN]⟩
          case measure => simp [intOf]; omega
        · obtain ⟨m, rfl⟩ := Int.eq_ofNat_of_zero_le (show 0 ≤ a by omega)
          have d1 := H1.out m (by omega)
          obtain ⟨y, hy⟩ : ∃ y, rs.getD m 0 = y := ⟨_, rfl⟩
          rw [hy] at d1
          have HY := Lib.hid hy
          have e3 : (w.drewN q).cell? ⟨g1, m, none⟩ = some (.int .u64 y) := d1
          have m0 : (0 : Int) ≤ (m : Int) := by omega
          have m1 : (m : Int) < (n : Int) := by omega
          have m2 : decide ((m : Int) < 0) = false := decide_eq_false (by omega)
          clear hy d1
          obtain ⟨W, hW⟩ : ∃ W, w.drewN q = W := ⟨_, rfl⟩
          rw [hW] at e1 e2 e3 ⊢
          have HW := Lib.hid hW
          clear hW
          by_cases hc : y < x
          · have e4 : decide (y < x) = true := decide_eq_true hc
            go_wp2_with fail
            go_quiet (fail)
            go_wp2_with fail
            go_roundw
            case rel => exact ⟨k + 1, q + nq, k, rfl, by go_num, by omega, by omega, by omega, Lib.hid (HB.out.new HT.out (by rw [HX.out, HY.out]; exact hc)), by rw [← HW.out, World.drewN_drewN]⟩
            case measure => simp [intOf]; omega
          · have e4 : decide (y < x) = false := decide_eq_false hc
            go_wp2_with fail
            go_quiet (fail)
            go_wp2_with fail
            go_roundw
            case rel => exact ⟨k + 1, q + nq, m, rfl, by go_num, by omega, by omega, by omega, Lib.hid (HB.out.keep HT.out (by rw [HX.out, HY.out]; omega)), by rw [← HW.out, World.drewN_drewN]⟩
            case measure => simp [intOf]; omega
      · have htk : rankN rs k < t := of_decide_eq_true HD.out
        have HT := Lib.hid htk
        clear htk
        obtain ⟨W, hW⟩ : ∃ W, w.drewN q = W := ⟨_, rfl⟩
        rw [hW] at e1 e2 ⊢
        have HW := Lib.hid hW
        clear hW
        go_wp2_with fail
        go_quiet (fail)
        go_wp2_with fail
        go_roundw
        case rel => exact ⟨k + 1, q + nq, a, rfl, by go_num, by omega, by omega, by omega, Lib.hid (HB.out.skip HT.out), by rw [← HW.out, World.drewN_drewN]⟩
        case measure => simp [intOf]; omega
    · obtain rfl : k = n := by omega
      have hd := HB.out
      rw [← HN.out] at hd
      obtain ⟨m, rfl, hm, hrk⟩ := hd.done (by rw [HN.out]; exact ht)
      have HM := Lib.hid hrk
      have HM2 := Lib.hid (show m < k by rw [← HN.out]; exact hm)
      clear hm hrk hd
      go_wp2_with fail
      go_ret
      exact ⟨m, rfl, HM2.out, HM.out, q, rfl⟩
end Go.Proofs.YtjjhdbodjcffaaaDoor
