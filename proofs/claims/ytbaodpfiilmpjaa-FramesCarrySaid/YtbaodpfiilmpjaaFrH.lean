/-
  What Unpack returns, in frame and in its reference.
-/
import Derived.Test.YtbaodpfiilmpjaaFrG
namespace Go.Proofs.Ytbaodpfiilmpjaa.F
open Go.RowKit
open IntWalk

theorem contR_err {l : List UInt8} {k : Int} (h : contR l = .error k) : k = 5 ∨ k = 6 := by
  unfold contR at h
  split at h
  · injection h with h; exact .inr h.symm
  · split at h
    · injection h with h; exact .inl h.symm
    · unfold resR at h
      split at h
      · injection h with h; exact .inr h.symm
      · injection h with h; exact .inl h.symm
      · split at h
        · cases h
        · injection h with h; exact .inl h.symm
/-- What Unpack returns of a content. -/
def sumR (acc : List UInt8) : Except Int (List UInt8) :=
  if acc.length < 2 then .error 6 else if 4098 < acc.length then .error 3 else
  if crc (acc.take (acc.length - 2)) = (acc.getD (acc.length - 2) 0).toNat * 256 + (acc.getD (acc.length - 1) 0).toNat then .ok (acc.take (acc.length - 2)) else .error 7
/-- What Unpack returns. -/
def unR (l : List UInt8) : Except Int (List UInt8) :=
  match contR l with
  | .error k => .error k
  | .ok acc => sumR acc
/-- A slice into a row that was made since. -/
def Fr (w : World) (base : Nat) (v : Value) (l : List UInt8) : Prop :=
  ∃ (p : Option Addr) (c : Nat), v = .slice p l.length c ∧ l.length ≤ c ∧ c ≤ maxLen ∧ (l ≠ [] → ∃ g o cs, p = some ⟨g, o, none⟩ ∧ base ≤ g ∧ w.heap[g]? = some (.cells cs 5 (0, 0)) ∧ ∀ i (h : i < l.length), cs[o + i]? = some (bv (l[i]'h)))
theorem Fr.rd {w : World} {base : Nat} {v : Value} {l : List UInt8} (h : Fr w base v l) : RdB w v l := by
  obtain ⟨p, c, h1, h2, h3, h4⟩ := h
  refine ⟨p, c, h1, h2, h3, fun hn => ?_⟩
  obtain ⟨g, o, cs, e, _, hh, hc⟩ := h4 hn
  refine ⟨g, o, e, ?_, fun i hi => ?_⟩
  · rcases Nat.lt_or_ge g w.heap.size with hl | hl
    · exact hl
    · rw [Array.getElem?_eq_none hl] at hh; cases hh
  · rw [cell_of_row w g (o + i) _ _ (0, 0) hh]; exact hc i hi
theorem own_take {w : World} {base g cap n m c' : Nat} {l : List UInt8} (h : OwnB w base (.slice (some ⟨g, 0, none⟩) n cap) l) (hm : m ≤ l.length) (hc : m ≤ c') (hcm : c' ≤ maxLen) : Fr w base (.slice (some ⟨g, 0, none⟩) m c') (l.take m) := by
  have hlen : (l.take m).length = m := by rw [List.length_take]; omega
  refine ⟨some ⟨g, 0, none⟩, c', by rw [hlen], by omega, hcm, fun _ => ?_⟩
  rcases h.1.2 with ⟨e, _⟩ | ⟨g', cap', cur, e, h1, h2, h3, _, h5, h6⟩
  · cases e
  · injection e with e1 e2 e3
    injection e1 with e1
    injection e1 with e1
    subst e1
    refine ⟨g, 0, cur, rfl, h1, h2, fun i hi => ?_⟩
    rw [hlen] at hi
    have hi2 : i < l.length := by omega
    have : (cur.toList.take (l.length * 1))[i]? = some (bv l[i]) := by rw [h6]; simp [hi2]
    rw [List.getElem?_take] at this
    split at this
    · rw [Nat.zero_add, List.getElem_take]
      simpa using this
    · cases this
theorem own_form {w : World} {base : Nat} {v : Value} {l : List UInt8} (h : OwnB w base v l) (hl : l ≠ []) : ∃ g cap, v = .slice (some ⟨g, 0, none⟩) l.length cap ∧ l.length ≤ cap ∧ cap ≤ maxLen ∧ g < w.heap.size := by
  rcases h.1.2 with ⟨e, e2⟩ | ⟨g', cap', cur, e, h1, h2, h3, h4, _⟩
  · exact absurd (List.length_eq_zero_iff.1 e2) hl
  · exact ⟨g', cap', e, h3, h4, (h.1.lt g' (by rw [e]; rfl)).2⟩
def GivesU (w : World) (r : Except Int (List UInt8)) (e : Ending) (w' : World) : Prop :=
  (match r with
  | .ok p => ∃ v, e = .returned (.tuple #[v, .int .i64 0]) ∧ Fr w' w.heap.size v p
  | .error k => e = .returned (.tuple #[.slice none 0 0, .int .i64 k])) ∧ Below w.heap.size w w'
theorem givesU_err {w w' : World} {r : Except Int (List UInt8)} {k : Int} (h : r = .error k) (hb : Below w.heap.size w w') : GivesU w r (.returned (.tuple #[.slice none 0 0, .int .i64 k])) w' := by subst h; exact ⟨rfl, hb⟩
theorem givesU_ok {w w' : World} {r : Except Int (List UInt8)} {v : Value} {p : List UInt8} (h : r = .ok p) (ho : Fr w' w.heap.size v p) (hb : Below w.heap.size w w') : GivesU w r (.returned (.tuple #[v, .int .i64 0])) w' := by subst h; exact ⟨⟨v, rfl, ho⟩, hb⟩
theorem quiet_same {P : Program} {f : FuncId} {args : Array Value} {w : World} {n : Nat} {v : Value}
    (h : Calls P f args (w.drewN n) fun e w' => e = .returned v ∧ w.drewN n = w') : Calls P f args (w.drewN n) fun e w'' => e = .returned v ∧ ∃ m, w'' = w.drewN m :=
  h.mono fun _ _ ⟨he, hm⟩ => ⟨he, n, hm.symm⟩
theorem quiet_more {P : Program} {f : FuncId} {args : Array Value} {w : World} {a n : Nat} {v : Value}
    (h : Calls P f args (w.drewN (a + n)) fun e w' => e = .returned v ∧ w.drewN (a + n) = w') : Calls P f args (w.drewN (a + n)) fun e w'' => e = .returned v ∧ ∃ m, w'' = w.drewN (a + m) :=
  h.mono fun _ _ ⟨he, hm⟩ => ⟨he, n, hm.symm⟩
theorem b_draws {B : Nat} {w w1 : World} (h : Below B w w1) (q : Nat) : Below B w (w1.drewN q) := ⟨h.os, h.tape, h.output, h.size, h.block⟩
theorem sumR_two (P : List UInt8) (x y : UInt8) (h : P.length ≤ 4096) : sumR (P ++ [x, y]) = if crc P = x.toNat * 256 + y.toNat then .ok P else .error 7 := by
  have hl : (P ++ [x, y]).length = P.length + 2 := by simp
  unfold sumR
  rw [if_neg (by omega), if_neg (by omega), hl, show P.length + 2 - 2 = P.length by omega, show P.length + 2 - 1 = P.length + 1 by omega]
  rw [List.take_left]
  have e1 : (P ++ [x, y]).getD P.length 0 = x := by simp [List.getD_eq_getElem?_getD]
  have e2 : (P ++ [x, y]).getD (P.length + 1) 0 = y := by simp [List.getD_eq_getElem?_getD]
  rw [e1, e2]
/-- A content of two bytes or more. -/
theorem two_more (acc : List UInt8) (h : ¬ acc.length < 2) : ∃ P x y, acc = P ++ [x, y] := by
  refine ⟨acc.take (acc.length - 2), acc[acc.length - 2]'(by omega), acc[acc.length - 1]'(by omega), ?_⟩
  have h1 := List.take_append_drop (acc.length - 2) acc
  conv => lhs; rw [← h1]
  congr 1
  rw [List.drop_eq_getElem_cons (by omega)]
  congr 1
  have e : acc.length - 2 + 1 = acc.length - 1 := by omega
  rw [e, List.drop_eq_getElem_cons (by omega), show acc.length - 1 + 1 = acc.length by omega, List.drop_length]
/-- What a row of payload and checksum is to the walk. -/
theorem row_two {w : World} {base : Nat} {v : Value} {P : List UInt8} {x y : UInt8} (h : OwnB w base v (P ++ [x, y])) :
    ∃ g cap, v = .slice (some ⟨g, 0, none⟩) (P.length + 2) cap ∧ P.length + 2 ≤ cap ∧ cap ≤ 9223372036854775807 ∧ w.cell? ⟨g, P.length, none⟩ = some (.int .u8 x.toNat) ∧ w.cell? ⟨g, P.length + 1, none⟩ = some (.int .u8 y.toNat) ∧
      (∀ c, P.length ≤ c → c ≤ 9223372036854775807 → Fr w base (.slice (some ⟨g, 0, none⟩) P.length c) P) := by
  have hl : (P ++ [x, y]).length = P.length + 2 := by simp
  obtain ⟨g, cap, e, h1, h2, h3⟩ := own_form h (by simp)
  rw [hl] at e h1
  have hc := h.rd
  subst e
  obtain ⟨p, c, e, _, _, hat⟩ := hc
  obtain ⟨b, o, e2, ha⟩ := hat (by simp)
  injection e with e3 e4 e5
  rw [e2] at e3
  injection e3 with e3
  injection e3 with e3 e6
  subst e3; subst e6
  unfold maxLen at h2
  refine ⟨g, cap, rfl, h1, h2, ?_, ?_, fun c hc hcm => ?_⟩
  · have := ha.2 P.length (by rw [hl]; omega)
    rw [Nat.zero_add] at this
    rw [this]
    simp [bv]
  · have := ha.2 (P.length + 1) (by rw [hl]; omega)
    rw [Nat.zero_add] at this
    rw [this]
    simp [bv]
  · have := own_take (m := P.length) (c' := c) h (by rw [hl]; omega) hc (by unfold maxLen; omega)
    rw [List.take_left] at this
    exact this

set_option maxHeartbeats 4000000 in
set_option maxRecDepth 10000 in
theorem unpack_two (u : Value) (P : List UInt8) (x y : UInt8) (R : Except Int (List UInt8)) (w : World) (hP : P.length ≤ 4096) (CC : Hid (Calls Try.prog 29 #[u] w (Gives w (.ok (P ++ [x, y]))))) (HU : Hid (R = sumR (P ++ [x, y]))) :
    Calls Try.prog 18 #[u] w (GivesU w R) := by
  have hxb := x.toNat_lt
  have hyb := y.toNat_lt
  have hcb := crc_lt P
  have HS := sumR_two P x y hP
  have eor : bits .or .i64 ((x.toNat : Int) * 256) (y.toNat : Int) = ((x.toNat * 256 + y.toNat : Nat) : Int) := by
    have := or_i64 x.toNat y.toNat (by omega) (by omega)
    rw [Int.natCast_mul] at this
    exact this
  have CS := Lib.hid (fun W v h => sum_run v P W (by omega) h)
  obtain ⟨C, hC⟩ : ∃ C, C = crc P := ⟨_, rfl⟩
  rw [← hC] at CS HS hcb
  obtain ⟨T, hT⟩ : ∃ T, T = x.toNat * 256 + y.toNat := ⟨_, rfl⟩
  rw [← hT] at eor HS
  have hTb : T ≤ 65535 := by omega
  clear hC hT
  by_cases hcs : C = T
  · rw [if_pos hcs] at HS
    subst hcs
    have HE : Hid (R = .ok P) := Lib.hid (HU.out.trans HS)
    clear HS
    go_enter Try.func18, Try.ntmps18
    go_wp2_with fail
    refine CC.out.mono ?_
    rintro e w1 ⟨⟨v, rfl, o1⟩, b1⟩
    have B1 := Lib.hid b1
    obtain ⟨g, cap, rfl, h1, h2, c1, c2, hf⟩ := row_two o1
    have HF := Lib.hid hf
    clear b1 o1 hf
    go_wp2
    go_quiet (fail)
    go_wp2
    go_quiet ((go_at_call 14; exact quiet_more (CS.out _ _ (((HF.out P.length (Nat.le_refl _) (by omega)).rd)))))
    go_wp2
    go_ret2
    exact givesU_ok HE.out (HF.out P.length (Nat.le_refl _) (by omega)) (b_draws (b_draws B1.out _) _)
  · rw [if_neg hcs] at HS
    have HE : Hid (R = .error 7) := Lib.hid (HU.out.trans HS)
    have hz : ((C : Int) == (T : Int)) = false := by rw [beq_eq_false_iff_ne]; omega
    have hz2 : ((C : Int) != (T : Int)) = true := by rw [bne, hz]; rfl
    clear HS hcs
    go_enter Try.func18, Try.ntmps18
    go_wp2_with fail
    refine CC.out.mono ?_
    rintro e w1 ⟨⟨v, rfl, o1⟩, b1⟩
    have B1 := Lib.hid b1
    obtain ⟨g, cap, rfl, h1, h2, c1, c2, hf⟩ := row_two o1
    have HF := Lib.hid hf
    clear b1 o1 hf
    go_wp2
    go_quiet (fail)
    go_wp2
    go_quiet ((go_at_call 14; exact quiet_more (CS.out _ _ (((HF.out P.length (Nat.le_refl _) (by omega)).rd)))))
    go_wp2
    go_ret2
    exact givesU_err HE.out (b_draws (b_draws B1.out _) _)

set_option maxHeartbeats 4000000 in
set_option maxRecDepth 10000 in
theorem unpack_run (u : Value) (l : List UInt8) (w : World) (hl : l.length ≤ 100000) (hR : RdB w u l) : Calls Try.prog 18 #[u] w (GivesU w (unR l)) := by
  have CC := Lib.hid (contOf_run u l w hl hR)
  cases hr : contR l with
  | error k =>
    have HU : Hid (unR l = .error k) := Lib.hid (by unfold unR; rw [hr])
    have hk := contR_err hr
    have hz : (k == 0) = false := by rw [beq_eq_false_iff_ne]; omega
    have hz2 : (k != 0) = true := by rw [bne, hz]; rfl
    rw [hr] at CC
    clear hr hR hk
    go_enter Try.func18, Try.ntmps18
    go_wp2_with fail
    refine CC.out.mono ?_
    rintro e w1 ⟨rfl, b1⟩
    have B1 := Lib.hid b1
    clear b1
    go_wp2
    go_ret2
    exact givesU_err HU.out B1.out
  | ok acc =>
    have HU : Hid (unR l = sumR acc) := Lib.hid (by unfold unR; rw [hr])
    rw [hr] at CC
    clear hr hR
    by_cases h2 : acc.length < 2
    · have HE : Hid (unR l = .error 6) := Lib.hid (by rw [HU.out]; unfold sumR; rw [if_pos h2])
      go_enter Try.func18, Try.ntmps18
      go_wp2_with fail
      refine CC.out.mono ?_
      rintro e w1 ⟨⟨v, rfl, o1⟩, b1⟩
      have B1 := Lib.hid b1
      obtain ⟨p, c, rfl, hc1, hc2, _⟩ := o1.rd
      unfold maxLen at hc2
      clear b1 o1
      go_wp2
      go_ret2
      exact givesU_err HE.out B1.out
    by_cases h3 : 4098 < acc.length
    · have HE : Hid (unR l = .error 3) := Lib.hid (by rw [HU.out]; unfold sumR; rw [if_neg h2, if_pos h3])
      go_enter Try.func18, Try.ntmps18
      go_wp2_with fail
      refine CC.out.mono ?_
      rintro e w1 ⟨⟨v, rfl, o1⟩, b1⟩
      have B1 := Lib.hid b1
      obtain ⟨p, c, rfl, hc1, hc2, _⟩ := o1.rd
      unfold maxLen at hc2
      clear b1 o1
      go_wp2
      go_ret2
      exact givesU_err HE.out B1.out
    obtain ⟨P, x, y, rfl⟩ := two_more acc h2
    have hP : P.length ≤ 4096 := by simp at h3; omega
    exact unpack_two u P x y _ w hP CC HU
end Go.Proofs.Ytbaodpfiilmpjaa.F
