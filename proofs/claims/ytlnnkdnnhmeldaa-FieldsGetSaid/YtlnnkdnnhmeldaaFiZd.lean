/-
  A made row is written through; the reference's Get in a later world.
-/
import Derived.Test.YtlnnkdnnhmeldaaFiZc
namespace Go.Proofs.Ytlnnkdnnhmeldaa
open Go.RowKit
open IntWalk
set_option linter.unusedVariables false

theorem fr_set {w : World} {base g o c : Nat} {l : List UInt8} (h : Fr w base (.slice (some ⟨g, o, none⟩) l.length c) l) (j : Nat) (hj : j < l.length) (x : UInt8) :
    w.cell? ⟨g, o + j, none⟩ = some (bv (l[j]'hj)) ∧ w.frozen? ⟨g, o + j, none⟩ = false ∧ base ≤ g ∧ Fr (w.setCell ⟨g, o + j, none⟩ (bv x)) base (.slice (some ⟨g, o, none⟩) l.length c) (l.set j x) := by
  obtain ⟨p, c', e, h2, h3, h4⟩ := h
  injection e with e1 e2 e3
  subst e3
  obtain ⟨g', o', cs, e, hb, hh, hc⟩ := h4 (fun z => by rw [z] at hj; exact absurd hj (Nat.not_lt_zero _))
  rw [e] at e1
  injection e1 with e1
  injection e1 with e4 e5
  subst e4 e5
  have hsz : o + j < cs.size := by
    rcases Nat.lt_or_ge (o + j) cs.size with q | q
    · exact q
    · have := hc j hj
      rw [Array.getElem?_eq_none q] at this
      cases this
  refine ⟨by rw [cell_of_row w g (o + j) cs _ (0, 0) hh]; exact hc j hj, by simp [World.frozen?, hh], hb, some ⟨g, o, none⟩, c, by rw [List.length_set], by rw [List.length_set]; exact h2, h3, fun _ => ⟨g, o, cs.setIfInBounds (o + j) (bv x), rfl, hb, ?_, ?_⟩⟩
  · show (w.heap.modify g _)[g]? = _
    rw [Array.getElem?_modify, if_pos rfl, hh]
    rfl
  · intro i hi
    rw [List.length_set] at hi
    rw [Array.getElem?_setIfInBounds]
    by_cases e : o + j = o + i
    · obtain rfl : j = i := by omega
      rw [if_pos rfl, if_pos hsz, List.getElem_set_self]
    · rw [if_neg e, List.getElem_set_ne (by omega)]
      exact hc i hi
/-- The first bytes, one up each. -/
def bump (l : List UInt8) (j : Nat) : List UInt8 := (l.take j).map (· + 1) ++ l.drop j
theorem bump_zero (l : List UInt8) : bump l 0 = l := by simp [bump]
theorem bump_len (l : List UInt8) (j : Nat) (h : j ≤ l.length) : (bump l j).length = l.length := by
  unfold bump
  rw [List.length_append, List.length_map, List.length_take, List.length_drop]
  omega
theorem bump_get (l : List UInt8) (j : Nat) (h : j < l.length) (h2 : j < (bump l j).length) : (bump l j)[j] = l[j] := by
  have e : (bump l j)[j]? = some l[j] := by
    unfold bump
    have e0 : ((l.take j).map (· + 1)).length = j := by rw [List.length_map, List.length_take]; omega
    rw [List.getElem?_append_right (by omega), e0, Nat.sub_self, List.getElem?_drop, Nat.add_zero, List.getElem?_eq_getElem h]
  rw [List.getElem?_eq_getElem h2] at e
  injection e
theorem bump_step (l : List UInt8) (j : Nat) (h : j < l.length) : (bump l j).set j (l[j] + 1) = bump l (j + 1) := by
  unfold bump
  have e : ((l.take j).map (· + 1)).length = j := by rw [List.length_map, List.length_take]; omega
  rw [List.set_append_right _ _ (by omega), e, Nat.sub_self, List.drop_eq_getElem_cons h, List.take_succ_eq_append_getElem h, List.map_append, List.append_assoc]
  rfl
theorem bump_ne (l : List UInt8) (h : l ≠ []) : ¬ l = bump l l.length := by
  intro e
  unfold bump at e
  rw [List.take_length, List.drop_length, List.append_nil] at e
  cases l with
  | nil => exact h rfl
  | cons a l =>
    rw [List.map_cons] at e
    injection e with e _
    have : a.toNat = (a.toNat + 1) % 256 := by
      have q := congrArg UInt8.toNat e
      rw [UInt8.toNat_add] at q
      exact q
    have := a.toNat_lt
    omega
theorem bv_succ (a : UInt8) : IntKind.u8.wrap (((a.toNat : Nat) : Int) + 1) = (((a + 1).toNat : Nat) : Int) := by
  rw [UInt8.toNat_add]
  show _ = (((a.toNat + 1) % 256 : Nat) : Int)
  rw [IntKind.wrap_u8]
  omega
set_option maxHeartbeats 8000000 in
set_option maxRecDepth 10000 in
theorem rget_later (v : Value) (fs : List Fd) (tag : Int) (w W : World) (h : RdF w v fs) (hb : Below w.heap.size w W) (hl : fs.length ≤ 100000) :
    Calls Try.prog 26 #[v, .int .i64 tag] W (fun e w' => ∃ u, e = .returned (.tuple #[u, .bool (getR fs tag).isSome]) ∧ RdB w u ((getR fs tag).getD []) ∧ w' = W) := by
  have HB := Lib.hid hb
  obtain ⟨p, c, ps, rfl, hc, hm, hlen, hps, hat⟩ := h
  obtain ⟨G, hG⟩ : ∃ G, G = getR fs tag := ⟨_, rfl⟩
  have HG := Lib.hid hG
  rw [← hG]
  have HAT := Lib.hid hat
  have HPS := Lib.hid hps
  have HLEN := Lib.hid hlen
  clear hG hat hps hlen hb
  go_enter Try.func26, Try.ntmps26
  go_wp2_with fail
  go_loop [6] (fun i => ∃ j : Nat, j ≤ fs.length ∧ i = .int .i64 j ∧ Hid (G = getR (fs.drop j) tag)) (fun i => fs.length - (intOf i).toNat)
  case atStart => exact ⟨0, Nat.zero_le _, rfl, HG⟩
  case round =>
    obtain ⟨j, hj, rfl, HGG⟩ := hrel
    clear HG
    by_cases hlt : j < fs.length
    · obtain ⟨b, o, rfl, hbl, hcl⟩ := HAT.out (fun e => by rw [e] at hlt; exact absurd hlt (Nat.not_lt_zero _))
      have hjp : j < ps.length := by have := HLEN.out; omega
      obtain ⟨x, hx⟩ : ∃ x, x = (fs[j]).1 := ⟨_, rfl⟩
      obtain ⟨d, hd⟩ : ∃ d, d = (fs[j]).2 := ⟨_, rfl⟩
      obtain ⟨u, hu⟩ : ∃ u, u = (ps[j]).2 := ⟨_, rfl⟩
      have cc := f_at hcl j hjp x u (by rw [hx]; exact (HPS.out j hjp hlt).1) hu.symm
      have ru := (HPS.out j hjp hlt).2
      rw [← hu, ← hd] at ru
      have RU := Lib.hid ru
      obtain ⟨pu, cu, rfl, _, _, _⟩ := ru
      have c1 := (HB.out.cell (p := ⟨b, o + j * 2, none⟩) hbl).trans cc.1
      have c2 := (HB.out.cell (p := ⟨b, o + j * 2 + 1, none⟩) hbl).trans cc.2
      have HD := Lib.hid (getR_drop fs tag j hlt)
      rw [← hx, ← hd] at HD
      clear cc hx hd hu hcl HAT
      by_cases hxt : x = tag
      · have HF := Lib.hid (show G = some d by rw [HGG.out, HD.out, if_pos hxt])
        have hz : (x == tag) = true := by simpa using hxt
        clear hxt
        go_wp2_with fail
        go_ret2
        rw [HF.out]
        exact ⟨_, rfl, RU.out, rfl⟩
      · have HF := Lib.hid (show G = getR (fs.drop (j + 1)) tag by rw [HGG.out, HD.out, if_neg hxt])
        have hz : (x == tag) = false := by simpa using hxt
        clear hxt
        go_wp2_with fail
        refine ⟨⟨j + 1, hlt, by go_num, HF⟩, by simp [intOf]; omega⟩
    · obtain rfl : j = fs.length := by omega
      have HF := Lib.hid (show G = none by rw [HGG.out, List.drop_length]; rfl)
      go_wp2
      go_ret2
      rw [HF.out]
      exact ⟨_, rfl, rdB_nil _, rfl⟩
end Go.Proofs.Ytlnnkdnnhmeldaa
