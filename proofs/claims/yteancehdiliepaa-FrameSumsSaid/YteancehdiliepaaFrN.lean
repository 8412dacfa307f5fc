/-
  Lists of payloads compared; the examples of the chapter.
-/
import Derived.Test.YteancehdiliepaaFrM
import Derived.Lib.SmallJoins
namespace Go.Proofs.Yteancehdiliepaa
open Go.RowKit
open IntWalk

theorem RdP.below {w w' : World} {v : Value} {ls : List (List UInt8)} (h : RdP w v ls) (hb : Below w.heap.size w w') : RdP w' v ls := by
  obtain ⟨p, c, vs, h1, h2, h3, h4, h5, h6⟩ := h
  refine ⟨p, c, vs, h1, h2, h3, h4, fun i hi hi' => (h5 i hi hi').below hb, fun hn => ?_⟩
  obtain ⟨b, o, e, hl, hc⟩ := h6 hn
  exact ⟨b, o, e, Nat.lt_of_lt_of_le hl hb.size, fun i hi => (hb.cell (p := ⟨b, o + i, none⟩) hl).trans (hc i hi)⟩
theorem RdP.draws {w : World} {v : Value} {ls : List (List UInt8)} (h : RdP w v ls) (q : Nat) : RdP (w.drewN q) v ls := h.below (b_draws (Below.refl _ w) q)
theorem RdB.draws {w : World} {v : Value} {l : List UInt8} (h : RdB w v l) (q : Nat) : RdB (w.drewN q) v l := h.below (b_draws (Below.refl _ w) q)
set_option maxHeartbeats 1000000 in
theorem sameAll_len (p q : Option Addr) (c d m n : Nat) (w : World) (h : m ≠ n) :
    Calls Try.prog 21 #[.slice p m c, .slice q n d] w fun e w' => e = .returned (.bool false) ∧ ∃ k, w' = w.drewN k := by
  have hz : ((m : Int) != (n : Int)) = true := by rw [bne_iff_ne]; omega
  have hz2 : ((m : Int) == (n : Int)) = false := by rw [beq_eq_false_iff_ne]; omega
  go_enter Try.func21, Try.ntmps21
  go_wp2
  go_ret
  exact ⟨rfl, 0, rfl⟩
set_option maxHeartbeats 1000000 in
theorem sameAll_none (p q : Option Addr) (c d : Nat) (w : World) :
    Calls Try.prog 21 #[.slice p 0 c, .slice q 0 d] w fun e w' => e = .returned (.bool true) ∧ ∃ k, w' = w.drewN k := by
  go_enter Try.func21, Try.ntmps21
  go_wp2
  refine wp_loop_rounds 1 ?_
  rw [rounds_succ]
  go_wp2
  go_ret
  exact ⟨rfl, 0, rfl⟩
set_option maxHeartbeats 2000000 in
set_option maxRecDepth 10000 in
theorem sameAll_some (b1 o1 c1 b2 o2 c2 n : Nat) (ls ms : List (List UInt8)) (vs us : List Value) (w : World) (hn : n ≤ 2000000) (hl : ls.length = n) (hm : ms.length = n) (hv : vs.length = n) (hu : us.length = n)
    (r1 : ∀ i (h : i < vs.length) (hzz : i < ls.length), RdB w (vs[i]'h) (ls[i]'hzz)) (r2 : ∀ i (h : i < us.length) (hzz : i < ms.length), RdB w (us[i]'h) (ms[i]'hzz))
    (k1 : ∀ i (h : i < vs.length), w.cell? ⟨b1, o1 + i, none⟩ = some (vs[i]'h)) (k2 : ∀ i (h : i < us.length), w.cell? ⟨b2, o2 + i, none⟩ = some (us[i]'h)) :
    Calls Try.prog 21 #[.slice (some ⟨b1, o1, none⟩) n c1, .slice (some ⟨b2, o2, none⟩) n c2] w fun e w' => e = .returned (.bool (decide (ls = ms))) ∧ ∃ k, w' = w.drewN k := by
  have R1 := Lib.hid r1
  have R2 := Lib.hid r2
  have K1 := Lib.hid k1
  have K2 := Lib.hid k2
  have HL := Lib.hid (And.intro hl (And.intro hm (And.intro hv hu)))
  clear r1 r2 k1 k2 hl hm hv hu
  go_enter Try.func21, Try.ntmps21
  go_wp2
  go_loopw [5] (fun i wr => ∃ k q : Nat, k ≤ n ∧ i = .int .i64 k ∧ wr = w.drewN q ∧ Hid (∀ j (h : j < ls.length) (hzz : j < ms.length), j < k → ls[j] = ms[j])) (fun i _ => n - (intOf i).toNat)
  case atStart => exact ⟨0, 0, Nat.zero_le _, rfl, rfl, Lib.hid (fun j _ _ h => absurd h (by omega))⟩
  case round =>
    obtain ⟨k, q, hk, rfl, rfl, HP⟩ := hrel
    by_cases hlt : k < n
    · have e1 := K1.out k (by rw [HL.out.2.2.1]; exact hlt)
      have e2 := K2.out k (by rw [HL.out.2.2.2]; exact hlt)
      have a1 := R1.out k (by rw [HL.out.2.2.1]; exact hlt) (by rw [HL.out.1]; exact hlt)
      have a2 := R2.out k (by rw [HL.out.2.2.2]; exact hlt) (by rw [HL.out.2.1]; exact hlt)
      obtain ⟨V, hV⟩ : ∃ V, V = vs[k]'(by rw [HL.out.2.2.1]; exact hlt) := ⟨_, rfl⟩
      obtain ⟨U, hU⟩ : ∃ U, U = us[k]'(by rw [HL.out.2.2.2]; exact hlt) := ⟨_, rfl⟩
      obtain ⟨X, hX⟩ : ∃ X, X = ls[k]'(by rw [HL.out.1]; exact hlt) := ⟨_, rfl⟩
      obtain ⟨Y, hY⟩ : ∃ Y, Y = ms[k]'(by rw [HL.out.2.1]; exact hlt) := ⟨_, rfl⟩
      rw [← hV] at e1 a1
      rw [← hU] at e2 a2
      rw [← hX] at a1
      rw [← hY] at a2
      have CS := Lib.hid (fun j => same_run V U X Y (w.drewN j) (a1.draws j) (a2.draws j))
      clear hV hU a1 a2
      by_cases hxy : X = Y
      · have HN : Hid (∀ j (h : j < ls.length) (hzz : j < ms.length), j < k + 1 → ls[j] = ms[j]) := Lib.hid (fun j h hzz hj => by
          by_cases e : j = k
          · subst e; rw [← hX, ← hY]; exact hxy
          · exact HP.out j h hzz (by omega))
        rw [decide_eq_true hxy] at CS
        clear hX hY hxy
        go_wp2
        go_quiet ((go_at_call 16; exact quiet_more (CS.out _)))
        go_wp2
        go_roundw
        case rel => exact ⟨k + 1, _, by omega, rfl, rfl, HN⟩
        case measure => simp [intOf]; omega
      · have HN : Hid (false = decide (ls = ms)) := Lib.hid (by
          symm; rw [decide_eq_false_iff_not]
          intro e
          subst e
          exact hxy (hX.trans hY.symm))
        rw [decide_eq_false hxy] at CS
        clear hX hY hxy
        go_wp2
        go_quiet ((go_at_call 16; exact quiet_more (CS.out _)))
        go_wp2
        go_ret
        exact ⟨bool_is HN.out, _, World.drewN_drewN _ _ _⟩
    · have HN : Hid (true = decide (ls = ms)) := Lib.hid (by
        symm; rw [decide_eq_true_iff]
        exact List.ext_getElem (by rw [HL.out.1, HL.out.2.1]) (fun j h hzz => HP.out j h hzz (by have := HL.out.1; omega)))
      go_wp2
      go_ret
      exact ⟨bool_is HN.out, _, rfl⟩
theorem sameAll_run (u v : Value) (ls ms : List (List UInt8)) (w : World) (hl : ls.length ≤ 2000000) (h1 : RdP w u ls) (h2 : RdP w v ms) :
    Calls Try.prog 21 #[u, v] w fun e w' => e = .returned (.bool (decide (ls = ms))) ∧ ∃ k, w' = w.drewN k := by
  obtain ⟨p, c, vs, rfl, _, _, hv, g1, g3⟩ := h1
  obtain ⟨q, d, us, rfl, _, _, hu, g2, g4⟩ := h2
  by_cases he : ls.length = ms.length
  · by_cases hn : ls = []
    · subst hn
      have hm0 : ms = [] := List.length_eq_zero_iff.1 he.symm
      subst hm0
      exact sameAll_none p q c d w
    · obtain ⟨b1, o1, rfl, _, a1⟩ := g3 hn
      obtain ⟨b2, o2, rfl, _, a2⟩ := g4 (fun e => hn (List.length_eq_zero_iff.1 (by rw [he, e]; rfl)))
      rw [← he]
      exact sameAll_some b1 o1 c b2 o2 d ls.length ls ms vs us w hl rfl he.symm hv (by rw [hu, he]) g1 g2 a1 a2
  · have e : decide (ls = ms) = false := by rw [decide_eq_false_iff_not]; intro e; exact he (by rw [e])
    rw [e]
    exact sameAll_len p q c d ls.length ms.length w he

/-! The examples. -/
theorem ex_crc : crc [49, 50, 51, 52, 53, 54, 55, 56, 57] = 10673 := by decide +kernel
theorem ex_frm : frm [] = [192, 255, 255, 192] := by decide +kernel
theorem ex_bad : unR [192, 0, 0, 192] = .error 7 := by
  have : contR [192, 0, 0, 192] = .ok [0, 0] := by
    unfold contR
    simp only [ne_eq, not_true_eq_false, if_false]
    rw [ins_plain 0 _ _ (by decide) (by decide), ins_plain 0 _ _ (by decide) (by decide), ins_mark, resR_done]; rfl
  have h2 := sumR_two [] 0 0 (by decide)
  rw [List.nil_append, if_neg (by decide +kernel)] at h2
  unfold unR
  rw [this]
  exact h2
theorem ex_seg : unR [192, 255, 255, 192] = .ok [] := by
  have : contR [192, 255, 255, 192] = .ok [255, 255] := by
    unfold contR
    simp only [ne_eq, not_true_eq_false, if_false]
    rw [ins_plain 255 _ _ (by decide) (by decide), ins_plain 255 _ _ (by decide) (by decide), ins_mark, resR_done]; rfl
  have h2 := sumR_two [] 255 255 (by decide)
  rw [List.nil_append, if_pos (by decide +kernel)] at h2
  unfold unR
  rw [this]
  exact h2
theorem ex_feed : feedP ([1, 192, 255] ++ [255, 192, 7]) = [[]] ∧ feedR ([1, 192, 255] ++ [255, 192, 7]) = [192, 7] := by
  have h1 : after ([1, 192, 255] ++ [255, 192, 7]) = some [255, 255, 192, 7] := by decide
  have h2 : upk [255, 255] = [[]] := by unfold upk; simp only [List.cons_append, List.nil_append, ex_seg]
  have h3 : pay [] [255, 255, 192, 7] = [[]] := by
    have := pay_jump [255, 255] (by decide) [7] []
    rw [show [255, 255] ++ 192 :: [7] = ([255, 255, 192, 7] : List UInt8) from rfl] at this
    rw [this, show [] ++ [255, 255] = ([255, 255] : List UInt8) from rfl, h2]; rfl
  have h4 : lst [] [255, 255, 192, 7] = [7] := by decide
  unfold feedP feedR
  rw [h1]
  refine ⟨h3, ?_⟩
  show (if (lst [] [255, 255, 192, 7]).length + 1 ≤ 8198 then 192 :: lst [] [255, 255, 192, 7] else []) = _
  rw [h4]; rfl

theorem after_alloc {w w1 w2 : World} {o : Obj} (h : Below w.heap.size w w1) (h2 : Below (w1.alloc o).heap.size (w1.alloc o) w2) : Below w.heap.size w w2 ∧ Below w1.heap.size w1 w2 := by
  have h3 : Below w1.heap.size w1 w2 := ((Below.refl _ w1).alloc (Nat.le_refl _) _).trans (h2.mono (by simp))
  exact ⟨bt h h3, h3⟩
theorem below_eq {w w' : World} (h : w = w') : Below w.heap.size w w' := by subst h; exact Below.refl _ _
theorem bsz {w w1 : World} (h : Below w.heap.size w w1) : w.heap.size ≤ w1.heap.size := h.size
theorem lit_rd (w : World) (l : List UInt8) (g n : Nat) (hg : g = w.heap.size) (hn : n = l.length) (hl : l.length ≤ 2000000) : RdB (w.alloc (.cells ((l.map bv).toArray) 5)) (.slice (some ⟨g, 0, none⟩) n n) l := (OwnB.new w w.heap.size n l g hg hn (Nat.le_refl _) hl).rd
theorem lit_rd_m (w : World) (l : List UInt8) (g n : Nat) (fr : Nat × Nat) (hg : g = w.heap.size) (hn : n = l.length) (hl : l.length ≤ 2000000) : RdB (w.alloc (.cells ((l.map bv).toArray) 5 fr)) (.slice (some ⟨g, 0, none⟩) n n) l := by
  subst hg hn
  refine ⟨some ⟨w.heap.size, 0, none⟩, l.length, rfl, Nat.le_refl _, by unfold maxLen; omega, fun _ => ⟨w.heap.size, 0, rfl, by simp, fun i hi => ?_⟩⟩
  rw [World.cell?_alloc_mark]
  simp [hi]
theorem rdP_one {w : World} {v : Value} {l : List UInt8} (h : RdP w v [l]) : ∃ b o c p q, v = .slice (some ⟨b, o, none⟩) 1 c ∧ 1 ≤ c ∧ c ≤ 9223372036854775807 ∧ w.cell? ⟨b, o, none⟩ = some (.slice p l.length q) := by
  obtain ⟨p, c, vs, rfl, h2, h3, h4, h5, h6⟩ := h
  obtain ⟨b, o, rfl, _, hc⟩ := h6 (by simp)
  have h0 : 0 < vs.length := by rw [h4]; simp
  obtain ⟨p, q, e, _⟩ := h5 0 h0 (by simp)
  exact ⟨b, o, c, p, q, rfl, h2, h3, by have := hc 0 h0; rw [e] at this; exact this⟩
set_option maxHeartbeats 4000000 in
set_option maxRecDepth 10000 in
theorem awake_run (w : World) : Calls Try.prog 11 #[] w fun e w' => e = .returned (.bool true) ∧ Below w.heap.size w w' := by
  have C1 := Lib.hid (pack_run (.slice none 0 0) [] w (by simp) (rdB_nil w))
  rw [ex_frm] at C1
  have C2 := Lib.hid (fun W g hg => unpack_run _ [192, 0, 0, 192] _ (by simp) (lit_rd W [192, 0, 0, 192] g 4 hg rfl (by simp)))
  rw [ex_bad] at C2
  have C3 := Lib.hid (fun W g h hg hh => feed_run _ _ [1, 192, 255] [255, 192, 7] _ (by simp) (by simp) ((lit_rd W [1, 192, 255] g 3 hg rfl (by simp)).more _) (lit_rd (W.alloc (.cells ((([1, 192, 255] : List UInt8).map bv).toArray) 5)) [255, 192, 7] h 3 hh rfl (by simp)))
  have C4 := Lib.hid (fun W g hg => sum_run _ [49, 50, 51, 52, 53, 54, 55, 56, 57] _ (by simp) (lit_rd_m W [49, 50, 51, 52, 53, 54, 55, 56, 57] g 9 (9, 10) hg rfl (by simp)))
  rw [ex_crc] at C4
  have C5 := Lib.hid (fun W v g hg h => same_run v _ [192, 255, 255, 192] [192, 255, 255, 192] (W.alloc (.cells ((([192, 255, 255, 192] : List UInt8).map bv).toArray) 5)) h (lit_rd W [192, 255, 255, 192] g 4 hg rfl (by simp)))
  have C6 := Lib.hid (fun W v g hg h => same_run v _ [192, 7] [192, 7] (W.alloc (.cells ((([192, 7] : List UInt8).map bv).toArray) 5)) h (lit_rd W [192, 7] g 2 hg rfl (by simp)))
  have kc := fun (w : World) (C : Array Value) (n c : Nat) => Lib.run_convert_bytes_const (P := Try.prog) w 22 5 C n c Try.underlying22 Try.underlying5
  go_enter Try.func11, Try.ntmps11
  go_wp2_with fail
  refine C1.out.mono ?_
  rintro e w1 ⟨⟨v1, rfl, o1⟩, b1⟩
  have R1 := Lib.hid o1.rd
  have B1 := Lib.hid b1
  clear o1 b1
  go_wp2_with fail
  refine (C2.out w1 _ rfl).mono ?_
  rintro e w2 ⟨rfl, b2⟩
  obtain ⟨b3, b4⟩ := after_alloc B1.out b2
  have B2 := Lib.hid b3
  have R2 := Lib.hid (R1.out.below b4)
  clear b2 b3 b4
  go_wp2_with fail
  refine (C3.out w2 _ _ rfl (by simp)).mono ?_
  rintro e w3 ⟨⟨r3, l3, rfl, rr, rl⟩, b3⟩
  rw [ex_feed.2] at rr
  rw [ex_feed.1] at rl
  have b3' : Below w2.heap.size w2 w3 := ((Below.refl _ w2).alloc (Nat.le_refl _) _).trans (((Below.refl _ _).alloc (Nat.le_refl _) _ |>.mono (by simp)).trans (b3.mono (by simp; omega)))
  have B3 := Lib.hid (bt B2.out b3')
  have R3 := Lib.hid (R2.out.below b3')
  have RR3 := Lib.hid rr
  obtain ⟨lb, lo, lc, lp, lq, rfl, lc1, lc2, lcell⟩ := rdP_one rl
  have RL3 := Lib.hid rl
  have LC := Lib.hid lcell
  clear b3 b3' rr rl lcell
  go_wp2_with fail
  refine (C4.out w3 _ rfl).mono ?_
  rintro e w4 ⟨rfl, hw4⟩
  obtain ⟨b5, b6⟩ := after_alloc B3.out (below_eq hw4)
  have B4 := Lib.hid b5
  have R4 := Lib.hid (R3.out.below b6)
  have RR4 := Lib.hid (RR3.out.below b6)
  have lcell := (b6.cell (p := ⟨lb, lo, none⟩) (World.block_lt_of_cell? _ _ LC.out)).trans LC.out
  have LC4 := Lib.hid lcell
  clear b5 b6 hw4 lcell
  go_wp2_with fail
  refine (C5.out w4 v1 _ rfl (R4.out.more _)).mono ?_
  rintro e w5 ⟨rfl, hw5⟩
  obtain ⟨b5, b6⟩ := after_alloc B4.out (below_eq hw5)
  have B5 := Lib.hid b5
  have RR5 := Lib.hid (RR4.out.below b6)
  have LC5 := Lib.hid ((b6.cell (p := ⟨lb, lo, none⟩) (World.block_lt_of_cell? _ _ LC4.out)).trans LC4.out)
  clear b5 b6 hw5
  go_wp2_with fail
  refine (C6.out w5 r3 _ rfl (RR5.out.more _)).mono ?_
  rintro e w6 ⟨rfl, hw6⟩
  obtain ⟨b5, b6⟩ := after_alloc B5.out (below_eq hw6)
  have B6 := Lib.hid b5
  have lc6 := (b6.cell (p := ⟨lb, lo, none⟩) (World.block_lt_of_cell? _ _ LC5.out)).trans LC5.out
  clear b5 b6 hw6
  go_wp2
  go_ret
  exact ⟨rfl, B6.out⟩
end Go.Proofs.Yteancehdiliepaa
