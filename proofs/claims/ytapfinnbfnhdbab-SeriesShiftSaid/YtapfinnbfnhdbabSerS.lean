/-
  What Shift returns, in the package series and in its reference.
-/
import Derived.Test.YtapfinnbfnhdbabSerQ
import Derived.Test.YtapfinnbfnhdbabSerR
import Derived.Laws.MakeOwn
import Derived.OwnWalk
import Derived.Deep.RegionHeld3
import Derived.Deep.AppendLies
namespace Go.Proofs.Ytapfinnbfnhdbab
open Go.RowKit
open Ser
set_option linter.unusedVariables false

def shL (l : List St) (b : Int) : List St := if validE l = 0 then (if mvOk b l then nL 0 (mvL b l) else []) else []
def shE (l : List St) (b : Int) : Int := if validE l = 0 then (if mvOk b l then 0 else 2) else validE l
theorem mvOk_all {b : Int} {l : List St} (h : ∀ j (hj : j < l.length), mvB b (l[j]'hj) = true) : mvOk b l = true := by
  unfold mvOk
  rw [List.all_eq_true]
  intro s hs
  obtain ⟨i, hi, rfl⟩ := List.mem_iff_getElem.1 hs
  exact h i hi
theorem mvOk_not {b : Int} {l : List St} (j : Nat) (hj : j < l.length) (h : mvB b (l[j]'hj) = false) : mvOk b l = false := by
  unfold mvOk
  rw [List.all_eq_false]
  exact ⟨l[j], List.getElem_mem _, by simp [h]⟩

set_option maxHeartbeats 8000000 in
set_option maxRecDepth 1000000 in
theorem shift_some (b o c : Nat) (l : List St) (m : Int) (w : World) (hl : l.length ≤ 2000000) (hne : l ≠ []) (hA : At w b o l) (hR : Rd w (.slice (some ⟨b, o, none⟩) l.length c) l) (ol : Ok l) :
    Calls Try.prog 25 #[.slice (some ⟨b, o, none⟩) l.length c, .int .i64 m] w (GivesE w (shL l m) (shE l m)) := by
  obtain ⟨i0, hi, hz0, hz1, hz2⟩ := info_parts info_step
  have V := Lib.hid (valid_any _ l w hl hR)
  have HA := Lib.hid hA
  have OL := Lib.hid ol
  have l1 := ol.len
  rw [(ok_iff l).2 ol] at V
  have HV := Lib.hid (show shL l m = if mvOk m l then nL 0 (mvL m l) else [] from if_pos ((ok_iff l).2 ol))
  have HV2 := Lib.hid (show shE l m = if mvOk m l then 0 else 2 from if_pos ((ok_iff l).2 ol))
  have hmk := fun W => run_make (P := Try.prog) W 22 30 i0 (.agg #[.int .i64 0, .int .i64 0]) Try.underlying22 hi hz0 .i64 .i64 0 l.length (by omega) (by omega) (by rw [hz2]; omega) (by omega)
  obtain ⟨C, hC⟩ : ∃ C, madeCells (Value.agg #[.int .i64 0, .int .i64 0]).cells ((l.length : Int).toNat * i0.size) = C := ⟨_, rfl⟩
  have hCs : C.size = l.length * 2 := by rw [← hC, size_madeCells, hz1]; simp
  rw [hC] at hmk
  simp only [Int.toNat_zero, Int.toNat_natCast] at hmk
  have HCS := Lib.hid hCs
  have NN := fun v W hR => normal_any v (mvL m l) W (by rw [mvL_len]; omega) hR
  have NN := Lib.hid NN
  clear hR hA ol hC hCs
  go_enter Try.func25, Try.ntmps25
  go_wp2_with fail
  refine V.out.mono ?_
  rintro e w1 ⟨rfl, h1⟩
  go_wp2_with fail
  have H1 := Lib.hid (h1.trans ((Below.refl _ _).alloc h1.size (.cells C 30)))
  have O1 : (w1.alloc (.cells C 30)).ownsRow w.heap.size 30 2 (.slice (some ⟨w1.heap.size, 0, none⟩) 0 l.length) 0 [] := World.ownsRow_made _ _ _ h1.size (by unfold maxLen; omega) HCS.out
  clear h1
  go_loopw [7, 20] (fun v i wr => ∃ k : Nat, k ≤ l.length ∧ i = .int .i64 k ∧ wr.ownsRow w.heap.size 30 2 v (mvL m (l.take k)).length (stV (mvL m (l.take k))) ∧ Below w.heap.size w wr ∧ Hid (∀ j (hj : j < l.length), j < k → mvB m (l[j]'hj) = true)) (fun _ i _ => l.length - (intOf i).toNat)
  case atStart => exact ⟨0, Nat.zero_le _, rfl, O1, H1.out, Lib.hid (fun j hj h => by omega)⟩
  case round =>
    clear O1 hmk
    obtain ⟨k, hk, rfl, hown, hb, HI⟩ := hrel
    by_cases hlt : k < l.length
    · obtain ⟨g1, g2⟩ := HA.out.get hb k hlt
      have hbd := (okS_iff _).1 (OL.out.all l[k] (List.getElem_mem _))
      have hlen : (mvL m (l.take k)).length ≤ 512 := by rw [mvL_len]; have : (l.take k).length ≤ k := List.length_take_le _ _; omega
      have htk := mvL_take m l k hlt
      obtain ⟨x1, e1⟩ : ∃ x, l[k].1 = x := ⟨_, rfl⟩
      obtain ⟨x2, e2⟩ : ∃ x, l[k].2 = x := ⟨_, rfl⟩
      rw [e1] at g1
      rw [e2] at g2
      rw [e1, e2] at htk hbd
      obtain ⟨⟨d1, d2⟩, d3, d4⟩ := hbd
      have HT := Lib.hid htk
      have HY : Hid (mvB m l[k] = decide (0 ≤ x1 + m ∧ x1 + m ≤ 268435456)) := Lib.hid (by unfold mvB; rw [e1])
      clear htk e1 e2
      have hb1 := hb.alloc (by have := hb.size; omega) (.cells #[.int .i64 x1, .int .i64 x2] 30)
      by_cases c1 : m < -x1
      · have HN := Lib.hid (mvOk_not k hlt (by rw [HY.out]; simp; omega))
        go_wp2_with fail
        go_ret2
        exact ⟨.slice none 0 0, ret_e (by rw [HV2.out, HN.out]; rfl), by rw [HV.out, HN.out]; exact Rd.nil _, hb1⟩
      · by_cases c2 : 268435456 - x1 < m
        · have HN := Lib.hid (mvOk_not k hlt (by rw [HY.out]; simp; omega))
          go_wp2_with fail
          go_ret2
          exact ⟨.slice none 0 0, ret_e (by rw [HV2.out, HN.out]; rfl), by rw [HV.out, HN.out]; exact Rd.nil _, hb1⟩
        · have HI2 : Hid (∀ j (hj : j < l.length), j < k + 1 → mvB m (l[j]'hj) = true) := Lib.hid fun j hj h => by
            by_cases c : j < k
            · exact HI.out j hj c
            · obtain rfl : j = k := by omega
              rw [HY.out]; simp; omega
          have m1 : -268435456 ≤ m := by omega
          have m2 : m ≤ 268435456 := by omega
          obtain ⟨ml, eml⟩ : ∃ ml, mvL m (l.take k) = ml := ⟨_, rfl⟩
          rw [eml] at hown hlen HT
          clear eml
          go_wp2_with (at_builtin; refine wpList_append_own _ rfl _ _ 22 rfl w.heap.size 30 i0 (.agg #[.int .i64 0, .int .i64 0]) 2 16 Try.underlying22 hi hz0 hz1 hz2 rfl (by decide) _ _ _ rfl ((hown.alloc _).alloc _) ⟨wr.heap.size + 1, 0, none⟩ 1 1 [.int .i64 (x1 + m), .int .i64 x2] rfl rfl (news_at _ _ _ _ _ (by simp)) (news_one _ _) ?c3 ?c4 ?c5 ?_)
          case c3 => unfold maxLen; omega
          case c4 => omega
          case c5 => have := hb.size; simp; omega
          intro v' w3 hown' hgrow _
          have R := own_app (Nat.le_refl _) hown hb hown' hgrow
          clear hown hown' hgrow
          go_wp2_with fail
          go_roundw
          case rel => exact ⟨k + 1, by omega, by go_num, by rw [HT.out]; exact R.1, R.2, HI2⟩
          case measure => simp [intOf]; omega
    · have HM := Lib.hid (mvOk_all fun j hj => HI.out j hj (by omega))
      have e : l.take k = l := List.take_of_length_le (by omega)
      rw [e] at hown
      go_wp2_with fail
      refine (NN.out _ _ (Rd.own hown)).mono ?_
      rintro e w5 ⟨v', rfl, ho, h5⟩
      go_wp2_with fail
      go_ret2
      exact ⟨v', ret_e (by rw [HV2.out, HM.out]; rfl), by rw [HV.out, HM.out]; exact ho, b2 (hb) h5⟩

set_option maxHeartbeats 8000000 in
set_option maxRecDepth 1000000 in
theorem refShift_some (b o c : Nat) (l : List St) (m : Int) (w : World) (hl : l.length ≤ 2000000) (hne : l ≠ []) (hA : At w b o l) (hR : Rd w (.slice (some ⟨b, o, none⟩) l.length c) l) (ol : Ok l) :
    Calls Try.prog 26 #[.slice (some ⟨b, o, none⟩) l.length c, .int .i64 m] w (GivesE w (shL l m) (shE l m)) := by
  obtain ⟨i0, hi, hz0, hz1, hz2⟩ := info_parts info_step
  have V := Lib.hid (refValid_any _ l w hl hR)
  have HA := Lib.hid hA
  have OL := Lib.hid ol
  have l1 := ol.len
  rw [(ok_iff l).2 ol] at V
  have HV := Lib.hid (show shL l m = if mvOk m l then nL 0 (mvL m l) else [] from if_pos ((ok_iff l).2 ol))
  have HV2 := Lib.hid (show shE l m = if mvOk m l then 0 else 2 from if_pos ((ok_iff l).2 ol))
  have NN := Lib.hid (fun v W hm hR => refNormal_any v (mvL m l) W (mv_ok OL.out hm) hR)
  clear hR hA ol
  go_enter Try.func26, Try.ntmps26
  go_wp2_with fail
  refine V.out.mono ?_
  rintro e w1 ⟨rfl, h1⟩
  go_wp2_with fail
  have H1 := Lib.hid h1
  clear h1
  go_loopw [7, 8] (fun v i wr => ∃ k : Nat, k ≤ l.length ∧ i = .int .i64 k ∧ wr.ownsRow w.heap.size 30 2 v (mvL m (l.take k)).length (stV (mvL m (l.take k))) ∧ Below w.heap.size w wr ∧ Hid (∀ j (hj : j < l.length), j < k → mvB m (l[j]'hj) = true)) (fun _ i _ => l.length - (intOf i).toNat)
  case atStart => exact ⟨0, Nat.zero_le _, rfl, World.ownsRow_nil _ _ _ _, H1.out, Lib.hid (fun j hj h => by omega)⟩
  case round =>
    obtain ⟨k, hk, rfl, hown, hb, HI⟩ := hrel
    by_cases hlt : k < l.length
    · obtain ⟨g1, g2⟩ := HA.out.get hb k hlt
      have hbd := (okS_iff _).1 (OL.out.all l[k] (List.getElem_mem _))
      have hlen : (mvL m (l.take k)).length ≤ 512 := by rw [mvL_len]; have : (l.take k).length ≤ k := List.length_take_le _ _; omega
      have htk := mvL_take m l k hlt
      obtain ⟨x1, e1⟩ : ∃ x, l[k].1 = x := ⟨_, rfl⟩
      obtain ⟨x2, e2⟩ : ∃ x, l[k].2 = x := ⟨_, rfl⟩
      rw [e1] at g1
      rw [e2] at g2
      rw [e1, e2] at htk hbd
      obtain ⟨⟨d1, d2⟩, d3, d4⟩ := hbd
      have HT := Lib.hid htk
      have HY : Hid (mvB m l[k] = decide (0 ≤ x1 + m ∧ x1 + m ≤ 268435456)) := Lib.hid (by unfold mvB; rw [e1])
      clear htk e1 e2
      have hb1 := hb
      by_cases c1 : m < -x1
      · have HN := Lib.hid (mvOk_not k hlt (by rw [HY.out]; simp; omega))
        go_wp2_with fail
        go_ret2
        exact ⟨.slice none 0 0, ret_e (by rw [HV2.out, HN.out]; rfl), by rw [HV.out, HN.out]; exact Rd.nil _, hb1⟩
      · by_cases c2 : 268435456 - x1 < m
        · have HN := Lib.hid (mvOk_not k hlt (by rw [HY.out]; simp; omega))
          go_wp2_with fail
          go_ret2
          exact ⟨.slice none 0 0, ret_e (by rw [HV2.out, HN.out]; rfl), by rw [HV.out, HN.out]; exact Rd.nil _, hb1⟩
        · have HI2 : Hid (∀ j (hj : j < l.length), j < k + 1 → mvB m (l[j]'hj) = true) := Lib.hid fun j hj h => by
            by_cases c : j < k
            · exact HI.out j hj c
            · obtain rfl : j = k := by omega
              rw [HY.out]; simp; omega
          have m1 : -268435456 ≤ m := by omega
          have m2 : m ≤ 268435456 := by omega
          obtain ⟨ml, eml⟩ : ∃ ml, mvL m (l.take k) = ml := ⟨_, rfl⟩
          rw [eml] at hown hlen HT
          clear eml
          have hsum : IntKind.i64.wrap (x1 + m) = x1 + m := by rw [IntKind.wrap_i64]; omega
          have ab : u7.ownBlock ≠ some b := fun h => by have := (hown.lt b h).1; have := HA.out.1; omega
          have lb : b < wr.heap.size := by have := HA.out.1; have := hb.size; omega
          go_wp2_with fail
          go_region_held3 (fun X => X.cell? ⟨b, o + k * 2, none⟩ = some (.int .i64 x1) ∧ X.cell? ⟨b, o + k * 2 + 1, none⟩ = some (.int .i64 x2))
            (first
              | go_keep
              | (go_split_ands
                 refine ⟨?_, ?_⟩
                 · (rw [hgrow.cell_far _ (by simp; omega) (Ne.symm ab)]; assumption)
                 · (rw [hgrow.cell_far _ (by simp; omega) (Ne.symm ab)]; assumption)))
            ((refine step_append_lies _ (by rfl) _ _ _ (by rfl) w.heap.size 30 i0 _ 2 16 Try.underlying22 hi hz0 hz1 hz2 rfl (by omega) u7 ml.length (stV ml) (by rfl) ((hown.alloc _).drew)
                ⟨wr.heap.size, 0, none⟩ 1 1 [.int .i64 (x1 + m), .int .i64 x2] (by rfl) (by rfl) (World.news_of_block (cs := #[.int .i64 (x1 + m), .int .i64 x2]) (t := 30) (fr := (0, 0)) (heap_alloc_new wr _)) (by simp [Value.oneCell'])
                (by omega) (by unfold maxLen; omega) (by omega) (by have := hb.size; simp; omega) (wr.heap.size + 1) (by simp) ?_; intro gg cap w1 hown1 hgrow hat hlt3))
          have R1 : w1.ownsRow w.heap.size 30 2 (.slice (some ⟨gg, 0, none⟩) (ml.length + 1) cap) (ml ++ [(x1 + m, x2)]).length (stV (ml ++ [(x1 + m, x2)])) := by rw [stV_snoc, List.length_append]; exact hown1
          have R2 : Below w.heap.size w w1 := ((hb.alloc (by have := hb.size; omega) _).drew).grown hgrow (by have := hb.size; simp; omega) (fun j hj => by have := (hown.lt j hj).1; omega)
          clear hgrow hown1 hown hat hlt3
          go_wp2_with fail
          go_roundw
          case rel => exact ⟨k + 1, by omega, by go_num, by rw [HT.out]; exact R1, R2, HI2⟩
          case measure => simp [intOf]; omega
    · have HM := Lib.hid (mvOk_all fun j hj => HI.out j hj (by omega))
      have e : l.take k = l := List.take_of_length_le (by omega)
      rw [e] at hown
      go_wp2_with fail
      refine (NN.out _ _ HM.out (Rd.own hown)).mono ?_
      rintro e w5 ⟨v', rfl, ho, h5⟩
      go_wp2_with fail
      go_ret2
      exact ⟨v', ret_e (by rw [HV2.out, HM.out]; rfl), by rw [HV.out, HM.out]; exact ho, b2 (hb) h5⟩

set_option maxHeartbeats 8000000 in
set_option maxRecDepth 1000000 in
theorem shift_nil (p : Option Addr) (c : Nat) (m : Int) (w : World) (hR : Rd w (.slice p 0 c) []) :
    Calls Try.prog 25 #[.slice p 0 c, .int .i64 m] w (GivesE w [] 0) := by
  obtain ⟨i0, hi, hz0, hz1, hz2⟩ := info_parts info_step
  have V := Lib.hid (valid_any _ [] w (Nat.zero_le _) hR)
  rw [(ok_iff []).2 ok_nil] at V
  have hmk := fun W => run_make (P := Try.prog) W 22 30 i0 (.agg #[.int .i64 0, .int .i64 0]) Try.underlying22 hi hz0 .i64 .i64 0 0 (by omega) (by omega) (by rw [hz2]; omega) (by omega)
  obtain ⟨C, hC⟩ : ∃ C, madeCells (Value.agg #[.int .i64 0, .int .i64 0]).cells ((0 : Int).toNat * i0.size) = C := ⟨_, rfl⟩
  rw [hC] at hmk
  simp only [Int.toNat_zero] at hmk
  have NN := Lib.hid (fun W a => normal_any (.slice a 0 0) [] W (Nat.zero_le _) ⟨a, 0, rfl, Nat.le_refl _, Nat.zero_le _, fun h => absurd rfl h⟩)
  clear hR hC
  go_enter Try.func25, Try.ntmps25
  go_wp2_with fail
  refine V.out.mono ?_
  rintro e w1 ⟨rfl, h1⟩
  have H1 := Lib.hid (h1.trans ((Below.refl _ _).alloc h1.size (.cells C 30)))
  clear h1
  go_wp2_with fail
  refine wp_loop_rounds 1 ?_
  rw [rounds_succ]
  go_wp2_with fail
  refine (NN.out _ _).mono ?_
  rintro e w5 ⟨v', rfl, ho, h5⟩
  go_wp2_with fail
  go_ret2
  exact ⟨v', rfl, ho, b2 H1.out h5⟩

set_option maxHeartbeats 8000000 in
set_option maxRecDepth 1000000 in
theorem refShift_nil (p : Option Addr) (c : Nat) (m : Int) (w : World) (hR : Rd w (.slice p 0 c) []) :
    Calls Try.prog 26 #[.slice p 0 c, .int .i64 m] w (GivesE w [] 0) := by
  have V := Lib.hid (refValid_any _ [] w (Nat.zero_le _) hR)
  rw [(ok_iff []).2 ok_nil] at V
  have NN := Lib.hid (fun W => refNormal_any (.slice none 0 0) [] W ok_nil (Rd.nil W))
  clear hR
  go_enter Try.func26, Try.ntmps26
  go_wp2_with fail
  refine V.out.mono ?_
  rintro e w1 ⟨rfl, h1⟩
  have H1 := Lib.hid h1
  clear h1
  go_wp2_with fail
  refine wp_loop_rounds 1 ?_
  rw [rounds_succ]
  go_wp2_with fail
  refine (NN.out _).mono ?_
  rintro e w5 ⟨v', rfl, ho, h5⟩
  go_wp2_with fail
  go_ret2
  exact ⟨v', rfl, ho, b2 H1.out h5⟩

set_option maxHeartbeats 8000000 in
set_option maxRecDepth 1000000 in
theorem shift_bad (v : Value) (l : List St) (m E : Int) (w : World) (hl : l.length ≤ 2000000) (hR : Rd w v l) (hE : validE l = E) (h0 : E ≠ 0) :
    Calls Try.prog 25 #[v, .int .i64 m] w (GivesE w [] E) := by
  have V := Lib.hid (valid_any _ l w hl hR)
  rw [hE] at V
  have he : (E == 0) = false := by simpa using h0
  clear hR h0 hE
  go_enter Try.func25, Try.ntmps25
  go_wp2_with fail
  refine V.out.mono ?_
  rintro e w1 ⟨rfl, h1⟩
  go_wp2_with fail
  go_ret2
  exact ⟨.slice none 0 0, rfl, Rd.nil _, h1⟩

set_option maxHeartbeats 8000000 in
set_option maxRecDepth 1000000 in
theorem refShift_bad (v : Value) (l : List St) (m E : Int) (w : World) (hl : l.length ≤ 2000000) (hR : Rd w v l) (hE : validE l = E) (h0 : E ≠ 0) :
    Calls Try.prog 26 #[v, .int .i64 m] w (GivesE w [] E) := by
  have V := Lib.hid (refValid_any _ l w hl hR)
  rw [hE] at V
  have he : (E == 0) = false := by simpa using h0
  clear hR h0 hE
  go_enter Try.func26, Try.ntmps26
  go_wp2_with fail
  refine V.out.mono ?_
  rintro e w1 ⟨rfl, h1⟩
  go_wp2_with fail
  go_ret2
  exact ⟨.slice none 0 0, rfl, Rd.nil _, h1⟩

theorem shift_any (v : Value) (l : List St) (m : Int) (w : World) (hl : l.length ≤ 2000000) (hR : Rd w v l) : Calls Try.prog 25 #[v, .int .i64 m] w (GivesE w (shL l m) (shE l m)) := by
  by_cases e : validE l = 0
  · have hR' := hR
    obtain ⟨p, c, rfl, h2, h3, h4⟩ := hR
    by_cases en : l = []
    · subst en; exact shift_nil p c m w hR'
    · obtain ⟨b, o, rfl, ha⟩ := h4 en; exact shift_some b o c l m w hl en ha hR' ((ok_iff l).1 e)
  · have h1 : shL l m = [] := if_neg e
    have h2 : shE l m = validE l := if_neg e
    rw [h1, h2]
    exact shift_bad v l m _ w hl hR rfl e
theorem refShift_any (v : Value) (l : List St) (m : Int) (w : World) (hl : l.length ≤ 2000000) (hR : Rd w v l) : Calls Try.prog 26 #[v, .int .i64 m] w (GivesE w (shL l m) (shE l m)) := by
  by_cases e : validE l = 0
  · have hR' := hR
    obtain ⟨p, c, rfl, h2, h3, h4⟩ := hR
    by_cases en : l = []
    · subst en; exact refShift_nil p c m w hR'
    · obtain ⟨b, o, rfl, ha⟩ := h4 en; exact refShift_some b o c l m w hl en ha hR' ((ok_iff l).1 e)
  · have h1 : shL l m = [] := if_neg e
    have h2 : shE l m = validE l := if_neg e
    rw [h1, h2]
    exact refShift_bad v l m _ w hl hR rfl e
end Go.Proofs.Ytapfinnbfnhdbab
