/-
  How much data a record holds, as the laws ask it.
-/
import Derived.Test.YtlnnkdnnhmeldaaFiS
namespace Go.Proofs.Ytlnnkdnnhmeldaa
open Go.RowKit
open IntWalk
set_option linter.unusedVariables false

def bigB (ls : List (List UInt8)) : Bool := decide (300 < ls.length ∨ 65536 < total ls)
theorem total_snoc (ls : List (List UInt8)) (j : Nat) (h : j < ls.length) : total (ls.take (j + 1)) = total (ls.take j) + (ls[j]).length := by
  unfold total
  rw [List.take_succ_eq_append_getElem h, List.map_append, List.sum_append]
  simp only [List.map_cons, List.map_nil, List.sum_cons, List.sum_nil, Nat.add_zero]
theorem bigB_long {ls : List (List UInt8)} (h : 300 < ls.length) : bigB ls = true := by unfold bigB; exact decide_eq_true (Or.inl h)
theorem bigB_total {ls : List (List UInt8)} (h : 65536 < total ls) : bigB ls = true := by unfold bigB; exact decide_eq_true (Or.inr h)
theorem bigB_no {ls : List (List UInt8)} (h1 : ¬ 300 < ls.length) (h2 : ¬ 65536 < total ls) : bigB ls = false := by unfold bigB; exact decide_eq_false (fun h => by omega)
theorem bigB_le {ls : List (List UInt8)} (h : bigB ls = false) : ls.length ≤ 300 ∧ total ls ≤ 65536 := by
  unfold bigB at h
  have := of_decide_eq_false h
  omega

set_option maxHeartbeats 8000000 in
set_option maxRecDepth 10000 in
theorem big_run (v : Value) (ls : List (List UInt8)) (w : World) (h : RdP w v ls) :
    Calls Try.prog 18 #[v] w fun e w' => e = .returned (.bool (bigB ls)) ∧ w' = w := by
  obtain ⟨p, c, vs, rfl, hc, hm, hlen, hps, hat⟩ := h
  unfold maxLen at hm
  by_cases hbig : 300 < ls.length
  · rw [bigB_long hbig]
    clear hat hps
    go_enter Try.func18, Try.ntmps18
    go_wp2
    go_ret
    exact ⟨rfl, rfl⟩
  · by_cases h0 : ls = []
    · subst h0
      clear hat hps
      go_enter Try.func18, Try.ntmps18
      go_wp2
      refine wp_loop_rounds 1 ?_
      rw [rounds_succ]
      go_wp2
      go_ret
      exact ⟨rfl, rfl⟩
    · obtain ⟨b, o, rfl, hbl, hcl⟩ := hat h0
      have HCL := Lib.hid hcl
      have HPS := Lib.hid hps
      have HLEN := Lib.hid hlen
      have hn : ls.length ≤ 300 := by omega
      obtain ⟨E, hE⟩ : ∃ E, E = bigB ls := ⟨_, rfl⟩
      have HE := Lib.hid hE
      rw [← hE]
      clear hat hcl h0 hps hbl hlen hE
      go_enter Try.func18, Try.ntmps18
      go_wp2
      go_loop [3, 10] (fun s i => ∃ j S : Nat, j ≤ ls.length ∧ i = .int .i64 j ∧ s = .int .i64 S ∧ Hid (S = total (ls.take j)) ∧ S ≤ 65536 * j) (fun _ i => ls.length - (intOf i).toNat)
      case atStart => exact ⟨0, 0, Nat.zero_le _, rfl, rfl, Lib.hid (by simp [total]), by omega⟩
      case round =>
        obtain ⟨j, S, hj, rfl, rfl, HS, hS⟩ := hrel
        by_cases hlt : j < ls.length
        · have hjp : j < vs.length := by have := HLEN.out; omega
          obtain ⟨d, hd⟩ : ∃ d, d = ls[j] := ⟨_, rfl⟩
          obtain ⟨u, hu⟩ : ∃ u, u = vs[j] := ⟨_, rfl⟩
          have cc := HCL.out j hjp
          have ru := HPS.out j hjp hlt
          rw [← hu] at cc
          rw [← hu, ← hd] at ru
          obtain ⟨pu, cu, rfl, hcu, hmu, _⟩ := ru
          unfold maxLen at hmu
          have HT := Lib.hid (total_snoc ls j hlt)
          rw [← hd, ← HS.out] at HT
          have HG := Lib.hid (total_get ls j hlt)
          rw [← hd] at HG
          obtain ⟨D, hD⟩ : ∃ D, D = d.length := ⟨_, rfl⟩
          rw [← hD] at cc HT HG hcu
          clear hd hu hD
          by_cases hdb : 65536 < D
          · have HF := Lib.hid (show E = true by rw [HE.out]; exact bigB_total (Nat.lt_of_lt_of_le hdb HG.out))
            go_wp2
            go_ret
            exact ⟨by rw [HF.out]; rfl, rfl⟩
          · have hj5 : S + D ≤ 65536 * (j + 1) := by omega
            go_wp2
            refine ⟨⟨j + 1, S + D, hlt, by go_num, by go_num, Lib.hid HT.out.symm, hj5⟩, by simp [intOf]; omega⟩
        · obtain rfl : j = ls.length := by omega
          have HF := Lib.hid (show S = total ls by rw [HS.out, List.take_length])
          by_cases hsb : 65536 < S
          · have HX := Lib.hid (show E = true by rw [HE.out]; exact bigB_total (by rw [← HF.out]; exact hsb))
            go_wp2
            go_ret
            exact ⟨by rw [HX.out]; simp; omega, rfl⟩
          · have HX := Lib.hid (show E = false by rw [HE.out]; exact bigB_no (by omega) (by rw [← HF.out]; exact hsb))
            go_wp2
            go_ret
            exact ⟨by rw [HX.out]; simp; omega, rfl⟩

/-- A row of the call's own that holds slices from before. -/
def OwnV (w : World) (base : Nat) (v : Value) (ls : List (List UInt8)) : Prop :=
  ∃ vs : List Value, w.ownsRow base 22 1 v vs.length vs ∧ vs.length = ls.length ∧ base ≤ w.heap.size ∧ ∀ i (h : i < vs.length) (hz : i < ls.length), RdB w (vs[i]'h) (ls[i]'hz) ∧ blk (vs[i]'h) base
theorem OwnV.none_ (w : World) (base : Nat) (h : base ≤ w.heap.size) : OwnV w base (.slice none 0 0) [] := ⟨[], World.ownsRow_nil _ _ _ _, rfl, h, fun i h => absurd h (by simp)⟩
theorem OwnV.rd {w : World} {base : Nat} {v : Value} {ls : List (List UInt8)} (h : OwnV w base v ls) : RdP w v ls := by
  obtain ⟨vs, ho, hl, hb, hf⟩ := h
  rcases ho.2 with ⟨rfl, h2⟩ | ⟨g, cap, cur, rfl, _, hh, h3, h4, _, _⟩
  · have : ls = [] := List.length_eq_zero_iff.1 (by rw [← hl]; exact h2)
    subst this
    exact rdP_nil w
  · refine ⟨some ⟨g, 0, none⟩, cap, vs, by rw [hl], by omega, h4, hl, fun i h hz => (hf i h hz).1, fun _ => ⟨g, 0, rfl, (ho.lt g rfl).2, fun i hi => ?_⟩⟩
    have := ho.cells (g := g) rfl i vs[i] (by simp [hi])
    rw [Addr.add_lit] at this
    exact this
theorem rd_one {w : World} {u : Value} {l : List UInt8} (h : RdB w u l) : u.oneCell' = true := by obtain ⟨p, c, e, _⟩ := h; rw [e]; rfl
theorem wp_appV {w : World} {ops : Array Oper} {rest : List Oper} {o : Oper} {a : Act} {Q : Exit → Act → World → Prop} (hgd : o.guard = none) (s x : Operand)
    (ho : o.op = .call { callee := .builtin .append, args := #[s, x], argTypes := #[33, 33] }) (base : Nat) (v u : Value) (ls : List (List UInt8)) (d : List UInt8) (hs : a.eval s = v) (hx : a.eval x = .slice (some ⟨w.heap.size, 0, none⟩) 1 1)
    (hv : OwnV w base v ls) (hu : RdB w u d) (hub : blk u base) (hxl : ls.length ≤ 100000)
    (h : ∀ v' w', OwnV w' base v' (ls ++ [d]) → Below base w w' → wpList Try.prog ops Q rest (a.put o.dst v') w') : wpList Try.prog ops Q (o :: rest) a (w.alloc (.cells #[u] 22)) := by
  obtain ⟨i0, hi, hz0, hz1, hz2⟩ := info_parts Try.sliceInfo
  obtain ⟨vs, hr, hl, hbs, hf⟩ := hv
  refine wpList_append_own _ hgd s x 33 ho base 22 i0 (.slice none 0 0) 1 24 Try.underlying33 hi hz0 hz1 hz2 rfl (by decide) v vs.length vs hs (hr.alloc _) ⟨w.heap.size, 0, none⟩ 1 1 [u] hx rfl (news_1 w _ _) ?_ ?_ ?_ (le_alloc hbs _) ?_
  · intro z hz
    simp only [List.mem_cons, List.mem_nil_iff, or_false] at hz
    subst hz
    exact rd_one hu
  · unfold maxLen; omega
  · omega
  · intro v' w' h1 hg _
    have hb : Below base w w' := ((Below.refl base w).alloc hbs _).grown hg (le_alloc hbs _) (fun k hk => (hr.lt k hk).1)
    refine h v' w' ⟨vs ++ [u], by rw [List.length_append]; exact h1, by simp [hl], Nat.le_trans hbs hb.size, ?_⟩ hb
    intro i hi hi'
    by_cases c : i < vs.length
    · rw [List.getElem_append_left c, List.getElem_append_left (by omega)]
      exact ⟨(hf i c (by omega)).1.below2 (hf i c (by omega)).2 hb, (hf i c (by omega)).2⟩
    · rw [List.getElem_append_right (by omega), List.getElem_append_right (by omega)]
      simp only [List.getElem_singleton]
      exact ⟨hu.below2 hub hb, hub⟩
theorem dats_take (fs : List Fd) (j : Nat) (h : j < fs.length) : dats (fs.take (j + 1)) = dats (fs.take j) ++ [(fs[j]).2] := by
  unfold dats
  rw [List.take_succ_eq_append_getElem h, List.map_append]
  rfl
set_option maxHeartbeats 8000000 in
set_option maxRecDepth 10000 in
theorem data_run (v : Value) (fs : List Fd) (w : World) (h : RdF w v fs) :
    Calls Try.prog 19 #[v] w fun e w' => ∃ u, e = .returned u ∧ RdP w' u (dats (fs.take 302)) ∧ Below w.heap.size w w' := by
  obtain ⟨p, c, ps, rfl, hc, hm, hlen, hps, hat⟩ := h
  unfold maxLen at hm
  by_cases h0 : fs = []
  · subst h0
    clear hat hps
    go_enter Try.func19, Try.ntmps19
    go_wp2
    refine wp_loop_rounds 1 ?_
    rw [rounds_succ]
    go_wp2
    go_ret
    exact ⟨_, rfl, rdP_nil _, Below.refl _ _⟩
  · obtain ⟨b, o, rfl, hbl, hcl⟩ := hat h0
    have HCL := Lib.hid hcl
    have HBL := Lib.hid hbl
    have HPS := Lib.hid hps
    have HLEN := Lib.hid hlen
    have hn : fs.length ≤ 9223372036854775807 := by omega
    clear hat hcl h0 hps hbl hlen
    go_enter Try.func19, Try.ntmps19
    go_wp2
    go_loopw [3, 7] (fun ov i wr => ∃ j : Nat, j ≤ fs.length ∧ j ≤ 301 ∧ i = .int .i64 j ∧ Hid (OwnV wr w.heap.size ov (dats (fs.take j))) ∧ Hid (Below w.heap.size w wr)) (fun _ i _ => fs.length - (intOf i).toNat)
    case atStart => exact ⟨0, Nat.zero_le _, Nat.zero_le _, rfl, Lib.hid (OwnV.none_ w _ (Nat.le_refl _)), Lib.hid (Below.refl _ _)⟩
    case round =>
      obtain ⟨j, hj, hj3, rfl, HO, HW⟩ := hrel
      by_cases hlt : j < fs.length
      · have hjp : j < ps.length := by have := HLEN.out; omega
        obtain ⟨x, hx⟩ : ∃ x, x = (fs[j]).1 := ⟨_, rfl⟩
        obtain ⟨d, hd⟩ : ∃ d, d = (fs[j]).2 := ⟨_, rfl⟩
        obtain ⟨u, hu⟩ : ∃ u, u = (ps[j]).2 := ⟨_, rfl⟩
        have cc := f_at HCL.out j hjp x u (by rw [hx]; exact (HPS.out j hjp hlt).1) hu.symm
        have ru := (HPS.out j hjp hlt).2
        rw [← hu, ← hd] at ru
        have RU := Lib.hid ru
        obtain ⟨pu, cu, rfl, _, _, _⟩ := ru
        have c2 := (HW.out.cell (p := ⟨b, o + j * 2 + 1, none⟩) HBL.out).trans cc.2
        have HD := Lib.hid (dats_take fs j hlt)
        rw [← hd] at HD
        have HR := Lib.hid (RU.out.below HW.out)
        have HBK := Lib.hid (rd_block RU.out)
        have HLL := Lib.hid (show (dats (fs.take j)).length ≤ 100000 by unfold dats; rw [List.length_map, List.length_take]; omega)
        clear cc hx hd hu
        obtain ⟨q3, c3, vs3, rfl, _, _, _, _, _⟩ := HO.out.rd
        by_cases hj301 : 300 < j
        · have HX := Lib.hid (show dats (fs.take 302) = dats (fs.take j) ++ [d] by rw [← HD.out, show j + 1 = 302 by omega])
          go_wp2_with (at_builtin; refine wp_appV (w := wr) rfl _ _ rfl w.heap.size (.slice q3 (dats (fs.take j)).length c3) (.slice pu d.length cu) (dats (fs.take j)) d rfl rfl HO.out HR.out HBK.out HLL.out ?_; intro v4 w4 o4 b4; have O4 := Lib.hid o4; have W4 := Lib.hid (HW.out.trans b4); clear o4 b4)
          go_ret
          exact ⟨_, rfl, by rw [HX.out]; exact O4.out.rd, W4.out⟩
        · go_wp2_with (at_builtin; refine wp_appV (w := wr) rfl _ _ rfl w.heap.size (.slice q3 (dats (fs.take j)).length c3) (.slice pu d.length cu) (dats (fs.take j)) d rfl rfl HO.out HR.out HBK.out HLL.out ?_; intro v4 w4 o4 b4; have O4 := Lib.hid o4; have W4 := Lib.hid (HW.out.trans b4); clear o4 b4)
          refine ⟨⟨j + 1, hlt, by omega, by go_num, Lib.hid (by rw [HD.out]; exact O4.out), W4⟩, by simp [intOf]; omega⟩
      · obtain rfl : j = fs.length := by omega
        have HX := Lib.hid (show dats (fs.take 302) = dats (fs.take fs.length) by rw [List.take_length, List.take_of_length_le (by omega)])
        go_wp2
        go_ret
        exact ⟨_, rfl, by rw [HX.out]; exact HO.out.rd, HW.out⟩
theorem bigB_dats (fs : List Fd) : bigB (dats (fs.take 302)) = bigB (dats fs) := by
  by_cases h : fs.length ≤ 302
  · rw [List.take_of_length_le h]
  · rw [bigB_long (show 300 < (dats (fs.take 302)).length by unfold dats; rw [List.length_map, List.length_take]; omega), bigB_long (show 300 < (dats fs).length by unfold dats; rw [List.length_map]; omega)]
end Go.Proofs.Ytlnnkdnnhmeldaa
