/-
  An append of a slice, nil let in; the reference's Content, Stuff, Pack, Same.
-/
import Derived.Test.YteancehdiliepaaFrD
import Derived.Laws.IdiomStrings
import Derived.Laws.BytesArg
namespace Go.Proofs.Yteancehdiliepaa
open Go.RowKit
open IntWalk

theorem bool_is {a b : Bool} (h : a = b) : Ending.returned (.bool a) = .returned (.bool b) := by rw [h]
theorem str_of (w : World) (v : Value) (l : List UInt8) (h : RdB w v l) : (convert 22 9 v).run Try.prog w = .ok (.string ⟨l.toArray⟩) w := by
  obtain ⟨p, c, rfl, h2, h3, h4⟩ := h
  by_cases hn : l = []
  · subst hn
    cases p with
    | none => exact run_convert_bytes_nil (P := Try.prog) (w := w) 22 5 Try.underlying22 Try.underlying5 0 c 9 Try.underlying9
    | some a => exact run_convert_bytes_back (P := Try.prog) w 22 9 5 a c [] Try.underlying22 Try.underlying5 Try.underlying9 (fun j hj => absurd hj (by simp))
  · obtain ⟨b, o, rfl, ha⟩ := h4 hn
    exact run_convert_bytes_back (P := Try.prog) w 22 9 5 ⟨b, o, none⟩ c l Try.underlying22 Try.underlying5 Try.underlying9 (fun j hj => by rw [Addr.add_lit]; exact ha.2 j hj)
set_option maxHeartbeats 1000000 in
theorem same_run (u v : Value) (l m : List UInt8) (w : World) (h1 : RdB w u l) (h2 : RdB w v m) :
    Calls Try.prog 16 #[u, v] w fun e w' => e = .returned (.bool (decide (l = m))) ∧ w = w' := by
  have c1 := str_of w u l h1
  have c2 := str_of w v m h2
  clear h1 h2
  by_cases h : l = m
  · subst h
    rw [decide_eq_true rfl]
    go_enter Try.func16, Try.ntmps16
    go_wp2
    go_ret
    exact ⟨rfl, rfl⟩
  · rw [decide_eq_false h]
    have hz : (l == m) = false := by simpa using h
    clear h
    go_enter Try.func16, Try.ntmps16
    go_wp2
    go_ret
    exact ⟨rfl, rfl⟩

/-! An append of a slice that came in. -/
theorem run_app (w : World) (ty : TypeId) (base : Nat) (v u : Value) (xs l : List UInt8) (hv : OwnB w base v xs) (hu : RdB w u l) (hx : xs.length ≤ 2000000) (hl : l.length ≤ 2000000) :
    ∃ v' w', (Builtin.append_ #[22, 22] ty #[v, u]).run Try.prog w = .ok v' w' ∧ OwnB w' base v' (xs ++ l) ∧ w.grownBy w' v.ownBlock ∧ (v'.ownBlock = v.ownBlock ∨ v'.ownBlock = some w.heap.size) := by
  obtain ⟨i0, hi, hz0, hz1, hz2⟩ := info_parts Try.byteInfo
  obtain ⟨p, c, rfl, h2, h3, h4⟩ := hu
  have key : ∀ ad : Addr, p = some ad → (∀ j u, (l.map bv)[j]? = some u → w.cell? (ad.add j) = some u) →
      ∃ v' w', (Builtin.append_ #[22, 22] ty #[v, .slice (some ad) l.length c]).run Try.prog w = .ok v' w' ∧ OwnB w' base v' (xs ++ l) ∧ w.grownBy w' v.ownBlock ∧ (v'.ownBlock = v.ownBlock ∨ v'.ownBlock = some w.heap.size) := by
    intro ad _ hc
    obtain ⟨v', w', hr, g2, g3, _, g5⟩ := run_append_own_at (P := Try.prog) w base 22 ty 5 i0 (.int .u8 0) 1 1 Try.underlying22 hi hz0 hz1 hz2 rfl (by decide) v xs.length (xs.map bv) hv.1 ad l.length c (l.map bv) (by simp) hc (bv_one l) (by unfold maxLen; omega) (by omega) hv.2
    refine ⟨v', w', hr, ⟨?_, Nat.le_trans hv.2 g3.size⟩, g3, g5⟩
    rw [List.length_append, List.map_append]
    exact g2
  cases p with
  | some ad =>
    refine key ad rfl ?_
    intro j u hj
    by_cases hn : l = []
    · subst hn; simp at hj
    · obtain ⟨b, o, e, ha⟩ := h4 hn
      injection e with e
      subst e
      have hjl : j < l.length := by have := (List.getElem?_eq_some_iff.1 hj).1; simpa using this
      rw [Addr.add_lit, ha.2 j hjl, ← hj]
      simp [hjl]
  | none =>
    have hn : l = [] := by
      by_cases hn : l = []
      · exact hn
      · obtain ⟨b, o, e, _⟩ := h4 hn; cases e
    subst hn
    refine ⟨v, w, ?_, by simpa using hv, World.grownBy.refl w _, .inl rfl⟩
    rcases hv.1.2 with ⟨rfl, _⟩ | ⟨g, cap, cur, rfl, _, _, hnc, _⟩
    · simp [Builtin.append_, run_underlying Try.underlying22, sizeOf, typeInfo, hi, Builtin.lenOf, Builtin.firstCells]
    · simp [Builtin.append_, run_underlying Try.underlying22, sizeOf, typeInfo, hi, Builtin.lenOf, Builtin.firstCells, hnc, storeCells]
theorem wp_app {w : World} {ops : Array Oper} {rest : List Oper} {o : Oper} {a : Act} {Q : Exit → Act → World → Prop} (hgd : o.guard = none) (s x : Operand)
    (ho : o.op = .call { callee := .builtin .append, args := #[s, x], argTypes := #[22, 22] }) (base : Nat) (v u : Value) (xs l : List UInt8) (hs : a.eval s = v) (hx : a.eval x = u)
    (hv : OwnB w base v xs) (hu : RdB w u l) (hxl : xs.length ≤ 2000000) (hl : l.length ≤ 2000000)
    (h : ∀ v' w', OwnB w' base v' (xs ++ l) → w.grownBy w' v.ownBlock → (v'.ownBlock = v.ownBlock ∨ v'.ownBlock = some w.heap.size) → wpList Try.prog ops Q rest (a.put o.dst v') w') : wpList Try.prog ops Q (o :: rest) a w := by
  refine wpList_plain hgd fun K hK => ?_
  obtain ⟨v', w', hr, h2, h3, h5⟩ := run_app w o.type base v u xs l hv hu hxl hl
  unfold Oper.wp execOp
  simp only [ho, resolve, invoke, builtin, Sem.run_bind, Sem.run_pure, Result.andThen_ok, List.map_toArray, List.map_cons, List.map_nil, hs, hx, hr]
  exact hK _ _ (h v' w' h2 h3 h5)
theorem grown_below {w w1 : World} {base : Nat} {v : Value} {xs : List UInt8} (hv : OwnB w base v xs) (hg : w.grownBy w1 v.ownBlock) : Below base w w1 := (Below.refl base w).grown hg hv.2 (fun k hk => (hv.1.lt k hk).1)
theorem rd_len {w : World} {u : Value} {l : List UInt8} (h : RdB w u l) : l.length ≤ maxLen := by obtain ⟨_, _, _, h2, h3, _⟩ := h; omega

theorem lit_two (w : World) (x y : Value) (a b : UInt8) (hx : x = bv a) (hy : y = bv b) : RdB (w.alloc (.cells #[x, y] 5)) (.slice (some ⟨w.heap.size, 0, none⟩) 2 2) [a, b] := by
  subst hx; subst hy
  exact (OwnB.new w w.heap.size 2 [a, b] _ rfl rfl (Nat.le_refl _) (by simp)).rd
theorem lit_one (w : World) (x : Value) (a : UInt8) (hx : x = bv a) : RdB (w.alloc (.cells #[x] 5)) (.slice (some ⟨w.heap.size, 0, none⟩) 1 1) [a] := by
  subst hx
  exact (OwnB.new w w.heap.size 1 [a] _ rfl rfl (Nat.le_refl _) (by simp)).rd
set_option maxHeartbeats 2000000 in
set_option maxRecDepth 10000 in
theorem content_run (u : Value) (l : List UInt8) (S : Nat) (w : World) (hl : l.length ≤ 100000) (hS : S < 65536) (hR : RdB w u l) :
    Calls Try.prog 24 #[u, .int .i64 (S : Int)] w fun e w' => (∃ v, e = .returned v ∧ OwnB w' w.heap.size v (cont l S)) ∧ Below w.heap.size w w' := by
  have EH : Hid (Value.int .u8 ((S : Int) / 256) = bv (hiB S)) := Lib.hid (by unfold bv; rw [hiB_nat S hS]; rfl)
  have EL : Hid (Value.int .u8 ((S : Int) % 256) = bv (loB S)) := Lib.hid (by unfold bv; rw [loB_nat S]; rfl)
  have O0 := OwnB.none_ w w.heap.size (Nat.le_refl _)
  go_enter Try.func24, Try.ntmps24
  go_wp2_with (first
    | (at_builtin; refine wp_app rfl _ _ rfl w.heap.size _ _ [] l rfl rfl O0 hR (by simp) (by omega) ?_; intro v1 w1 o1 g1 _; have b1 := grown_below O0 g1)
    | (at_builtin; refine wp_app rfl _ _ rfl w.heap.size _ _ ([] ++ l) [hiB S, loB S] rfl rfl (o1.more _) (lit_two w1 _ _ _ _ EH.out EL.out) (by simp; omega) (by simp) ?_; intro v2 w2 o2 g2 _; have b2 := (b1.alloc o1.2 _).trans (grown_below (o1.more _) g2)))
  go_ret
  exact ⟨⟨_, rfl, o2⟩, b2⟩

/-- The walk of a row that grows: what the reference's Stuff leaves. -/
theorem stuff_parts (l : List UInt8) : [192] ++ esc l ++ [192] = stuff l := by unfold stuff; simp
set_option maxHeartbeats 4000000 in
set_option maxRecDepth 10000 in
theorem stuff_some (b o c : Nat) (l : List UInt8) (w : World) (hl : l.length ≤ 100000) (hR : AtB w b o l) :
    Calls Try.prog 23 #[.slice (some ⟨b, o, none⟩) l.length c] w fun e w' => (∃ v', e = .returned v' ∧ OwnB w' w.heap.size v' (stuff l)) ∧ Below w.heap.size w w' := by
  have HR := Lib.hid hR
  have hbw := hR.1
  obtain ⟨i0, hi, hz0, hz1, hz2⟩ := info_parts Try.byteInfo
  clear hR
  have O1 := Lib.hid (OwnB.new w w.heap.size 1 [192] _ rfl rfl (Nat.le_refl _) (by decide))
  have B1 : Hid (Below w.heap.size w (w.alloc (.cells (([192] : List UInt8).map bv).toArray 5))) := Lib.hid ((Below.refl _ w).alloc (Nat.le_refl _) _)
  go_enter Try.func23, Try.ntmps23
  go_wp2
  go_loopw [3, 4] (fun v i wr => ∃ (k : Nat), k ≤ l.length ∧ i = .int .i64 k ∧ OwnB wr w.heap.size v ([192] ++ esc (l.take k)) ∧ Below w.heap.size w wr) (fun _ i _ => l.length - (intOf i).toNat)
  case atStart => exact ⟨0, Nat.zero_le _, rfl, O1.out, B1.out⟩
  case round =>
    obtain ⟨k, hk, rfl, hown, hbl⟩ := hrel
    by_cases hlt : k < l.length
    · have hc := (HR.out.below hbl hbw).2 k hlt
      have hs := esc_snoc l k hlt
      have hlen := (esc_len (l.take k)).2
      rw [List.length_take] at hlen
      obtain ⟨x, hx2⟩ : ∃ x, x = l[k] := ⟨_, rfl⟩
      rw [← hx2] at hc hs
      unfold bv at hc
      obtain ⟨ys, hys⟩ : ∃ ys, ys = [192] ++ esc (l.take k) := ⟨_, rfl⟩
      have hyl : ys.length ≤ 1200000 := by rw [hys, List.length_append]; simp; omega
      have HS : Hid ([192] ++ esc (l.take (k + 1)) = ys ++ esc1 x) := Lib.hid (by rw [hs, hys, List.append_assoc])
      rw [← hys] at hown
      have hw0 := hown.2
      have HB := Lib.hid hbl
      have hown1 := hown.1
      clear hs hx2 hys hbl hown hlen
      by_cases h1 : x = 192
      · subst h1
        have E1 : Hid (esc1 192 = [219, 220]) := Lib.hid rfl
        go_wp2_with (at_builtin; refine wpList_append_own_at _ rfl _ _ 22 rfl w.heap.size 5 i0 (.int .u8 0) 1 1 Try.underlying22 hi hz0 hz1 hz2 rfl (by decide) _ _ _ rfl (hown1.alloc _) ⟨wr.heap.size, 0, none⟩ 2 2 [.int .u8 219, .int .u8 220] rfl rfl (lit_cells wr [.int .u8 219, .int .u8 220] _) (bv_one [219, 220]) (by unfold maxLen; omega) (by omega) (le_alloc hw0 _) ?_; intro v' w1 hown' hgrow _ _)
        obtain ⟨o1, o2⟩ := own_more ⟨hown1, hw0⟩ (news := [219, 220]) rfl rfl hown' hgrow
        have O := Lib.hid (And.intro o1 (HB.out.trans o2))
        clear o1 o2 hown' hgrow hown1
        go_wp2
        go_roundw
        case rel => exact ⟨k + 1, by omega, by go_num, by rw [HS.out, E1.out]; exact O.out.1, O.out.2⟩
        case measure => simp [intOf]; omega
      · by_cases h2 : x = 219
        · subst h2
          have E1 : Hid (esc1 219 = [219, 221]) := Lib.hid rfl
          go_wp2_with (at_builtin; refine wpList_append_own_at _ rfl _ _ 22 rfl w.heap.size 5 i0 (.int .u8 0) 1 1 Try.underlying22 hi hz0 hz1 hz2 rfl (by decide) _ _ _ rfl (hown1.alloc _) ⟨wr.heap.size, 0, none⟩ 2 2 [.int .u8 219, .int .u8 221] rfl rfl (lit_cells wr [.int .u8 219, .int .u8 221] _) (bv_one [219, 221]) (by unfold maxLen; omega) (by omega) (le_alloc hw0 _) ?_; intro v' w1 hown' hgrow _ _)
          obtain ⟨o1, o2⟩ := own_more ⟨hown1, hw0⟩ (news := [219, 221]) rfl rfl hown' hgrow
          have O := Lib.hid (And.intro o1 (HB.out.trans o2))
          clear o1 o2 hown' hgrow hown1
          go_wp2
          go_roundw
          case rel => exact ⟨k + 1, by omega, by go_num, by rw [HS.out, E1.out]; exact O.out.1, O.out.2⟩
          case measure => simp [intOf]; omega
        · have e1 := bne_ x 192 h1
          have e2 := bne_ x 219 h2
          have E1 : Hid (esc1 x = [x]) := Lib.hid (by unfold esc1; rw [if_neg h1, if_neg h2])
          have hxb := x.toNat_lt
          obtain ⟨y, hy⟩ : ∃ y, y = x.toNat := ⟨_, rfl⟩
          have HY : Hid ([.int .u8 (y : Int)] = [x].map bv) := Lib.hid (by rw [hy]; rfl)
          rw [← hy] at hc e1 e2 hxb
          rw [show (((192 : UInt8).toNat : Nat) : Int) = 192 from rfl] at e1
          rw [show (((219 : UInt8).toNat : Nat) : Int) = 219 from rfl] at e2
          clear hy h1 h2
          go_wp2_with (at_builtin; refine wpList_append_own_at _ rfl _ _ 22 rfl w.heap.size 5 i0 (.int .u8 0) 1 1 Try.underlying22 hi hz0 hz1 hz2 rfl (by decide) _ _ _ rfl (hown1.alloc _) ⟨wr.heap.size, 0, none⟩ 1 1 [.int .u8 (y : Int)] rfl rfl (lit_cells wr [.int .u8 (y : Int)] _) (by intro u hu; simp at hu; subst hu; rfl) (by unfold maxLen; omega) (by omega) (le_alloc hw0 _) ?_; intro v' w1 hown' hgrow _ _)
          obtain ⟨o1, o2⟩ := own_more ⟨hown1, hw0⟩ (news := [x]) HY.out rfl hown' hgrow
          have O := Lib.hid (And.intro o1 (HB.out.trans o2))
          clear o1 o2 hown' hgrow hown1
          go_wp2
          go_roundw
          case rel => exact ⟨k + 1, by omega, by go_num, by rw [HS.out, E1.out]; exact O.out.1, O.out.2⟩
          case measure => simp [intOf]; omega
    · obtain rfl : k = l.length := by omega
      rw [List.take_length] at hown
      have HO := Lib.hid hown
      have HB := Lib.hid hbl
      have hown1 := hown.1
      have hw0 := hown.2
      have hln : ([192] ++ esc l).length ≤ 300000 := by rw [List.length_append]; have := (esc_len l).2; simp; omega
      obtain ⟨ys, hys⟩ : ∃ ys, ys = [192] ++ esc l := ⟨_, rfl⟩
      have HP : Hid (ys ++ [192] = stuff l) := Lib.hid (by rw [hys, stuff_parts])
      rw [← hys] at hown1 hln HO
      clear hown hbl hys
      go_wp2_with (at_builtin; refine wpList_append_own_at _ rfl _ _ 22 rfl w.heap.size 5 i0 (.int .u8 0) 1 1 Try.underlying22 hi hz0 hz1 hz2 rfl (by decide) _ _ _ rfl (hown1.alloc _) ⟨wr.heap.size, 0, none⟩ 1 1 [.int .u8 192] rfl rfl (lit_cells wr [.int .u8 192] _) (bv_one [192]) (by unfold maxLen; omega) (by omega) (le_alloc hw0 _) ?_; intro v' w4 hown' hgrow _ _)
      obtain ⟨o1, o2⟩ := own_more HO.out (news := [192]) rfl rfl hown' hgrow
      rw [HP.out] at o1
      have O := Lib.hid (And.intro o1 (HB.out.trans o2))
      clear o1 o2 hown' hgrow hown1
      go_wp2
      go_ret
      exact ⟨⟨_, rfl, O.out.1⟩, O.out.2⟩
set_option maxHeartbeats 1000000 in
set_option maxRecDepth 10000 in
theorem rpack_big (p : Option Addr) (n c : Nat) (w : World) (h : 4096 < n) (hc : n ≤ maxLen) :
    Calls Try.prog 15 #[.slice p n c] w fun e w' => e = .returned (.tuple #[.slice none 0 0, .int .i64 3]) ∧ w = w' := by
  unfold maxLen at hc
  go_enter Try.func15, Try.ntmps15
  go_wp2
  go_ret2
  exact ⟨rfl, rfl⟩
theorem stuff_run (u : Value) (l : List UInt8) (w : World) (hl : l.length ≤ 100000) (hn : l ≠ []) (hR : RdB w u l) :
    Calls Try.prog 23 #[u] w fun e w' => (∃ v', e = .returned v' ∧ OwnB w' w.heap.size v' (stuff l)) ∧ Below w.heap.size w w' := by
  obtain ⟨p, c, rfl, _, _, h⟩ := hR
  obtain ⟨b, o, rfl, ha⟩ := h hn
  exact stuff_some b o c l w hl ha
theorem own_down {w w1 : World} {v : Value} {l : List UInt8} (h : OwnB w1 w.heap.size v l) : RdB w1 v l := h.rd
theorem own_base {w : World} {base base' : Nat} {v : Value} {l : List UInt8} (h : OwnB w base v l) (hb : base' ≤ base) : OwnB w base' v l := by
  refine ⟨⟨h.1.1, ?_⟩, Nat.le_trans hb h.2⟩
  rcases h.1.2 with h1 | ⟨g, cap, cur, h1, h2, h3⟩
  · exact .inl h1
  · exact .inr ⟨g, cap, cur, h1, by omega, h3⟩
theorem bt {w w1 w2 : World} (h1 : Below w.heap.size w w1) (h2 : Below w1.heap.size w1 w2) : Below w.heap.size w w2 := h1.trans (h2.mono h1.size)
theorem cont_len (l : List UInt8) (s : Nat) : (cont l s).length = l.length + 2 := by simp [cont]
theorem cont_ne (l : List UInt8) (s : Nat) : cont l s ≠ [] := by simp [cont]

set_option maxHeartbeats 1000000 in
set_option maxRecDepth 10000 in
theorem rpack_run (u : Value) (l : List UInt8) (w : World) (hl : l.length ≤ 4096) (hR : RdB w u l) :
    Calls Try.prog 15 #[u] w fun e w' => (∃ v, e = .returned (.tuple #[v, .int .i64 0]) ∧ OwnB w' w.heap.size v (frm l)) ∧ Below w.heap.size w w' := by
  have HR := Lib.hid hR
  obtain ⟨p, c, rfl, _, hcm, _⟩ := hR
  unfold maxLen at hcm
  have CS := Lib.hid (fun W h => rsum_run (.slice p l.length c) l W (by omega) h)
  have hs := crc_lt l
  have CC := Lib.hid (fun W h => content_run (.slice p l.length c) l (crc l) W (by omega) hs h)
  have CT := Lib.hid (fun (W : World) v h => stuff_run v (cont l (crc l)) W (by rw [cont_len]; omega) (cont_ne _ _) h)
  obtain ⟨S, hS⟩ : ∃ S, S = crc l := ⟨_, rfl⟩
  rw [← hS] at CS CC CT hs
  have HF : Hid (stuff (cont l S) = frm l) := Lib.hid (by rw [hS]; rfl)
  clear hS
  go_enter Try.func15, Try.ntmps15
  go_wp2_with fail
  refine (CS.out _ HR.out).mono ?_
  rintro e w1 ⟨rfl, rfl⟩
  go_wp2_with fail
  refine (CC.out _ HR.out).mono ?_
  rintro e w2 ⟨⟨v2, rfl, o2⟩, b2⟩
  have O2 := Lib.hid o2
  have B2 := Lib.hid b2
  clear o2 b2
  go_wp2_with fail
  refine (CT.out _ _ O2.out.rd).mono ?_
  rintro e w3 ⟨⟨v3, rfl, o3⟩, b3⟩
  rw [HF.out] at o3
  have O3 := Lib.hid (own_base o3 B2.out.size)
  have B3 := Lib.hid (bt B2.out b3)
  clear o3 b3
  go_wp2
  go_ret2
  exact ⟨⟨_, rfl, O3.out⟩, B3.out⟩
end Go.Proofs.Yteancehdiliepaa
