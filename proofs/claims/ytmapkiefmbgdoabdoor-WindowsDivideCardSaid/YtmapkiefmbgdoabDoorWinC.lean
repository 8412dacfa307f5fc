/-
  Rows of integers of a call's own; the minutes of a day at which a window may change.
-/
import Derived.Test.YtmapkiefmbgdoabDoorWinM
import Derived.Test.YtmapkiefmbgdoabDoorShelf
import Derived.Maps.AppendAt
import Derived.Laws.OwnMore
import Derived.Lib.OwnBridge
import Derived.Lib.SlKeysI
import Derived.OwnWalk
import Derived.Deep.Draws
import Derived.Deep.RegionHeld3
import Derived.Deep.AppendLies
import Derived.Deep.DeepCutAuto
import Derived.Deep.Onto
namespace Go.Proofs.YtmapkiefmbgdoabDoor
open Go.RowKit
open Cal

theorem Tryd.infoInt : (Tryd.prog.info? 3).map (fun i => (i.zero, i.size, i.bytes)) = some (some (.int .i64 0), 1, 8) := by kernel_rfl
theorem iv_one (l : List Int) : ∀ u ∈ l.map (Value.int .i64), u.oneCell' = true := by
  intro u hu
  obtain ⟨c, _, rfl⟩ := List.mem_map.1 hu
  rfl
/-- A row of the call's own that holds these integers. -/
def OwnI (w : World) (base : Nat) (v : Value) (l : List Int) : Prop := w.ownsRow base 3 1 v l.length (l.map (Value.int .i64)) ∧ base ≤ w.heap.size
theorem OwnI.mono {w : World} {base b' : Nat} {v : Value} {l : List Int} (h : OwnI w base v l) (hb : b' ≤ base) : OwnI w b' v l := ⟨World.ownsRow.mono h.1 hb, Nat.le_trans hb h.2⟩
theorem OwnI.below {w w' : World} {base : Nat} {v : Value} {l : List Int} (h : OwnI w base v l) (hb : Below w.heap.size w w') : OwnI w' base v l := by
  refine ⟨⟨h.1.1, ?_⟩, Nat.le_trans h.2 hb.size⟩
  rcases h.1.2 with h0 | ⟨g, cap, cur, e0, h1, hh, h3, h4, h5, h6⟩
  · exact .inl h0
  · exact .inr ⟨g, cap, cur, e0, h1, (hb.block g (Array.getElem?_eq_some_iff.1 hh).1).trans hh, h3, h4, h5, h6⟩
theorem OwnI.none_ (w : World) (base : Nat) (h : base ≤ w.heap.size) : OwnI w base (.slice none 0 0) [] := ⟨⟨rfl, .inl ⟨rfl, rfl⟩⟩, h⟩
theorem OwnI.new (w : World) (base n : Nat) (l : List Int) (hn : n = l.length) (hb : base ≤ w.heap.size) (hl : l.length ≤ 2000000) :
    OwnI (w.alloc (.cells ((l.map (Value.int .i64)).toArray) 3)) base (.slice (some ⟨w.heap.size, 0, none⟩) n n) l := by
  subst hn
  refine ⟨⟨by simp, .inr ⟨w.heap.size, l.length, (l.map (Value.int .i64)).toArray, rfl, hb, heap_alloc_new w _, Nat.le_refl _, by unfold maxLen; omega, by simp, by simp [List.take_of_length_le]⟩⟩, by simp; omega⟩
theorem lit_cells (w : World) (l : List Value) (t : TypeId) : ∀ j u, l[j]? = some u → (w.alloc (.cells l.toArray t)).cell? ((⟨w.heap.size, 0, none⟩ : Addr).add j) = some u := by
  intro j u hj
  have hb := heap_alloc_new w (.cells l.toArray t)
  rw [Addr.add_lit, cell_of_row _ w.heap.size (0 + j) _ _ (0, 0) hb]
  simpa using hj
theorem le_alloc {w : World} {base : Nat} (h : base ≤ w.heap.size) (o : Obj) : base ≤ (w.alloc o).heap.size := by simp; omega
/-- What an append leaves. -/
theorem own_more {w w1 : World} {base m : Nat} {v v' : Value} {l news : List Int} {o : Obj} {vals : List Value} (h : OwnI w base v l) (hv : vals = news.map (Value.int .i64)) (hm : m = news.length)
    (h1 : w1.ownsRow base 3 1 v' (l.length + m) (l.map (Value.int .i64) ++ vals)) (hg : (w.alloc o).grownBy w1 v.ownBlock) : OwnI w1 base v' (l ++ news) ∧ Below base w w1 := by
  have hb : Below base w w1 := ((Below.refl base w).alloc h.2 o).grown hg (le_alloc h.2 o) (fun k hk => (h.1.lt k hk).1)
  refine ⟨⟨?_, Nat.le_trans h.2 hb.size⟩, hb⟩
  subst hv; subst hm
  rw [List.length_append, List.map_append]
  exact h1
theorem own_moreD {w w2 w1 : World} {base m : Nat} {v v' : Value} {l news : List Int} {vals : List Value} (h : OwnI w base v l) (hv : vals = news.map (Value.int .i64)) (hm : m = news.length)
    (h1 : w1.ownsRow base 3 1 v' (l.length + m) (l.map (Value.int .i64) ++ vals)) (h2 : Below base w w2) (hg : w2.grownBy w1 v.ownBlock) : OwnI w1 base v' (l ++ news) ∧ Below base w w1 := by
  have hb : Below base w w1 := h2.grown hg (Nat.le_trans h.2 h2.size) (fun k hk => (h.1.lt k hk).1)
  refine ⟨⟨?_, Nat.le_trans h.2 hb.size⟩, hb⟩
  subst hv; subst hm
  rw [List.length_append, List.map_append]
  exact h1
theorem OwnI.form {w : World} {base : Nat} {v : Value} {l : List Int} (h : OwnI w base v l) (hn : l ≠ []) : ∃ g cap, v = .slice (some ⟨g, 0, none⟩) l.length cap ∧ base ≤ g ∧ g < w.heap.size ∧ l.length ≤ cap ∧ cap ≤ maxLen := by
  rcases h.1.2 with ⟨rfl, h2⟩ | ⟨g, cap, cur, rfl, hb, hh, h3, h4, _, _⟩
  · exact absurd (List.length_eq_zero_iff.1 h2) hn
  · exact ⟨g, cap, rfl, hb, (h.1.lt g rfl).2, h3, h4⟩
theorem OwnI.at {w : World} {base g n cap : Nat} {l : List Int} (h : OwnI w base (.slice (some ⟨g, 0, none⟩) n cap) l) (i : Nat) (hi : i < l.length) : w.cell? ⟨g, i, none⟩ = some (.int .i64 l[i]) := by
  have := h.1.cells (g := g) rfl i (.int .i64 l[i]) (by simp [hi])
  rw [Addr.add_lit, Nat.zero_add] at this
  exact this
theorem OwnI.frozen {w : World} {base g n cap : Nat} {l : List Int} (h : OwnI w base (.slice (some ⟨g, 0, none⟩) n cap) l) (hn : n = l.length) (i : Nat) : w.frozen? ⟨g, i, none⟩ = false := by
  subst hn
  exact h.1.frozenAt i
/-- What minuteOf returns. -/
def mOf (m : Int) : Int := (m + 1440) % 1440
theorem mOf_bd (m : Int) : 0 ≤ mOf m ∧ mOf m < 1440 := by unfold mOf; omega
theorem minuteOf_any (m : Int) (w : World) (h0 : -1440 < m) (h1 : m ≤ 100000) : Calls Tryd.prog 57 #[.int .i64 m] w fun e w' => e = .returned (.int .i64 (mOf m)) ∧ w = w' := by
  have H : Hid ((m + 1440) % 1440 = mOf m) := Lib.hid rfl
  go_enter Tryd.func57, Tryd.ntmps57
  go_wp2
  go_ret
  exact ⟨by rw [← H.out]; rfl, rfl⟩
/-- The offsets, and the minutes that each gives. -/
def offs (o : Int) (sm : Bool) : List Int := if sm then [o, o + 60] else [o]
def offM (s e f : Int) : List Int := if s = e then [mOf (-f)] else [mOf (s - f), mOf (e - f)]
def rawE (s e o : Int) (sm : Bool) : List Int := (if sm then [60] else []) ++ (offs o sm).flatMap (offM s e)
theorem flat_len (s e : Int) (l : List Int) : (l.flatMap (offM s e)).length ≤ 2 * l.length := by
  induction l with
  | nil => simp
  | cons x l ih => rw [List.flatMap_cons, List.length_append, List.length_cons]; have : (offM s e x).length ≤ 2 := by { unfold offM; split <;> simp }; omega
theorem flat_pos (s e : Int) (l : List Int) (h : l ≠ []) : l.flatMap (offM s e) ≠ [] := by
  cases l with
  | nil => exact absurd rfl h
  | cons x l => rw [List.flatMap_cons]; unfold offM; split <;> simp
theorem offM_bd (s e f : Int) : ∀ x ∈ offM s e f, 0 ≤ x ∧ x < 1440 := by
  intro x hx
  have h1 := mOf_bd (-f)
  have h2 := mOf_bd (s - f)
  have h3 := mOf_bd (e - f)
  unfold offM at hx
  split at hx
  · simp at hx; rw [hx]; exact h1
  · simp at hx; rcases hx with rfl | rfl
    · exact h2
    · exact h3
theorem flat_bd (s e : Int) (x0 l : List Int) (h : ∀ x ∈ x0, x = 60) : ∀ x ∈ x0 ++ l.flatMap (offM s e), 0 ≤ x ∧ x < 1440 := by
  intro x hx
  rcases List.mem_append.1 hx with hx | hx
  · rw [h x hx]; decide
  · obtain ⟨y, _, hy⟩ := List.mem_flatMap.1 hx
    exact offM_bd s e y x hy
theorem offM_len (s e f : Int) : 1 ≤ (offM s e f).length ∧ (offM s e f).length ≤ 2 := by unfold offM; split <;> simp
def sortI (l : List Int) : List Int := l.mergeSort fun x y => decide (x ≤ y)
def dE (s e o : Int) (sm : Bool) (day : Int) : List Int := Lib.compact ((sortI (rawE s e o sm)).map fun x => x + day * 1440)
theorem sortI_len (l : List Int) : (sortI l).length = l.length := by unfold sortI; simp
theorem sortI_mem (l : List Int) (x : Int) : x ∈ sortI l ↔ x ∈ l := by unfold sortI; exact List.mem_mergeSort
theorem half_at (f : Int → Int) (zs : List Int) (k : Nat) (h : k < zs.length) : ∃ hk : k < ((zs.take k).map f ++ zs.drop k).length, ((zs.take k).map f ++ zs.drop k)[k] = zs[k] ∧ ((zs.take k).map f ++ zs.drop k).set k (f zs[k]) = (zs.take (k + 1)).map f ++ zs.drop (k + 1) := by
  have hl : ((zs.take k).map f).length = k := by simp; omega
  refine ⟨by simp; omega, ?_, ?_⟩
  · rw [List.getElem_append_right (by omega)]
    simp only [List.getElem_drop]
    congr 1
    omega
  · rw [List.set_append_right _ _ (by omega), hl, Nat.sub_self, List.drop_eq_getElem_cons h, List.set_cons_zero, List.take_succ_eq_append_getElem h, List.map_append, List.append_assoc]
    rfl
/-- Behind the sort. -/
theorem own_sorted {w : World} {base g cap q : Nat} {l : List Int} {os : Array Obj} (h : OwnI w base (.slice (some ⟨g, 0, none⟩) l.length cap) l) :
    OwnI (Sort.grow (Sort.putRow (Value.int .i64) (Sort.ahead w q) g 0 (sortI l).toArray) os) base (.slice (some ⟨g, 0, none⟩) l.length cap) (sortI l) ∧ Below base w (Sort.grow (Sort.putRow (Value.int .i64) (Sort.ahead w q) g 0 (sortI l).toArray) os) := by
  have hg := grownBy_sorted_i (w := w) (g := g) (n := q) (os := os) (sortI l).toArray
  have hb : Below base w (Sort.grow (Sort.putRow (Value.int .i64) (Sort.ahead w q) g 0 (sortI l).toArray) os) := (Below.refl base w).grown hg h.2 (fun k hk => by
    injection hk with hk
    subst hk
    exact (h.1.lt g rfl).1)
  refine ⟨⟨?_, Nat.le_trans h.2 hb.size⟩, hb⟩
  rcases h.1.2 with ⟨e0, _⟩ | ⟨g', cap', cur, e0, hbs, hh, h3, h4, h5, _⟩
  · cases e0
  · injection e0 with e1 _ e3
    injection e1 with e1
    injection e1 with e1
    subst e1; subst e3
    rw [sortI_len]
    exact ownsRow_sorted_i (w := w) (n := q) (os := os) (sortI_len l) hbs hh h3 h4 h5
/-- One element is stored. -/
theorem OwnI.put {w : World} {base g n cap : Nat} {l : List Int} (h : OwnI w base (.slice (some ⟨g, 0, none⟩) n cap) l) (hn : n = l.length) (i : Nat) (x : Int) :
    OwnI (w.setCell ⟨g, i, none⟩ (.int .i64 x)) base (.slice (some ⟨g, 0, none⟩) n cap) (l.set i x) ∧ Below base w (w.setCell ⟨g, i, none⟩ (.int .i64 x)) := by
  subst hn
  have hb : Below base w (w.setCell ⟨g, i, none⟩ (.int .i64 x)) := (Below.refl base w).setCell (p := ⟨g, i, none⟩) (h.1.lt g rfl).1 _
  refine ⟨⟨?_, Nat.le_trans h.2 hb.size⟩, hb⟩
  have := h.1.stored i (.int .i64 x)
  rw [List.length_set, List.map_set]
  exact this.1
/-- Behind the compaction. -/
theorem own_compact {w : World} {base g cap q : Nat} {l : List Int} (h : OwnI w base (.slice (some ⟨g, 0, none⟩) l.length cap) l) :
    OwnI (Sort.putRow (Value.int .i64) (Sort.ahead w q) g 0 (Lib.compact l ++ List.replicate (l.length - (Lib.compact l).length) 0).toArray) base (.slice (some ⟨g, 0, none⟩) (Lib.compact l).length cap) (Lib.compact l) ∧
    Below base w (Sort.putRow (Value.int .i64) (Sort.ahead w q) g 0 (Lib.compact l ++ List.replicate (l.length - (Lib.compact l).length) 0).toArray) := by
  have hle := Lib.compact_length_le l
  have hb := Lib.below_putRow (enc := Value.int .i64) (q := q) (d := (Lib.compact l ++ List.replicate (l.length - (Lib.compact l).length) 0).toArray) (Below.refl base w) (h.1.lt g rfl).1
  refine ⟨⟨?_, Nat.le_trans h.2 hb.size⟩, hb⟩
  have := Lib.ownsRow_putRow (q := q) (k := (Lib.compact l).length) (ys := Lib.compact l ++ List.replicate (l.length - (Lib.compact l).length) 0) h.1 (by simp; omega) hle
  simpa using this
/-- A slice of integers of the call's own comes back. -/
def GivesI (w : World) (l : List Int) (e : Ending) (w' : World) : Prop := (∃ v, e = .returned v ∧ OwnI w' w.heap.size v l) ∧ Below w.heap.size w w'


set_option maxHeartbeats 8000000 in
set_option maxRecDepth 100000 in
theorem dayEdges_false (d s e f u o : Int) (day : Int) (w : World) (hs : 0 ≤ s ∧ s ≤ 1439) (he : 0 ≤ e ∧ e ≤ 1439) (ho : -840 ≤ o ∧ o ≤ 840) (hd : 0 ≤ day ∧ day ≤ 200000) :
    Calls Tryd.prog 45 #[.agg #[.int .i64 d, .int .i64 s, .int .i64 e, .int .i64 f, .int .i64 u], .agg #[.int .i64 o, .bool false], .int .i64 day] w (GivesI w (dE s e o false day)) := by
  obtain ⟨i0, hi, hz0, hz1, hz2⟩ := info_parts Tryd.infoInt
  obtain ⟨s0, s1⟩ := hs
  obtain ⟨e0, e1⟩ := he
  obtain ⟨o0, o1⟩ := ho
  obtain ⟨d0, d1⟩ := hd
  have HE : Hid (dE s e o false day = Lib.compact ((sortI ([] ++ [o].flatMap (offM s e))).map fun x => x + day * 1440)) := Lib.hid rfl
  go_enter Tryd.func45, Tryd.ntmps45
  go_upto_region 6 with fail
  obtain ⟨W, hW⟩ : ∃ W, ((w.alloc (.cells #[.int .i64 d, .int .i64 s, .int .i64 e, .int .i64 f, .int .i64 u] 30)).alloc (.cells #[.int .i64 o, .bool false] 32)).alloc (.cells #[.int .i64 o] 3) = W := ⟨_, rfl⟩
  have F : W.cell? ⟨w.heap.size, 1, none⟩ = some (.int .i64 s) ∧ W.cell? ⟨w.heap.size, 2, none⟩ = some (.int .i64 e) ∧ Below w.heap.size w W ∧ W.heap.size = w.heap.size + 3 := by
    subst hW
    exact ⟨by simp [go_sem], by simp [go_sem], b2 (b2 (b_new w _) (b_new _ _)) (b_new _ _), by simp⟩
  have FO : OwnI W w.heap.size (.slice (some ⟨w.heap.size + 1 + 1, 0, none⟩) 1 1) [o] := by
    subst hW
    have := OwnI.new ((w.alloc (.cells #[.int .i64 d, .int .i64 s, .int .i64 e, .int .i64 f, .int .i64 u] 30)).alloc (.cells #[.int .i64 o, .bool false] 32)) w.heap.size 1 [o] rfl (by simp; omega) (by simp)
    simpa using this
  have FM := OwnI.none_ W W.heap.size (Nat.le_refl _)
  have GB : w.heap.size + 1 + 1 < W.heap.size := by have := F.2.2.2; omega
  rw [hW]
  clear hW
  obtain ⟨v8, hv8⟩ : ∃ v8, v8 = Value.slice none 0 0 := ⟨_, rfl⟩
  obtain ⟨gb, hgb⟩ : ∃ gb, gb = w.heap.size + 1 + 1 := ⟨_, rfl⟩
  rw [← hgb] at FO GB
  rw [← hv8] at FM
  obtain ⟨c1, c2, hb, hz⟩ := F
  have hz : w.heap.size < W.heap.size := by omega
  obtain ⟨B, hB⟩ : ∃ B, B = W.heap.size := ⟨_, rfl⟩
  rw [← hB] at FM GB hz
  clear hB
  rw [hv8] at FM
  clear hv8
  simp only [← hgb]
  clear hgb

  obtain ⟨ol, hol⟩ : ∃ ol : List Int, [o] = ol := ⟨_, rfl⟩
  obtain ⟨x0, hx0⟩ : ∃ x0 : List Int, [] = x0 := ⟨_, rfl⟩
  have oln : ol.length = 1 := by rw [← hol]; rfl
  have olb : ∀ x ∈ ol, -840 ≤ x ∧ x ≤ 900 := by
    rw [← hol]; intro x hx
    simp at hx
    omega
  have x0n : x0.length ≤ 1 := by rw [← hx0]; decide
  have x0b : Hid (∀ x ∈ x0, x = 60) := Lib.hid (by rw [← hx0]; simp)
  rw [hol] at FO HE
  rw [hx0] at FM HE
  have OLB := Lib.hid olb
  have OLN := Lib.hid oln
  have FO := Lib.hid FO
  have HB := Lib.hid hb
  have BW : B ≤ W.heap.size := FM.2
  have hwB : w.heap.size ≤ B := by omega
  clear hol hx0 olb oln hb
  go_wp2_with fail
  go_loopw [8, 28] (fun v i wr => ∃ (k : Nat), k ≤ 1 ∧ i = .int .i64 k ∧ OwnI wr B v (x0 ++ (ol.take k).flatMap (offM s e)) ∧ Below B W wr) (fun _ i _ => 1 - (intOf i).toNat)
  case atStart => exact ⟨0, by omega, rfl, by simpa using FM, Below.refl _ _⟩
  case round =>
    clear FM
    obtain ⟨k, hk, rfl, hown, hbw⟩ := hrel
    by_cases hlt : k < 1
    · have hkl : k < ol.length := by rw [OLN.out]; exact hlt
      have gx := (hbw.cell (p := ⟨gb, k, none⟩) GB).trans (FO.out.at k hkl)
      have xb := OLB.out ol[k] (List.getElem_mem hkl)
      have C1 : wr.cell? ⟨w.heap.size, 1, none⟩ = some (.int .i64 s) := (hbw.cell (p := ⟨w.heap.size, 1, none⟩) hz).trans c1
      have C2 : wr.cell? ⟨w.heap.size, 2, none⟩ = some (.int .i64 e) := (hbw.cell (p := ⟨w.heap.size, 2, none⟩) hz).trans c2
      have hxl : (x0 ++ (ol.take k).flatMap (offM s e)).length ≤ 1000 := by have := flat_len s e (ol.take k); have := List.length_take_le k ol; rw [List.length_append]; omega
      have HT : (ol.take (k + 1)).flatMap (offM s e) = (ol.take k).flatMap (offM s e) ++ offM s e ol[k] := by
        rw [List.take_succ_eq_append_getElem hkl, List.flatMap_append]; simp
      obtain ⟨x, hx⟩ : ∃ x, ol[k] = x := ⟨_, rfl⟩
      obtain ⟨ys, hys⟩ : ∃ ys, x0 ++ (ol.take k).flatMap (offM s e) = ys := ⟨_, rfl⟩
      have HT2 : Hid (x0 ++ (ol.take (k + 1)).flatMap (offM s e) = ys ++ offM s e x) := Lib.hid (by rw [HT, ← List.append_assoc, hys, hx])
      rw [hx] at gx xb
      rw [hys] at hown hxl
      have hown1 := hown.1
      have hbase := hown.2
      have HW := Lib.hid hbw
      clear HT hx hys hown hkl hbw
      by_cases hse : s = e
      · have te : (s == e) = true := eq_t _ _ hse
        have HM : Hid (offM s e x = [mOf (-x)]) := Lib.hid (by unfold offM; rw [if_pos hse])
        have CM := Lib.hid (fun X => minuteOf_any (-x) X (by omega) (by omega))
        clear hse
        go_wp2_with (first
          | (go_at_call 57; refine (CM.out _).mono ?_; rintro e5 w5 ⟨rfl, rfl⟩)
          | (at_builtin; refine wpList_append_own _ rfl _ _ 22 rfl B 3 i0 (.int .i64 0) 1 8 Tryd.underlying22 hi hz0 hz1 hz2 rfl (by decide) _ _ _ rfl (hown1.alloc _) ⟨wr.heap.size, 0, none⟩ 1 1 [.int .i64 (mOf (-x))] rfl rfl (lit_cells wr [.int .i64 (mOf (-x))] _) (iv_one [mOf (-x)]) (by unfold maxLen; omega) (by omega) (le_alloc hbase _) ?_; intro v' w1 hown' hgrow _))
        obtain ⟨a1, a2⟩ := own_more ⟨hown1, hbase⟩ (news := [mOf (-x)]) rfl rfl hown' hgrow
        have A1 := Lib.hid (And.intro a1 (HW.out.trans a2))
        clear a1 a2 hown' hgrow hown1
        go_wp2_with fail
        go_roundw
        case rel => exact ⟨k + 1, by omega, by go_num, by rw [HT2.out, HM.out]; exact A1.out.1, A1.out.2⟩
        case measure => simp [intOf]; omega
      · have te : (s == e) = false := eq_f _ _ hse
        have HM : Hid (offM s e x = [mOf (s - x), mOf (e - x)]) := Lib.hid (by unfold offM; rw [if_neg hse])
        clear hse
        have hsx : IntKind.i64.wrap (s - x) = s - x := by rw [IntKind.wrap_i64]; omega
        have hex : IntKind.i64.wrap (e - x) = e - x := by rw [IntKind.wrap_i64]; omega
        have ab : u8.ownBlock ≠ some w.heap.size := fun h => by have := (hown1.lt _ h).1; omega
        have lb : w.heap.size < wr.heap.size := by omega
        go_wp2_with fail
        go_region_held3 (fun X => X.cell? ⟨w.heap.size, 1, none⟩ = some (.int .i64 s) ∧ X.cell? ⟨w.heap.size, 2, none⟩ = some (.int .i64 e))
          (first
            | go_keep
            | (go_split_ands
               refine ⟨?_, ?_⟩
               · (rw [hgrow.cell_far _ (by simp; omega) (Ne.symm ab)]; assumption)
               · (rw [hgrow.cell_far _ (by simp; omega) (Ne.symm ab)]; assumption)))
          (first
            | (go_at_call 57; refine (minuteOf_any _ _ (by omega) (by omega)).mono ?_; rintro e5 w5 ⟨rfl, rfl⟩)
            | (refine step_append_lies _ (by rfl) _ _ _ (by rfl) B 3 i0 _ 1 8 Tryd.underlying22 hi hz0 hz1 hz2 rfl (by omega) u8 ys.length (ys.map (Value.int .i64)) (by rfl) ((hown1.alloc _).drew)
                ⟨wr.heap.size, 0, none⟩ 2 2 [.int .i64 (mOf (s - x)), .int .i64 (mOf (e - x))] (by rfl) (by rfl) (World.news_of_block (cs := #[.int .i64 (mOf (s - x)), .int .i64 (mOf (e - x))]) (t := 3) (fr := (0, 0)) (heap_alloc_new wr _)) (iv_one [mOf (s - x), mOf (e - x)])
                (by omega) (by unfold maxLen; omega) (by omega) (by simp; omega) (wr.heap.size + 1) (by simp) ?_; intro gg cap w1 hown' hgrow hat hlt3))
        obtain ⟨a1, a2⟩ := own_moreD ⟨hown1, hbase⟩ (news := [mOf (s - x), mOf (e - x)]) rfl rfl hown' (((Below.refl _ wr).alloc hbase _).drew) hgrow
        have A1 := Lib.hid (And.intro a1 (HW.out.trans a2))
        clear a1 a2 hown' hgrow hown1 hat hlt3
        go_wp2_with fail
        go_roundw
        case rel => exact ⟨k + 1, by omega, by go_num, by rw [HT2.out, HM.out]; exact A1.out.1, A1.out.2⟩
        case measure => simp [intOf]; omega
    · have hk1 : k = ol.length := by rw [OLN.out]; omega
      rw [hk1, List.take_length] at hown
      have hne : x0 ++ ol.flatMap (offM s e) ≠ [] := by
        have := flat_pos s e ol (by intro h; rw [h] at OLN; have := OLN.out; simp at this)
        simp [this]
      have hln : (x0 ++ ol.flatMap (offM s e)).length ≤ 1000 := by
        have := flat_len s e ol; have := OLN.out; rw [List.length_append]; omega
      have hbd := flat_bd s e x0 ol x0b.out
      obtain ⟨ys, hys⟩ : ∃ ys, x0 ++ ol.flatMap (offM s e) = ys := ⟨_, rfl⟩
      rw [hys] at hown hne hln hbd HE
      have hbd := Lib.hid hbd
      obtain ⟨g, cap, rfl, g1, g2, g3, g4⟩ := hown.form hne
      have HH := Lib.hid (Lib.holds_of_ownsRow hown.1 (by simp))
      have SO := Lib.hid (Tryd.slices_Sort_int g 0 cap ys wr (by obtain ⟨g', cap', e0, _, _, _, _, _, hh⟩ := HH.out; injection e0 with e1; injection e1 with e1; injection e1 with e1; subst e1; exact hh) g2 (by omega))
      have HO := Lib.hid hown
      have HW := Lib.hid (HB.out.trans (hbw.mono hwB))
      clear hown hbw HH hk1 hys
      go_wp2_with fail
      refine SO.out.mono ?_
      rintro e6 w6 ⟨rfl, n6, os6, h6⟩
      have S3 : OwnI w6 B (.slice (some ⟨g, 0, none⟩) ys.length cap) (sortI ys) ∧ Below B wr w6 := by rw [h6]; exact own_sorted HO.out
      obtain ⟨zs, hzs⟩ : ∃ zs, sortI ys = zs := ⟨_, rfl⟩
      have hzn : zs.length = ys.length := by rw [← hzs, sortI_len]
      have ZB : Hid (∀ x ∈ zs, 0 ≤ x ∧ x < 1440) := Lib.hid (by intro x hx; rw [← hzs, sortI_mem] at hx; exact hbd.out x hx)
      rw [hzs] at S3 HE
      rw [← hzn] at S3 hln g3
      have hzl : 0 < zs.length := by rw [hzn]; exact List.length_pos_iff.2 hne
      have NE : Hid (ys.length = zs.length) := Lib.hid hzn.symm
      have S4 := Lib.hid S3.1
      have HW := Lib.hid (HW.out.trans (S3.2.mono hwB))
      clear h6 hzs S3 SO HO hbd hne hzn x0n
      rw [NE.out]
      clear NE
      go_wp2_with fail
      go_loopw [61] (fun i wr => ∃ (k : Nat), k ≤ zs.length ∧ i = .int .i64 k ∧ OwnI wr B (.slice (some ⟨g, 0, none⟩) zs.length cap) ((zs.take k).map (fun x => x + day * 1440) ++ zs.drop k) ∧ Below w.heap.size w wr) (fun i _ => zs.length - (intOf i).toNat)
      case atStart => exact ⟨0, by omega, rfl, by simpa using S4.out, HW.out⟩
      case round =>
        clear S4 HW
        obtain ⟨k, hk, rfl, hown, hbw⟩ := hrel
        by_cases hlt : k < zs.length
        · obtain ⟨q1, q2, q3⟩ := half_at (fun x => x + day * 1440) zs k hlt
          have zb := ZB.out zs[k] (List.getElem_mem hlt)
          have cz := hown.at k q1
          have hll : zs.length = ((zs.take k).map (fun x => x + day * 1440) ++ zs.drop k).length := by rw [List.length_append, List.length_map, List.length_take, List.length_drop]; omega
          have fz := hown.frozen hll k
          rw [q2] at cz
          have P := Lib.hid (hown.put hll k (zs[k] + day * 1440))
          obtain ⟨x, hx⟩ : ∃ x, zs[k] = x := ⟨_, rfl⟩
          rw [hx] at zb cz P
          have Q3 : Hid ((((zs.take k).map (fun x => x + day * 1440) ++ zs.drop k).set k (x + day * 1440)) = (zs.take (k + 1)).map (fun x => x + day * 1440) ++ zs.drop (k + 1)) := Lib.hid (by rw [← q3, hx])
          have HB2 := Lib.hid hbw
          clear q1 q2 q3 hll hx hown hbw
          go_wp2_with fail
          go_roundw
          case rel => exact ⟨k + 1, by omega, by go_num, by rw [← Q3.out]; exact P.out.1, HB2.out.trans (P.out.2.mono hwB)⟩
          case measure => simp [intOf]; omega
        · obtain rfl : k = zs.length := by omega
          rw [List.take_length, List.drop_length, List.append_nil] at hown
          obtain ⟨ms, hms⟩ : ∃ ms, zs.map (fun x => x + day * 1440) = ms := ⟨_, rfl⟩
          have hml : zs.length = ms.length := by rw [← hms, List.length_map]
          rw [hms] at hown HE
          rw [hml] at hown hln hzl g3
          have HL := Lib.hid hml
          have CO := Lib.hid (Tryd.slices_Compact_int g 0 cap ms wr (by obtain ⟨g', cap', e0, _, _, _, _, _, hh⟩ := Lib.holds_of_ownsRow hown.1 (by simp); injection e0 with e1; injection e1 with e1; injection e1 with e1; subst e1; exact hh) (by omega) (by omega))
          have HO := Lib.hid hown
          have HB2 := Lib.hid hbw
          clear hown hbw hms hml ZB OLB OLN
          rw [HL.out]
          clear HL
          go_wp2_with fail
          refine CO.out.mono ?_
          rintro e7 w7 ⟨rfl, q7, h7⟩
          have S7 : OwnI w7 B (.slice (some ⟨g, 0, none⟩) (Lib.compact ms).length cap) (Lib.compact ms) ∧ Below B wr w7 := by rw [h7]; exact own_compact HO.out
          have S8 := Lib.hid S7
          clear h7 S7 CO
          go_wp2_with fail
          go_ret
          have hle : w.heap.size ≤ B := hwB
          refine ⟨⟨_, rfl, ?_⟩, HB2.out.trans (S8.out.2.mono hle)⟩
          rw [HE.out]
          exact S8.out.1.mono hle
set_option maxHeartbeats 8000000 in
set_option maxRecDepth 100000 in
theorem dayEdges_true (d s e f u o : Int) (day : Int) (w : World) (hs : 0 ≤ s ∧ s ≤ 1439) (he : 0 ≤ e ∧ e ≤ 1439) (ho : -840 ≤ o ∧ o ≤ 840) (hd : 0 ≤ day ∧ day ≤ 200000) :
    Calls Tryd.prog 45 #[.agg #[.int .i64 d, .int .i64 s, .int .i64 e, .int .i64 f, .int .i64 u], .agg #[.int .i64 o, .bool true], .int .i64 day] w (GivesI w (dE s e o true day)) := by
  obtain ⟨i0, hi, hz0, hz1, hz2⟩ := info_parts Tryd.infoInt
  obtain ⟨s0, s1⟩ := hs
  obtain ⟨e0, e1⟩ := he
  obtain ⟨o0, o1⟩ := ho
  obtain ⟨d0, d1⟩ := hd
  have HE : Hid (dE s e o true day = Lib.compact ((sortI ([60] ++ [o, o + 60].flatMap (offM s e))).map fun x => x + day * 1440)) := Lib.hid rfl
  have O1 : OwnI (((w.alloc (.cells #[.int .i64 d, .int .i64 s, .int .i64 e, .int .i64 f, .int .i64 u] 30)).alloc (.cells #[.int .i64 o, .bool true] 32)).alloc (.cells #[.int .i64 o] 3)) w.heap.size (.slice (some ⟨w.heap.size + 1 + 1, 0, none⟩) 1 1) [o] := by
    have := OwnI.new ((w.alloc (.cells #[.int .i64 d, .int .i64 s, .int .i64 e, .int .i64 f, .int .i64 u] 30)).alloc (.cells #[.int .i64 o, .bool true] 32)) (w.heap.size) 1 [o] rfl (by simp; omega) (by simp)
    simpa using this
  have O2 : OwnI (((w.alloc (.cells #[.int .i64 d, .int .i64 s, .int .i64 e, .int .i64 f, .int .i64 u] 30)).alloc (.cells #[.int .i64 o, .bool true] 32)).alloc (.cells #[.int .i64 o] 3)) (w.heap.size + 1 + 1) (.slice (some ⟨w.heap.size + 1 + 1, 0, none⟩) 1 1) [o] := by
    have := OwnI.new ((w.alloc (.cells #[.int .i64 d, .int .i64 s, .int .i64 e, .int .i64 f, .int .i64 u] 30)).alloc (.cells #[.int .i64 o, .bool true] 32)) (w.heap.size + 1 + 1) 1 [o] rfl (by simp) (by simp)
    simpa using this
  have F0 : (((w.alloc (.cells #[.int .i64 d, .int .i64 s, .int .i64 e, .int .i64 f, .int .i64 u] 30)).alloc (.cells #[.int .i64 o, .bool true] 32)).alloc (.cells #[.int .i64 o] 3)).cell? ⟨w.heap.size, 1, none⟩ = some (.int .i64 s) ∧ (((w.alloc (.cells #[.int .i64 d, .int .i64 s, .int .i64 e, .int .i64 f, .int .i64 u] 30)).alloc (.cells #[.int .i64 o, .bool true] 32)).alloc (.cells #[.int .i64 o] 3)).cell? ⟨w.heap.size, 2, none⟩ = some (.int .i64 e) ∧ Below w.heap.size w (((w.alloc (.cells #[.int .i64 d, .int .i64 s, .int .i64 e, .int .i64 f, .int .i64 u] 30)).alloc (.cells #[.int .i64 o, .bool true] 32)).alloc (.cells #[.int .i64 o] 3)) := 
    ⟨by simp [go_sem], by simp [go_sem], b2 (b2 (b_new w _) (b_new _ _)) (b_new _ _)⟩
  have F0 := Lib.hid F0
  have N1 := lit_cells (((w.alloc (.cells #[.int .i64 d, .int .i64 s, .int .i64 e, .int .i64 f, .int .i64 u] 30)).alloc (.cells #[.int .i64 o, .bool true] 32)).alloc (.cells #[.int .i64 o] 3)) [.int .i64 (o + 60)] 3
  have Z1 : w.heap.size + 1 + 1 ≤ ((((w.alloc (.cells #[.int .i64 d, .int .i64 s, .int .i64 e, .int .i64 f, .int .i64 u] 30)).alloc (.cells #[.int .i64 o, .bool true] 32)).alloc (.cells #[.int .i64 o] 3)).alloc (.cells #[.int .i64 (o + 60)] 3)).heap.size := by simp
  simp only [World.size_alloc] at N1
  have N1 := Lib.hid N1
  have O2 := Lib.hid O2
  clear O1
  go_enter Tryd.func45, Tryd.ntmps45
  go_upto_region 4 with fail
  go_wp2_with (at_builtin; refine wpList_append_own _ rfl _ _ 22 rfl (w.heap.size + 1 + 1) 3 i0 (.int .i64 0) 1 8 Tryd.underlying22 hi hz0 hz1 hz2 rfl (by decide) _ _ _ rfl (O2.out.1.alloc _) ⟨w.heap.size + 1 + 1 + 1, 0, none⟩ 1 1 [.int .i64 (o + 60)] rfl rfl ?c1 ?c2 ?c3 ?c4 ?c5 ?c6)
  case c1 => exact N1.out
  case c2 => exact iv_one [o + 60]
  case c3 => unfold maxLen; simp
  case c4 => simp
  case c5 => exact Z1
  case c6 =>
  intro v' w1 hown' hgrow _
  obtain ⟨a1, a2⟩ := own_more O2.out (news := [o + 60]) rfl rfl hown' hgrow
  have F1 : w1.cell? ⟨w.heap.size, 1, none⟩ = some (.int .i64 s) ∧ w1.cell? ⟨w.heap.size, 2, none⟩ = some (.int .i64 e) ∧ Below w.heap.size w w1 :=
    ⟨(a2.cell (p := ⟨w.heap.size, 1, none⟩) (by show w.heap.size < _; omega)).trans F0.out.1, (a2.cell (p := ⟨w.heap.size, 2, none⟩) (by show w.heap.size < _; omega)).trans F0.out.2.1, F0.out.2.2.trans (a2.mono (by omega))⟩
  have hsw : w.heap.size + 1 + 1 ≤ w1.heap.size := a1.2
  obtain ⟨gb, cp, rfl, gb1, gb2, cp1, cp2⟩ := a1.form (by simp)
  have F1 := Lib.hid F1
  have O3 := Lib.hid a1
  clear hown' hgrow a1 a2 Z1 N1
  have N2 := Lib.hid (lit_cells w1 [.int .i64 60] 3)
  have O4 := Lib.hid (OwnI.none_ w1 w1.heap.size (Nat.le_refl _))
  go_wp2_with (at_builtin; refine wpList_append_own _ rfl _ _ 22 rfl w1.heap.size 3 i0 (.int .i64 0) 1 8 Tryd.underlying22 hi hz0 hz1 hz2 rfl (by decide) _ _ _ rfl (O4.out.1.alloc _) ⟨w1.heap.size, 0, none⟩ 1 1 [.int .i64 60] rfl rfl ?d1 ?d2 ?d3 ?d4 ?d5 ?d6)
  case d1 => exact N2.out
  case d2 => exact iv_one [60]
  case d3 => unfold maxLen; simp
  case d4 => simp
  case d5 => simp
  case d6 =>
  intro v8 W hown' hgrow _
  obtain ⟨FM, b1⟩ := own_more O4.out (news := [60]) rfl rfl hown' hgrow
  have c1 := (b1.cell (p := ⟨w.heap.size, 1, none⟩) (by show w.heap.size < _; omega)).trans F1.out.1
  have c2 := (b1.cell (p := ⟨w.heap.size, 2, none⟩) (by show w.heap.size < _; omega)).trans F1.out.2.1
  have hb : Below w.heap.size w W := F1.out.2.2.trans (b1.mono (by omega))
  have FO : OwnI W w.heap.size (.slice (some ⟨gb, 0, none⟩) [o, o + 60].length cp) [o, o + 60] := (O3.out.below b1).mono (by omega)
  have GB : gb < w1.heap.size := gb2
  have hz : w.heap.size < w1.heap.size := by omega
  obtain ⟨B, hB⟩ : ∃ B, B = w1.heap.size := ⟨_, rfl⟩
  rw [List.nil_append] at FM
  rw [← hB] at FM GB hz
  clear hown' hgrow b1 O4 O3 F1 F0 O2 N2 gb1 gb2 cp1 cp2 hsw hB
  simp only [List.length_cons, List.length_nil] at FO
  obtain ⟨ol, hol⟩ : ∃ ol : List Int, [o, o + 60] = ol := ⟨_, rfl⟩
  obtain ⟨x0, hx0⟩ : ∃ x0 : List Int, [60] = x0 := ⟨_, rfl⟩
  have oln : ol.length = 2 := by rw [← hol]; rfl
  have olb : ∀ x ∈ ol, -840 ≤ x ∧ x ≤ 900 := by
    rw [← hol]; intro x hx
    simp at hx
    omega
  have x0n : x0.length ≤ 1 := by rw [← hx0]; decide
  have x0b : Hid (∀ x ∈ x0, x = 60) := Lib.hid (by rw [← hx0]; simp)
  rw [hol] at FO HE
  rw [hx0] at FM HE
  have OLB := Lib.hid olb
  have OLN := Lib.hid oln
  have FO := Lib.hid FO
  have HB := Lib.hid hb
  have BW : B ≤ W.heap.size := FM.2
  have hwB : w.heap.size ≤ B := by omega
  clear hol hx0 olb oln hb
  go_wp2_with fail
  go_loopw [8, 28] (fun v i wr => ∃ (k : Nat), k ≤ 2 ∧ i = .int .i64 k ∧ OwnI wr B v (x0 ++ (ol.take k).flatMap (offM s e)) ∧ Below B W wr) (fun _ i _ => 2 - (intOf i).toNat)
  case atStart => exact ⟨0, by omega, rfl, by simpa using FM, Below.refl _ _⟩
  case round =>
    clear FM
    obtain ⟨k, hk, rfl, hown, hbw⟩ := hrel
    by_cases hlt : k < 2
    · have hkl : k < ol.length := by rw [OLN.out]; exact hlt
      have gx := (hbw.cell (p := ⟨gb, k, none⟩) GB).trans (FO.out.at k hkl)
      have xb := OLB.out ol[k] (List.getElem_mem hkl)
      have C1 : wr.cell? ⟨w.heap.size, 1, none⟩ = some (.int .i64 s) := (hbw.cell (p := ⟨w.heap.size, 1, none⟩) hz).trans c1
      have C2 : wr.cell? ⟨w.heap.size, 2, none⟩ = some (.int .i64 e) := (hbw.cell (p := ⟨w.heap.size, 2, none⟩) hz).trans c2
      have hxl : (x0 ++ (ol.take k).flatMap (offM s e)).length ≤ 1000 := by have := flat_len s e (ol.take k); have := List.length_take_le k ol; rw [List.length_append]; omega
      have HT : (ol.take (k + 1)).flatMap (offM s e) = (ol.take k).flatMap (offM s e) ++ offM s e ol[k] := by
        rw [List.take_succ_eq_append_getElem hkl, List.flatMap_append]; simp
      obtain ⟨x, hx⟩ : ∃ x, ol[k] = x := ⟨_, rfl⟩
      obtain ⟨ys, hys⟩ : ∃ ys, x0 ++ (ol.take k).flatMap (offM s e) = ys := ⟨_, rfl⟩
      have HT2 : Hid (x0 ++ (ol.take (k + 1)).flatMap (offM s e) = ys ++ offM s e x) := Lib.hid (by rw [HT, ← List.append_assoc, hys, hx])
      rw [hx] at gx xb
      rw [hys] at hown hxl
      have hown1 := hown.1
      have hbase := hown.2
      have HW := Lib.hid hbw
      clear HT hx hys hown hkl hbw
      by_cases hse : s = e
      · have te : (s == e) = true := eq_t _ _ hse
        have HM : Hid (offM s e x = [mOf (-x)]) := Lib.hid (by unfold offM; rw [if_pos hse])
        have CM := Lib.hid (fun X => minuteOf_any (-x) X (by omega) (by omega))
        clear hse
        go_wp2_with (first
          | (go_at_call 57; refine (CM.out _).mono ?_; rintro e5 w5 ⟨rfl, rfl⟩)
          | (at_builtin; refine wpList_append_own _ rfl _ _ 22 rfl B 3 i0 (.int .i64 0) 1 8 Tryd.underlying22 hi hz0 hz1 hz2 rfl (by decide) _ _ _ rfl (hown1.alloc _) ⟨wr.heap.size, 0, none⟩ 1 1 [.int .i64 (mOf (-x))] rfl rfl (lit_cells wr [.int .i64 (mOf (-x))] _) (iv_one [mOf (-x)]) (by unfold maxLen; omega) (by omega) (le_alloc hbase _) ?_; intro v' w1 hown' hgrow _))
        obtain ⟨a1, a2⟩ := own_more ⟨hown1, hbase⟩ (news := [mOf (-x)]) rfl rfl hown' hgrow
        have A1 := Lib.hid (And.intro a1 (HW.out.trans a2))
        clear a1 a2 hown' hgrow hown1
        go_wp2_with fail
        go_roundw
        case rel => exact ⟨k + 1, by omega, by go_num, by rw [HT2.out, HM.out]; exact A1.out.1, A1.out.2⟩
        case measure => simp [intOf]; omega
      · have te : (s == e) = false := eq_f _ _ hse
        have HM : Hid (offM s e x = [mOf (s - x), mOf (e - x)]) := Lib.hid (by unfold offM; rw [if_neg hse])
        clear hse
        have hsx : IntKind.i64.wrap (s - x) = s - x := by rw [IntKind.wrap_i64]; omega
        have hex : IntKind.i64.wrap (e - x) = e - x := by rw [IntKind.wrap_i64]; omega
        have ab : u8.ownBlock ≠ some w.heap.size := fun h => by have := (hown1.lt _ h).1; omega
        have lb : w.heap.size < wr.heap.size := by omega
        go_wp2_with fail
        go_region_held3 (fun X => X.cell? ⟨w.heap.size, 1, none⟩ = some (.int .i64 s) ∧ X.cell? ⟨w.heap.size, 2, none⟩ = some (.int .i64 e))
          (first
            | go_keep
            | (go_split_ands
               refine ⟨?_, ?_⟩
               · (rw [hgrow.cell_far _ (by simp; omega) (Ne.symm ab)]; assumption)
               · (rw [hgrow.cell_far _ (by simp; omega) (Ne.symm ab)]; assumption)))
          (first
            | (go_at_call 57; refine (minuteOf_any _ _ (by omega) (by omega)).mono ?_; rintro e5 w5 ⟨rfl, rfl⟩)
            | (refine step_append_lies _ (by rfl) _ _ _ (by rfl) B 3 i0 _ 1 8 Tryd.underlying22 hi hz0 hz1 hz2 rfl (by omega) u8 ys.length (ys.map (Value.int .i64)) (by rfl) ((hown1.alloc _).drew)
                ⟨wr.heap.size, 0, none⟩ 2 2 [.int .i64 (mOf (s - x)), .int .i64 (mOf (e - x))] (by rfl) (by rfl) (World.news_of_block (cs := #[.int .i64 (mOf (s - x)), .int .i64 (mOf (e - x))]) (t := 3) (fr := (0, 0)) (heap_alloc_new wr _)) (iv_one [mOf (s - x), mOf (e - x)])
                (by omega) (by unfold maxLen; omega) (by omega) (by simp; omega) (wr.heap.size + 1) (by simp) ?_; intro gg cap w1 hown' hgrow hat hlt3))
        obtain ⟨a1, a2⟩ := own_moreD ⟨hown1, hbase⟩ (news := [mOf (s - x), mOf (e - x)]) rfl rfl hown' (((Below.refl _ wr).alloc hbase _).drew) hgrow
        have A1 := Lib.hid (And.intro a1 (HW.out.trans a2))
        clear a1 a2 hown' hgrow hown1 hat hlt3
        go_wp2_with fail
        go_roundw
        case rel => exact ⟨k + 1, by omega, by go_num, by rw [HT2.out, HM.out]; exact A1.out.1, A1.out.2⟩
        case measure => simp [intOf]; omega
    · have hk1 : k = ol.length := by rw [OLN.out]; omega
      rw [hk1, List.take_length] at hown
      have hne : x0 ++ ol.flatMap (offM s e) ≠ [] := by
        have := flat_pos s e ol (by intro h; rw [h] at OLN; have := OLN.out; simp at this)
        simp [this]
      have hln : (x0 ++ ol.flatMap (offM s e)).length ≤ 1000 := by
        have := flat_len s e ol; have := OLN.out; rw [List.length_append]; omega
      have hbd := flat_bd s e x0 ol x0b.out
      obtain ⟨ys, hys⟩ : ∃ ys, x0 ++ ol.flatMap (offM s e) = ys := ⟨_, rfl⟩
      rw [hys] at hown hne hln hbd HE
      have hbd := Lib.hid hbd
      obtain ⟨g, cap, rfl, g1, g2, g3, g4⟩ := hown.form hne
      have HH := Lib.hid (Lib.holds_of_ownsRow hown.1 (by simp))
      have SO := Lib.hid (Tryd.slices_Sort_int g 0 cap ys wr (by obtain ⟨g', cap', e0, _, _, _, _, _, hh⟩ := HH.out; injection e0 with e1; injection e1 with e1; injection e1 with e1; subst e1; exact hh) g2 (by omega))
      have HO := Lib.hid hown
      have HW := Lib.hid (HB.out.trans (hbw.mono hwB))
      clear hown hbw HH hk1 hys
      go_wp2_with fail
      refine SO.out.mono ?_
      rintro e6 w6 ⟨rfl, n6, os6, h6⟩
      have S3 : OwnI w6 B (.slice (some ⟨g, 0, none⟩) ys.length cap) (sortI ys) ∧ Below B wr w6 := by rw [h6]; exact own_sorted HO.out
      obtain ⟨zs, hzs⟩ : ∃ zs, sortI ys = zs := ⟨_, rfl⟩
      have hzn : zs.length = ys.length := by rw [← hzs, sortI_len]
      have ZB : Hid (∀ x ∈ zs, 0 ≤ x ∧ x < 1440) := Lib.hid (by intro x hx; rw [← hzs, sortI_mem] at hx; exact hbd.out x hx)
      rw [hzs] at S3 HE
      rw [← hzn] at S3 hln g3
      have hzl : 0 < zs.length := by rw [hzn]; exact List.length_pos_iff.2 hne
      have NE : Hid (ys.length = zs.length) := Lib.hid hzn.symm
      have S4 := Lib.hid S3.1
      have HW := Lib.hid (HW.out.trans (S3.2.mono hwB))
      clear h6 hzs S3 SO HO hbd hne hzn x0n
      rw [NE.out]
      clear NE
      go_wp2_with fail
      go_loopw [61] (fun i wr => ∃ (k : Nat), k ≤ zs.length ∧ i = .int .i64 k ∧ OwnI wr B (.slice (some ⟨g, 0, none⟩) zs.length cap) ((zs.take k).map (fun x => x + day * 1440) ++ zs.drop k) ∧ Below w.heap.size w wr) (fun i _ => zs.length - (intOf i).toNat)
      case atStart => exact ⟨0, by omega, rfl, by simpa using S4.out, HW.out⟩
      case round =>
        clear S4 HW
        obtain ⟨k, hk, rfl, hown, hbw⟩ := hrel
        by_cases hlt : k < zs.length
        · obtain ⟨q1, q2, q3⟩ := half_at (fun x => x + day * 1440) zs k hlt
          have zb := ZB.out zs[k] (List.getElem_mem hlt)
          have cz := hown.at k q1
          have hll : zs.length = ((zs.take k).map (fun x => x + day * 1440) ++ zs.drop k).length := by rw [List.length_append, List.length_map, List.length_take, List.length_drop]; omega
          have fz := hown.frozen hll k
          rw [q2] at cz
          have P := Lib.hid (hown.put hll k (zs[k] + day * 1440))
          obtain ⟨x, hx⟩ : ∃ x, zs[k] = x := ⟨_, rfl⟩
          rw [hx] at zb cz P
          have Q3 : Hid ((((zs.take k).map (fun x => x + day * 1440) ++ zs.drop k).set k (x + day * 1440)) = (zs.take (k + 1)).map (fun x => x + day * 1440) ++ zs.drop (k + 1)) := Lib.hid (by rw [← q3, hx])
          have HB2 := Lib.hid hbw
          clear q1 q2 q3 hll hx hown hbw
          go_wp2_with fail
          go_roundw
          case rel => exact ⟨k + 1, by omega, by go_num, by rw [← Q3.out]; exact P.out.1, HB2.out.trans (P.out.2.mono hwB)⟩
          case measure => simp [intOf]; omega
        · obtain rfl : k = zs.length := by omega
          rw [List.take_length, List.drop_length, List.append_nil] at hown
          obtain ⟨ms, hms⟩ : ∃ ms, zs.map (fun x => x + day * 1440) = ms := ⟨_, rfl⟩
          have hml : zs.length = ms.length := by rw [← hms, List.length_map]
          rw [hms] at hown HE
          rw [hml] at hown hln hzl g3
          have HL := Lib.hid hml
          have CO := Lib.hid (Tryd.slices_Compact_int g 0 cap ms wr (by obtain ⟨g', cap', e0, _, _, _, _, _, hh⟩ := Lib.holds_of_ownsRow hown.1 (by simp); injection e0 with e1; injection e1 with e1; injection e1 with e1; subst e1; exact hh) (by omega) (by omega))
          have HO := Lib.hid hown
          have HB2 := Lib.hid hbw
          clear hown hbw hms hml ZB OLB OLN
          rw [HL.out]
          clear HL
          go_wp2_with fail
          refine CO.out.mono ?_
          rintro e7 w7 ⟨rfl, q7, h7⟩
          have S7 : OwnI w7 B (.slice (some ⟨g, 0, none⟩) (Lib.compact ms).length cap) (Lib.compact ms) ∧ Below B wr w7 := by rw [h7]; exact own_compact HO.out
          have S8 := Lib.hid S7
          clear h7 S7 CO
          go_wp2_with fail
          go_ret
          have hle : w.heap.size ≤ B := hwB
          refine ⟨⟨_, rfl, ?_⟩, HB2.out.trans (S8.out.2.mono hle)⟩
          rw [HE.out]
          exact S8.out.1.mono hle
theorem dayEdges_any (d s e f u o : Int) (sm : Bool) (day : Int) (w : World) (hs : 0 ≤ s ∧ s ≤ 1439) (he : 0 ≤ e ∧ e ≤ 1439) (ho : -840 ≤ o ∧ o ≤ 840) (hd : 0 ≤ day ∧ day ≤ 200000) :
    Calls Tryd.prog 45 #[.agg #[.int .i64 d, .int .i64 s, .int .i64 e, .int .i64 f, .int .i64 u], .agg #[.int .i64 o, .bool sm], .int .i64 day] w (GivesI w (dE s e o sm day)) := by
  cases sm with
  | false => exact dayEdges_false d s e f u o day w hs he ho hd
  | true => exact dayEdges_true d s e f u o day w hs he ho hd
end Go.Proofs.YtmapkiefmbgdoabDoor
