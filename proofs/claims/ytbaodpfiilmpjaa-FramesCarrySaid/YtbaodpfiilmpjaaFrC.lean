/-
  Rows of bytes of a call's own; escaped bytes.
-/
import Derived.Test.YtbaodpfiilmpjaaFrB
import Derived.Maps.AppendAt
import Derived.Laws.OwnMore
import Derived.Deep.Draws
namespace Go.Proofs.Ytbaodpfiilmpjaa.F
open Go.RowKit
open IntWalk

theorem Try.byteInfo : (Try.prog.info? 5).map (fun i => (i.zero, i.size, i.bytes)) = some (some (.int .u8 0), 1, 1) := by kernel_rfl
theorem bv_one (l : List UInt8) : ∀ u ∈ l.map bv, u.oneCell' = true := by
  intro u hu
  obtain ⟨c, _, rfl⟩ := List.mem_map.1 hu
  rfl
/-- A row of the call's own that holds these bytes. -/
def OwnB (w : World) (base : Nat) (v : Value) (l : List UInt8) : Prop := w.ownsRow base 5 1 v l.length (l.map bv) ∧ base ≤ w.heap.size
theorem OwnB.rd {w : World} {base : Nat} {v : Value} {l : List UInt8} (h : OwnB w base v l) : RdB w v l := by
  rcases h.1.2 with ⟨rfl, h2⟩ | ⟨g, cap, cur, rfl, _, hh, h3, h4, _, _⟩
  · have : l = [] := List.length_eq_zero_iff.1 h2
    subst this
    exact ⟨none, 0, rfl, Nat.le_refl _, Nat.zero_le _, fun h => absurd rfl h⟩
  · refine ⟨some ⟨g, 0, none⟩, cap, rfl, h3, h4, fun _ => ⟨g, 0, rfl, (h.1.lt g rfl).2, fun i hi => ?_⟩⟩
    have := h.1.cells (g := g) rfl i (bv l[i]) (by simp [hi])
    rw [Addr.add_lit] at this
    exact this
theorem OwnB.none_ (w : World) (base : Nat) (h : base ≤ w.heap.size) : OwnB w base (.slice none 0 0) [] := ⟨⟨rfl, .inl ⟨rfl, rfl⟩⟩, h⟩
theorem OwnB.new (w : World) (base n : Nat) (l : List UInt8) (g : Nat) (hg : g = w.heap.size) (hn : n = l.length) (hb : base ≤ w.heap.size) (hl : l.length ≤ 2000000) :
    OwnB (w.alloc (.cells ((l.map bv).toArray) 5)) base (.slice (some ⟨g, 0, none⟩) n n) l := by
  subst hg; subst hn
  refine ⟨⟨by simp, .inr ⟨w.heap.size, l.length, (l.map bv).toArray, rfl, hb, heap_alloc_new w _, Nat.le_refl _, by unfold maxLen; omega, by simp, by simp [List.take_of_length_le]⟩⟩, by simp; omega⟩
theorem lit_cells (w : World) (l : List Value) (t : TypeId) : ∀ j u, l[j]? = some u → (w.alloc (.cells l.toArray t)).cell? ((⟨w.heap.size, 0, none⟩ : Addr).add j) = some u := by
  intro j u hj
  have hb := heap_alloc_new w (.cells l.toArray t)
  rw [Addr.add_lit, cell_of_row _ w.heap.size (0 + j) _ _ (0, 0) hb]
  simpa using hj
theorem le_alloc {w : World} {base : Nat} (h : base ≤ w.heap.size) (o : Obj) : base ≤ (w.alloc o).heap.size := by simp; omega
/-- What an append leaves. -/
theorem own_more {w w1 : World} {base m : Nat} {v v' : Value} {l news : List UInt8} {o : Obj} {vals : List Value} (h : OwnB w base v l) (hv : vals = news.map bv) (hm : m = news.length)
    (h1 : w1.ownsRow base 5 1 v' (l.length + m) (l.map bv ++ vals)) (hg : (w.alloc o).grownBy w1 v.ownBlock) : OwnB w1 base v' (l ++ news) ∧ Below base w w1 := by
  have hb : Below base w w1 := ((Below.refl base w).alloc h.2 o).grown hg (le_alloc h.2 o) (fun k hk => (h.1.lt k hk).1)
  refine ⟨⟨?_, Nat.le_trans h.2 hb.size⟩, hb⟩
  subst hv; subst hm
  rw [List.length_append, List.map_append]
  exact h1
/-- What lies elsewhere, is as it was. -/
theorem at_more {w w1 : World} {b q : Nat} {v v' : Value} {l : List UInt8} {o : Obj} (h : AtB w b q l) (hne : v.ownBlock ≠ some b) (hg : (w.alloc o).grownBy w1 v.ownBlock) (ha : v'.ownBlock = v.ownBlock ∨ v'.ownBlock = some (w.alloc o).heap.size) :
    AtB w1 b q l ∧ v'.ownBlock ≠ some b := by
  have hsz : w.heap.size ≤ w1.heap.size := Nat.le_trans (by simp) hg.size
  refine ⟨⟨Nat.lt_of_lt_of_le h.1 hsz, fun i hi => ?_⟩, ?_⟩
  · rw [← h.2 i hi, ← World.cell?_alloc_lt w o ⟨b, q + i, none⟩ h.1]
    exact World.cell?_of_block (hg.block b (by have := h.1; simp; omega) (fun e => hne e.symm))
  · rcases ha with e | e
    · rw [e]; exact hne
    · rw [e]; intro e2; injection e2 with e2; have := h.1; simp at e2; omega
/-- One byte more in the list of the escaped. -/
def esc1 (c : UInt8) : List UInt8 := if c = 192 then [219, 220] else if c = 219 then [219, 221] else [c]
def esc (l : List UInt8) : List UInt8 := l.flatMap esc1
theorem esc_snoc (l : List UInt8) (k : Nat) (h : k < l.length) : esc (l.take (k + 1)) = esc (l.take k) ++ esc1 l[k] := by
  unfold esc
  rw [List.take_succ_eq_append_getElem h, List.flatMap_append]; simp
theorem esc1_len (c : UInt8) : 1 ≤ (esc1 c).length ∧ (esc1 c).length ≤ 2 := by unfold esc1; split <;> (try split) <;> simp
theorem esc_len (l : List UInt8) : l.length ≤ (esc l).length ∧ (esc l).length ≤ 2 * l.length := by
  unfold esc
  induction l with
  | nil => simp
  | cons c l ih => have := esc1_len c; simp only [List.flatMap_cons, List.length_append, List.length_cons]; omega
theorem bne_ (a : UInt8) (k : UInt8) (h : a ≠ k) : ((a.toNat : Int) == (k.toNat : Int)) = false := by
  rw [beq_eq_false_iff_ne]; intro e; exact h (UInt8.toNat_inj.1 (by omega))

set_option maxHeartbeats 4000000 in
set_option maxRecDepth 10000 in
theorem escaped_some (base b o c : Nat) (v : Value) (xs l : List UInt8) (w : World) (hv : OwnB w base v xs) (hx : xs.length ≤ 1000000) (hl : l.length ≤ 100000) (hR : AtB w b o l) (hne : v.ownBlock ≠ some b) :
    Calls Try.prog 15 #[v, .slice (some ⟨b, o, none⟩) l.length c] w fun e w' => (∃ v', e = .returned v' ∧ OwnB w' base v' (xs ++ esc l)) ∧ Below base w w' := by
  have HR := Lib.hid hR
  have H0 := Lib.hid (And.intro hv hne)
  obtain ⟨i0, hi, hz0, hz1, hz2⟩ := info_parts Try.byteInfo
  clear hR hv hne
  go_enter Try.func15, Try.ntmps15
  go_wp2
  go_loopw [0, 9] (fun v i wr => ∃ (k : Nat), k ≤ l.length ∧ i = .int .i64 k ∧ OwnB wr base v (xs ++ esc (l.take k)) ∧ v.ownBlock ≠ some b ∧ AtB wr b o l ∧ Below base w wr) (fun _ i _ => l.length - (intOf i).toNat)
  case atStart => exact ⟨0, Nat.zero_le _, rfl, by simpa [esc] using H0.out.1, H0.out.2, HR.out, Below.refl _ _⟩
  case round =>
    obtain ⟨k, hk, rfl, hown, hnb, hat, hbl⟩ := hrel
    by_cases hlt : k < l.length
    · have hc := hat.2 k hlt
      have hs := esc_snoc l k hlt
      have hlen := (esc_len (l.take k)).2
      rw [List.length_take] at hlen
      obtain ⟨x, hx2⟩ : ∃ x, x = l[k] := ⟨_, rfl⟩
      rw [← hx2] at hc hs
      unfold bv at hc
      obtain ⟨ys, hys⟩ : ∃ ys, ys = xs ++ esc (l.take k) := ⟨_, rfl⟩
      have hyl : ys.length ≤ 1200000 := by rw [hys, List.length_append]; omega
      have HS : Hid (xs ++ esc (l.take (k + 1)) = ys ++ esc1 x) := Lib.hid (by rw [hs, hys, List.append_assoc])
      rw [← hys] at hown
      have hw0 := hown.2
      have HA := Lib.hid hat
      have HB := Lib.hid hbl
      have HNB := Lib.hid hnb
      have hown1 := hown.1
      clear hs hx2 hys hat hbl hnb hown hlen
      by_cases h1 : x = 192
      · subst h1
        have E1 : Hid (esc1 192 = [219, 220]) := Lib.hid rfl
        go_wp2_with (at_builtin; refine wpList_append_own_at _ rfl _ _ 23 rfl base 5 i0 (.int .u8 0) 1 1 Try.underlying23 hi hz0 hz1 hz2 rfl (by decide) _ _ _ rfl (hown1.alloc _) ⟨wr.heap.size, 0, none⟩ 2 2 [.int .u8 219, .int .u8 220] rfl rfl (lit_cells wr [.int .u8 219, .int .u8 220] _) (bv_one [219, 220]) (by unfold maxLen; omega) (by omega) (le_alloc hw0 _) ?_; intro v' w1 hown' hgrow _ hat')
        obtain ⟨o1, o2⟩ := own_more ⟨hown1, hw0⟩ (news := [219, 220]) rfl rfl hown' hgrow
        obtain ⟨o3, o4⟩ := at_more HA.out HNB.out hgrow hat'
        have O := Lib.hid (And.intro o1 (And.intro o4 (And.intro o3 (HB.out.trans o2))))
        clear o1 o2 o3 o4 hown' hgrow hat' hown1
        go_wp2
        go_roundw
        case rel => exact ⟨k + 1, by omega, by go_num, by rw [HS.out, E1.out]; exact O.out.1, O.out.2.1, O.out.2.2.1, O.out.2.2.2⟩
        case measure => simp [intOf]; omega
      · by_cases h2 : x = 219
        · subst h2
          have E1 : Hid (esc1 219 = [219, 221]) := Lib.hid rfl
          go_wp2_with (at_builtin; refine wpList_append_own_at _ rfl _ _ 23 rfl base 5 i0 (.int .u8 0) 1 1 Try.underlying23 hi hz0 hz1 hz2 rfl (by decide) _ _ _ rfl (hown1.alloc _) ⟨wr.heap.size, 0, none⟩ 2 2 [.int .u8 219, .int .u8 221] rfl rfl (lit_cells wr [.int .u8 219, .int .u8 221] _) (bv_one [219, 221]) (by unfold maxLen; omega) (by omega) (le_alloc hw0 _) ?_; intro v' w1 hown' hgrow _ hat')
          obtain ⟨o1, o2⟩ := own_more ⟨hown1, hw0⟩ (news := [219, 221]) rfl rfl hown' hgrow
          obtain ⟨o3, o4⟩ := at_more HA.out HNB.out hgrow hat'
          have O := Lib.hid (And.intro o1 (And.intro o4 (And.intro o3 (HB.out.trans o2))))
          clear o1 o2 o3 o4 hown' hgrow hat' hown1
          go_wp2
          go_roundw
          case rel => exact ⟨k + 1, by omega, by go_num, by rw [HS.out, E1.out]; exact O.out.1, O.out.2.1, O.out.2.2.1, O.out.2.2.2⟩
          case measure => simp [intOf]; omega
        · have e1 := bne_ x 192 h1
          have e2 := bne_ x 219 h2
          have E1 : Hid (esc1 x = [x]) := Lib.hid (by unfold esc1; rw [if_neg h1, if_neg h2])
          have hxb := x.toNat_lt
          obtain ⟨y, hy⟩ : ∃ y, y = x.toNat := ⟨_, rfl⟩
          have HY : Hid ([.int .u8 (y : Int)] = [x].map bv) := Lib.hid (by rw [hy]; rfl)
          rw [← hy] at hc e1 e2 hxb
          rw [show (((192 : UInt8).toNat : Nat) : Int) = 192 from rfl] at e1
          rw [show (((219 : UInt8).toNat : Nat) : Int) = 219 from rfl] at e2
          clear hy h1 h2
          go_wp2_with (at_builtin; refine wpList_append_own_at _ rfl _ _ 23 rfl base 5 i0 (.int .u8 0) 1 1 Try.underlying23 hi hz0 hz1 hz2 rfl (by decide) _ _ _ rfl (hown1.alloc _) ⟨wr.heap.size, 0, none⟩ 1 1 [.int .u8 (y : Int)] rfl rfl (lit_cells wr [.int .u8 (y : Int)] _) (by intro u hu; simp at hu; subst hu; rfl) (by unfold maxLen; omega) (by omega) (le_alloc hw0 _) ?_; intro v' w1 hown' hgrow _ hat')
          obtain ⟨o1, o2⟩ := own_more ⟨hown1, hw0⟩ (news := [x]) HY.out rfl hown' hgrow
          obtain ⟨o3, o4⟩ := at_more HA.out HNB.out hgrow hat'
          have O := Lib.hid (And.intro o1 (And.intro o4 (And.intro o3 (HB.out.trans o2))))
          clear o1 o2 o3 o4 hown' hgrow hat' hown1
          go_wp2
          go_roundw
          case rel => exact ⟨k + 1, by omega, by go_num, by rw [HS.out, E1.out]; exact O.out.1, O.out.2.1, O.out.2.2.1, O.out.2.2.2⟩
          case measure => simp [intOf]; omega
    · obtain rfl : k = l.length := by omega
      rw [List.take_length] at hown
      have HO := Lib.hid hown
      have HB := Lib.hid hbl
      clear hown hbl hat hnb
      go_wp2
      go_ret
      exact ⟨⟨_, rfl, HO.out⟩, HB.out⟩
end Go.Proofs.Ytbaodpfiilmpjaa.F
