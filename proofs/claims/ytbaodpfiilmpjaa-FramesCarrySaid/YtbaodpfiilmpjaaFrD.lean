/-
  Frames: what Pack returns.
-/
import Derived.Test.YtbaodpfiilmpjaaFrC
namespace Go.Proofs.Ytbaodpfiilmpjaa.F
open Go.RowKit
open IntWalk

set_option maxHeartbeats 1000000 in
set_option maxRecDepth 10000 in
theorem escaped_none (p : Option Addr) (v : Value) (c : Nat) (w : World) :
    Calls Try.prog 15 #[v, .slice p 0 c] w fun e w' => e = .returned v ∧ w = w' := by
  go_enter Try.func15, Try.ntmps15
  go_wp2
  refine wp_loop_rounds 1 ?_
  rw [rounds_succ]
  go_wp2
  go_ret
  exact ⟨rfl, rfl⟩
/-- A slice lies in another block than a row. -/
def Apart (v u : Value) : Prop := ∀ b o n c, u = .slice (some ⟨b, o, none⟩) n c → v.ownBlock ≠ some b
theorem escaped_run (base : Nat) (v u : Value) (xs l : List UInt8) (w : World) (hv : OwnB w base v xs) (hx : xs.length ≤ 1000000) (hl : l.length ≤ 100000) (hR : RdB w u l) (hne : l ≠ [] → Apart v u) :
    Calls Try.prog 15 #[v, u] w fun e w' => (∃ v', e = .returned v' ∧ OwnB w' base v' (xs ++ esc l)) ∧ Below base w w' := by
  obtain ⟨p, c, rfl, _, _, h⟩ := hR
  by_cases hn : l = []
  · subst hn
    refine (escaped_none p v c w).mono fun e w' ⟨he, hw⟩ => ?_
    subst hw
    exact ⟨⟨v, he, by simpa [esc] using hv⟩, Below.refl _ _⟩
  · obtain ⟨b, o, rfl, ha⟩ := h hn
    exact escaped_some base b o c v xs l w hv hx hl ha (hne hn b o _ _ rfl)
/-- The checksum as two bytes. -/
def hiB (s : Nat) : UInt8 := UInt8.ofNat (s / 256)
def loB (s : Nat) : UInt8 := UInt8.ofNat (s % 256)
theorem hiB_nat (s : Nat) (h : s < 65536) : (hiB s).toNat = s / 256 := by unfold hiB; rw [UInt8.toNat_ofNat']; omega
theorem loB_nat (s : Nat) : (loB s).toNat = s % 256 := by unfold loB; rw [UInt8.toNat_ofNat']; omega
/-- The content of a payload with a checksum, and what stands for it between two marks. -/
def cont (l : List UInt8) (s : Nat) : List UInt8 := l ++ [hiB s, loB s]
def stuff (l : List UInt8) : List UInt8 := 192 :: (esc l ++ [192])
/-- The frame of a payload. -/
def frm (l : List UInt8) : List UInt8 := stuff (cont l (crc l))
theorem esc_app (l m : List UInt8) : esc (l ++ m) = esc l ++ esc m := by unfold esc; rw [List.flatMap_append]
theorem frm_parts (l : List UInt8) : [192] ++ esc l ++ esc [hiB (crc l), loB (crc l)] ++ [192] = frm l := by
  unfold frm stuff cont; rw [esc_app]; simp
theorem own_block_below {w : World} {base : Nat} {v : Value} {l : List UInt8} (h : OwnB w base v l) {b : Nat} (hb : b < base) : v.ownBlock ≠ some b := fun e => by
  have := (h.1.lt b e).1; omega
theorem own_block_new {w : World} {base : Nat} {v : Value} {l : List UInt8} (h : OwnB w base v l) {b : Nat} (hb : w.heap.size ≤ b) : v.ownBlock ≠ some b := fun e => by
  have := (h.1.lt b e).2; omega
theorem apart_below {w w0 : World} {v u : Value} {l m : List UInt8} (h : OwnB w w0.heap.size v l) (hu : RdB w0 u m) (hn : m ≠ []) : Apart v u := by
  obtain ⟨p, c, rfl, _, _, h3⟩ := hu
  obtain ⟨b, o, rfl, ha⟩ := h3 hn
  intro b' o' n' c' e
  injection e with e1
  injection e1 with e1
  injection e1 with e1
  subst e1
  exact own_block_below h ha.1
theorem OwnB.more {w : World} {base : Nat} {v : Value} {l : List UInt8} (h : OwnB w base v l) (o : Obj) : OwnB (w.alloc o) base v l := ⟨h.1.alloc o, le_alloc h.2 o⟩
theorem apart_new {w : World} {base : Nat} {v : Value} {l : List UInt8} (h : OwnB w base v l) (o n c : Nat) : Apart v (.slice (some ⟨w.heap.size, o, none⟩) n c) := by
  intro b' o' n' c' e
  injection e with e1
  injection e1 with e1
  injection e1 with e1
  subst e1
  exact own_block_new h (Nat.le_refl _)
theorem frm_len (l : List UInt8) : (frm l).length ≤ 2 * l.length + 6 := by
  unfold frm stuff cont
  have := (esc_len (l ++ [hiB (crc l), loB (crc l)])).2
  simp only [List.length_append, List.length_cons, List.length_nil] at this ⊢
  omega
theorem sb_is {v : Value} {k : Int} : Ending.returned (.tuple #[v, .int .i64 k]) = .returned (.tuple #[v, .int .i64 k]) := rfl

set_option maxHeartbeats 2000000 in
set_option maxRecDepth 10000 in
theorem pack_big (p : Option Addr) (n c : Nat) (w : World) (h : 4096 < n) (hc : n ≤ maxLen) :
    Calls Try.prog 6 #[.slice p n c] w fun e w' => e = .returned (.tuple #[.slice none 0 0, .int .i64 3]) ∧ w = w' := by
  unfold maxLen at hc
  go_enter Try.func6, Try.ntmps6
  go_wp2
  go_ret2
  exact ⟨rfl, rfl⟩

set_option maxHeartbeats 2000000 in
set_option maxRecDepth 10000 in
theorem pack_run (u : Value) (l : List UInt8) (w : World) (hl : l.length ≤ 4096) (hR : RdB w u l) :
    Calls Try.prog 6 #[u] w fun e w' => (∃ v, e = .returned (.tuple #[v, .int .i64 0]) ∧ OwnB w' w.heap.size v (frm l)) ∧ Below w.heap.size w w' := by
  have HR := Lib.hid hR
  obtain ⟨p, c, rfl, _, hcm, _⟩ := hR
  unfold maxLen at hcm
  have CS := Lib.hid (fun W h => sum_run (.slice p l.length c) l W (by omega) h)
  obtain ⟨S, hS⟩ : ∃ S, S = crc l := ⟨_, rfl⟩
  have hs := crc_lt l
  rw [← hS] at CS hs
  have HP := Lib.hid (frm_parts l)
  rw [← hS] at HP
  have EH : Hid (Value.int .u8 ((S : Int) / 256) = bv (hiB S)) := Lib.hid (by unfold bv; rw [hiB_nat S hs]; rfl)
  have EL : Hid (Value.int .u8 ((S : Int) % 256) = bv (loB S)) := Lib.hid (by unfold bv; rw [loB_nat S]; rfl)
  clear hS
  obtain ⟨i0, hi, hz0, hz1, hz2⟩ := info_parts Try.byteInfo
  go_enter Try.func6, Try.ntmps6
  go_wp2_with fail
  refine (CS.out _ HR.out).mono ?_
  rintro e w1 ⟨rfl, rfl⟩
  go_wp2_with fail
  have o1 := OwnB.new w w.heap.size 1 [192] _ rfl rfl (Nat.le_refl _) (by decide)
  have R1 := HR.out.below ((Below.refl _ w).alloc (Nat.le_refl _) (.cells (([192] : List UInt8).map bv).toArray 5))
  refine (escaped_run w.heap.size _ (.slice p l.length c) [192] l _ o1 (by decide) (by omega) R1 (fun hn => apart_below o1 HR.out hn)).mono ?_
  clear o1 R1
  rintro e w2 ⟨⟨v2, rfl, o2⟩, b2⟩
  have O2 := Lib.hid o2
  have B2 := Lib.hid (((Below.refl _ w).alloc (Nat.le_refl _) (.cells (([192] : List UInt8).map bv).toArray 5)).trans b2)
  clear o2 b2
  go_wp2_with fail
  rw [EH.out, EL.out]
  refine (escaped_run w.heap.size v2 _ ([192] ++ esc l) [hiB S, loB S] _ (O2.out.more _) (by rw [List.length_append]; have := (esc_len l).2; simp; omega) (by simp) (OwnB.new w2 w2.heap.size 2 [hiB S, loB S] _ rfl rfl (Nat.le_refl _) (by simp)).rd (fun _ => apart_new O2.out _ _ _)).mono ?_
  rintro e w3 ⟨⟨v3, rfl, o3⟩, b3⟩
  have B3 := Lib.hid ((B2.out.alloc O2.out.2 (.cells (([hiB S, loB S] : List UInt8).map bv).toArray 5)).trans b3)
  have O3 := Lib.hid o3
  have hown1 := o3.1
  have hw0 := o3.2
  have hln : ([192] ++ esc l ++ esc [hiB S, loB S]).length ≤ 100000 := by
    rw [List.length_append, List.length_append]
    have := (esc_len l).2
    have := (esc_len [hiB S, loB S]).2
    simp at *
    omega
  obtain ⟨ys, hys⟩ : ∃ ys, ys = [192] ++ esc l ++ esc [hiB S, loB S] := ⟨_, rfl⟩
  rw [← hys] at hown1 hln O3 HP
  clear o3 b3 EH EL O2 B2 hys
  go_wp2_with (at_builtin; refine wpList_append_own_at _ rfl _ _ 23 rfl w.heap.size 5 i0 (.int .u8 0) 1 1 Try.underlying23 hi hz0 hz1 hz2 rfl (by decide) _ _ _ rfl (hown1.alloc _) ⟨w3.heap.size, 0, none⟩ 1 1 [.int .u8 192] rfl rfl (lit_cells w3 [.int .u8 192] _) (bv_one [192]) (by unfold maxLen; omega) (by omega) (le_alloc hw0 _) ?_; intro v' w4 hown' hgrow _ _)
  obtain ⟨o1, o2⟩ := own_more O3.out (news := [192]) rfl rfl hown' hgrow
  rw [HP.out] at o1
  have O := Lib.hid (And.intro o1 (B3.out.trans o2))
  clear o1 o2 hown' hgrow hown1
  go_wp2
  go_ret2
  exact ⟨⟨_, rfl, O.out.1⟩, O.out.2⟩
end Go.Proofs.Ytbaodpfiilmpjaa.F
