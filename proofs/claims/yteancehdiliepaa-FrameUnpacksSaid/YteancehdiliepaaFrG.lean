/-
  What lies between two marks, in the reference; what a slice of bytes is to both.
-/
import Derived.Test.YteancehdiliepaaFrF
namespace Go.Proofs.Yteancehdiliepaa
open Go.RowKit
open IntWalk

theorem contOf_run (u : Value) (l : List UInt8) (w : World) (hl : l.length ≤ 100000) (hR : RdB w u l) : Calls Try.prog 26 #[u] w (Gives w (contR l)) := by
  obtain ⟨p, c, rfl, _, _, h⟩ := hR
  by_cases hn : l = []
  · subst hn
    refine (content_none p c w).mono fun e w' ⟨he, hw⟩ => ?_
    subst hw; subst he
    exact gives_err rfl (Below.refl _ _)
  · obtain ⟨b, o, rfl, ha⟩ := h hn
    exact content_some b o c l w hl hn ha
/-- The end of inside. -/
def GivesI (w : World) (n : Nat) (r : Ins) (e : Ending) (w' : World) : Prop :=
  (match r with
  | .short => e = .returned (.tuple #[.slice none 0 0, .int .i64 0, .int .i64 6])
  | .form => e = .returned (.tuple #[.slice none 0 0, .int .i64 0, .int .i64 5])
  | .done acc rest => rest.length < n ∧ ∃ v, e = .returned (.tuple #[v, .int .i64 ((n : Int) - 1 - rest.length), .int .i64 0]) ∧ OwnB w' w.heap.size v acc) ∧ Below w.heap.size w w'
theorem givesI_short {w w' : World} {n : Nat} {r : Ins} (h : r = .short) (hb : Below w.heap.size w w') : GivesI w n r (.returned (.tuple #[.slice none 0 0, .int .i64 0, .int .i64 6])) w' := by subst h; exact ⟨rfl, hb⟩
theorem givesI_form {w w' : World} {n : Nat} {r : Ins} (h : r = .form) (hb : Below w.heap.size w w') : GivesI w n r (.returned (.tuple #[.slice none 0 0, .int .i64 0, .int .i64 5])) w' := by subst h; exact ⟨rfl, hb⟩
theorem givesI_done {w w' : World} {n : Nat} {r : Ins} {v : Value} {acc rest : List UInt8} {i : Int} (h : r = .done acc rest) (hi : i = (n : Int) - 1 - rest.length) (hr : rest.length < n) (ho : OwnB w' w.heap.size v acc) (hb : Below w.heap.size w w') :
    GivesI w n r (.returned (.tuple #[v, .int .i64 i, .int .i64 0])) w' := by subst h; subst hi; exact ⟨⟨hr, v, rfl, ho⟩, hb⟩

set_option maxHeartbeats 8000000 in
set_option maxRecDepth 10000 in
theorem inside_some (b o c : Nat) (l : List UInt8) (w : World) (hl : l.length ≤ 100000) (hn : l ≠ []) (hR : AtB w b o l) :
    Calls Try.prog 27 #[.slice (some ⟨b, o, none⟩) l.length c] w (GivesI w l.length (ins (l.drop 1) [])) := by
  have hbw := hR.1
  have hpos : 0 < l.length := by cases l with | nil => exact absurd rfl hn | cons _ _ => simp
  have HR := Lib.hid hR
  obtain ⟨i0, hi, hz0, hz1, hz2⟩ := info_parts Try.byteInfo
  clear hR hn
  go_enter Try.func27, Try.ntmps27
  go_wp2
  have H0 : Hid (OwnB w w.heap.size (.slice none 0 0) []) := Lib.hid (OwnB.none_ w _ (Nat.le_refl _))
  go_loopw [5, 6] (fun v i wr => ∃ (k : Nat) (acc : List UInt8), 1 ≤ k ∧ k ≤ l.length ∧ i = .int .i64 k ∧ OwnB wr w.heap.size v acc ∧ acc.length ≤ k ∧ Hid (ins (l.drop 1) [] = ins (l.drop k) acc) ∧ Below w.heap.size w wr) (fun _ i _ => l.length - (intOf i).toNat)
  case atStart => exact ⟨1, [], Nat.le_refl _, hpos, rfl, H0.out, by simp, Lib.hid rfl, Below.refl _ _⟩
  case round =>
    obtain ⟨k, acc, hk1, hk, rfl, hown, hal, HI, hbl⟩ := hrel
    have HB := Lib.hid hbl
    have HO := Lib.hid hown
    have hown1 := hown.1
    have hw0 := hown.2
    have HA := Lib.hid (HR.out.below hbl hbw)
    clear hown hbl
    by_cases hlt : k < l.length
    · have hc := HA.out.2 k hlt
      have hdk := List.drop_eq_getElem_cons hlt
      obtain ⟨x, hx⟩ : ∃ x, x = l[k] := ⟨_, rfl⟩
      rw [← hx] at hc hdk
      have HD := Lib.hid hdk
      have HX := Lib.hid hx
      unfold bv at hc
      clear hdk hx
      by_cases h1 : x = 192
      · subst h1
        have e0 : ((192 : UInt8).toNat : Int) = 192 := rfl
        rw [e0] at hc
        have HE : Hid (ins (l.drop 1) [] = .done acc (l.drop (k + 1))) := Lib.hid (by rw [HI.out, HD.out, ins_mark])
        have hdl : (l.drop (k + 1)).length = l.length - (k + 1) := by simp
        have HDL := Lib.hid hdl
        clear hdl
        go_wp2
        go_ret3
        exact givesI_done HE.out (by rw [HDL.out]; omega) (by rw [HDL.out]; omega) HO.out HB.out
      · by_cases h2 : x = 219
        · subst h2
          have e0 : ((219 : UInt8).toNat : Int) = 219 := rfl
          rw [e0] at hc
          by_cases hlast : k + 1 < l.length
          · have hc2 := HA.out.2 (k + 1) hlast
            have hdk := List.drop_eq_getElem_cons hlast
            obtain ⟨z, hz⟩ : ∃ z, z = l[k + 1] := ⟨_, rfl⟩
            rw [← hz] at hc2 hdk
            have HD2 := Lib.hid hdk
            unfold bv at hc2
            clear hdk hz
            have t1 : ((k : Int) + 1 == (l.length : Int)) = false := by rw [beq_eq_false_iff_ne]; omega
            by_cases z1 : z = 220
            · subst z1
              have e0 : ((220 : UInt8).toNat : Int) = 220 := rfl
              rw [e0] at hc2
              have HN : Hid (ins (l.drop 1) [] = ins (l.drop (k + 2)) (acc ++ [192])) := Lib.hid (by rw [HI.out, HD.out, HD2.out, ins_220])
              go_wp2_with (at_builtin; refine wpList_append_own_at _ rfl _ _ 22 rfl w.heap.size 5 i0 (.int .u8 0) 1 1 Try.underlying22 hi hz0 hz1 hz2 rfl (by decide) _ _ _ rfl (hown1.alloc _) ⟨wr.heap.size, 0, none⟩ 1 1 [.int .u8 192] rfl rfl (lit_cells wr [.int .u8 192] _) (bv_one [192]) (by unfold maxLen; omega) (by omega) (le_alloc hw0 _) ?_; intro v' w1 hown' hgrow _ _)
              obtain ⟨o1, o2⟩ := own_more HO.out (news := [192]) rfl rfl hown' hgrow
              have O := Lib.hid (And.intro o1 (HB.out.trans o2))
              clear o1 o2 hown' hgrow hown1
              go_wp2
              go_roundw
              case rel => exact ⟨k + 2, acc ++ [192], by omega, by omega, by go_num, O.out.1, by simp; omega, HN, O.out.2⟩
              case measure => simp [intOf]; omega
            · by_cases z2 : z = 221
              · subst z2
                have e0 : ((221 : UInt8).toNat : Int) = 221 := rfl
                rw [e0] at hc2
                have HN : Hid (ins (l.drop 1) [] = ins (l.drop (k + 2)) (acc ++ [219])) := Lib.hid (by rw [HI.out, HD.out, HD2.out, ins_221])
                go_wp2_with (at_builtin; refine wpList_append_own_at _ rfl _ _ 22 rfl w.heap.size 5 i0 (.int .u8 0) 1 1 Try.underlying22 hi hz0 hz1 hz2 rfl (by decide) _ _ _ rfl (hown1.alloc _) ⟨wr.heap.size, 0, none⟩ 1 1 [.int .u8 219] rfl rfl (lit_cells wr [.int .u8 219] _) (bv_one [219]) (by unfold maxLen; omega) (by omega) (le_alloc hw0 _) ?_; intro v' w1 hown' hgrow _ _)
                obtain ⟨o1, o2⟩ := own_more HO.out (news := [219]) rfl rfl hown' hgrow
                have O := Lib.hid (And.intro o1 (HB.out.trans o2))
                clear o1 o2 hown' hgrow hown1
                go_wp2
                go_roundw
                case rel => exact ⟨k + 2, acc ++ [219], by omega, by omega, by go_num, O.out.1, by simp; omega, HN, O.out.2⟩
                case measure => simp [intOf]; omega
              · have HE : Hid (ins (l.drop 1) [] = .form) := Lib.hid (by rw [HI.out, HD.out, HD2.out, ins_bad z _ _ z1 z2])
                have q1 := bne_ z 220 z1
                have q2 := bne_ z 221 z2
                rw [show (((220 : UInt8).toNat : Nat) : Int) = 220 from rfl] at q1
                rw [show (((221 : UInt8).toNat : Nat) : Int) = 221 from rfl] at q2
                have hzb := z.toNat_lt
                obtain ⟨y, hy⟩ : ∃ y, y = z.toNat := ⟨_, rfl⟩
                rw [← hy] at hc2 q1 q2 hzb
                have q3 : ((y : Int) != 220) = true := by rw [bne, q1]; rfl
                have q4 : ((y : Int) != 221) = true := by rw [bne, q2]; rfl
                clear hy z1 z2
                go_wp2
                go_ret3
                exact givesI_form HE.out HB.out
          · have HE : Hid (ins (l.drop 1) [] = .short) := Lib.hid (by rw [HI.out, HD.out, List.drop_eq_nil_of_le (show l.length ≤ k + 1 by omega), ins_end])
            have t1 : ((k : Int) + 1 == (l.length : Int)) = true := by rw [beq_iff_eq]; omega
            go_wp2
            go_ret3
            exact givesI_short HE.out HB.out
        · have HN : Hid (ins (l.drop 1) [] = ins (l.drop (k + 1)) (acc ++ [x])) := Lib.hid (by rw [HI.out, HD.out, ins_plain x _ _ h1 h2])
          have q1 := bne_ x 192 h1
          have q2 := bne_ x 219 h2
          rw [show (((192 : UInt8).toNat : Nat) : Int) = 192 from rfl] at q1
          rw [show (((219 : UInt8).toNat : Nat) : Int) = 219 from rfl] at q2
          have hxb := x.toNat_lt
          obtain ⟨y, hy⟩ : ∃ y, y = x.toNat := ⟨_, rfl⟩
          have HY : Hid ([.int .u8 (y : Int)] = [x].map bv) := Lib.hid (by rw [hy]; rfl)
          rw [← hy] at hc q1 q2 hxb
          clear hy h1 h2
          go_wp2_with (at_builtin; refine wpList_append_own_at _ rfl _ _ 22 rfl w.heap.size 5 i0 (.int .u8 0) 1 1 Try.underlying22 hi hz0 hz1 hz2 rfl (by decide) _ _ _ rfl (hown1.alloc _) ⟨wr.heap.size, 0, none⟩ 1 1 [.int .u8 (y : Int)] rfl rfl (lit_cells wr [.int .u8 (y : Int)] _) (by intro u hu; simp at hu; subst hu; rfl) (by unfold maxLen; omega) (by omega) (le_alloc hw0 _) ?_; intro v' w1 hown' hgrow _ _)
          obtain ⟨o1, o2⟩ := own_more HO.out (news := [x]) HY.out rfl hown' hgrow
          have O := Lib.hid (And.intro o1 (HB.out.trans o2))
          clear o1 o2 hown' hgrow hown1
          go_wp2
          go_roundw
          case rel => exact ⟨k + 1, acc ++ [x], by omega, by omega, by go_num, O.out.1, by simp; omega, HN, O.out.2⟩
          case measure => simp [intOf]; omega
    · obtain rfl : k = l.length := by omega
      have HE : Hid (ins (l.drop 1) [] = .short) := Lib.hid (by rw [HI.out, List.drop_length, ins_nil])
      go_wp2
      go_ret3
      exact givesI_short HE.out HB.out
end Go.Proofs.Yteancehdiliepaa
