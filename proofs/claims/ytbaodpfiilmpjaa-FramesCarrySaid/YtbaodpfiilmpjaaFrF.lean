/-
  What lies between two marks: contentOf of frame, inside of the reference.
-/
import Derived.Test.YtbaodpfiilmpjaaFrE
namespace Go.Proofs.Ytbaodpfiilmpjaa.F
open Go.RowKit
open IntWalk

/-- How the reading of a frame ends. -/
inductive Ins where
  | short
  | form
  | done (acc rest : List UInt8)
def ins (l acc : List UInt8) : Ins :=
  match l with
  | [] => .short
  | c :: r =>
    if c = 192 then .done acc r
    else if c = 219 then
      match r with
      | [] => .short
      | d :: r' => if d = 220 then ins r' (acc ++ [192]) else if d = 221 then ins r' (acc ++ [219]) else .form
    else ins r (acc ++ [c])
termination_by l.length
theorem ins_nil (acc : List UInt8) : ins [] acc = .short := by rw [ins]
theorem ins_mark (r acc : List UInt8) : ins (192 :: r) acc = .done acc r := by
  rw [ins.eq_def]
  simp
theorem ins_plain (c : UInt8) (r acc : List UInt8) (h1 : c ≠ 192) (h2 : c ≠ 219) : ins (c :: r) acc = ins r (acc ++ [c]) := by
  rw [ins.eq_def]
  simp [h1, h2]
theorem ins_end (acc : List UInt8) : ins [219] acc = .short := by
  rw [ins.eq_def]
  simp
theorem ins_220 (r acc : List UInt8) : ins (219 :: 220 :: r) acc = ins r (acc ++ [192]) := by
  rw [ins.eq_def]
  simp
theorem ins_221 (r acc : List UInt8) : ins (219 :: 221 :: r) acc = ins r (acc ++ [219]) := by
  rw [ins.eq_def]
  simp
theorem ins_bad (d : UInt8) (r acc : List UInt8) (h1 : d ≠ 220) (h2 : d ≠ 221) : ins (219 :: d :: r) acc = .form := by
  rw [ins.eq_def]
  simp [h1, h2]
/-- What contentOf returns. -/
def resR (x : Ins) : Except Int (List UInt8) :=
  match x with
  | .short => .error 6
  | .form => .error 5
  | .done acc rest => if rest = [] then .ok acc else .error 5
def contR (l : List UInt8) : Except Int (List UInt8) :=
  match l with
  | [] => .error 6
  | c :: r => if c ≠ 192 then .error 5 else resR (ins r [])
/-- A new row with these bytes, or the error. -/
def Gives (w : World) (r : Except Int (List UInt8)) (e : Ending) (w' : World) : Prop :=
  (match r with
  | .ok acc => ∃ v, e = .returned (.tuple #[v, .int .i64 0]) ∧ OwnB w' w.heap.size v acc
  | .error k => e = .returned (.tuple #[.slice none 0 0, .int .i64 k])) ∧ Below w.heap.size w w'
theorem gives_err {w w' : World} {r : Except Int (List UInt8)} {k : Int} (h : r = .error k) (hb : Below w.heap.size w w') : Gives w r (.returned (.tuple #[.slice none 0 0, .int .i64 k])) w' := by subst h; exact ⟨rfl, hb⟩
theorem gives_ok {w w' : World} {r : Except Int (List UInt8)} {v : Value} {acc : List UInt8} (h : r = .ok acc) (ho : OwnB w' w.heap.size v acc) (hb : Below w.heap.size w w') : Gives w r (.returned (.tuple #[v, .int .i64 0])) w' := by subst h; exact ⟨⟨v, rfl, ho⟩, hb⟩
theorem contR_of {l : List UInt8} {r : List UInt8} {x : Ins} (h : l = 192 :: r) (hx : ins r [] = x) : contR l = resR x := by
  subst h; subst hx; unfold contR; simp only [ne_eq, not_true_eq_false, if_false]
theorem resR_done (acc : List UInt8) : resR (.done acc []) = .ok acc := by unfold resR; simp
theorem resR_more (acc rest : List UInt8) (h : rest ≠ []) : resR (.done acc rest) = .error 5 := by unfold resR; simp [h]
theorem drop_ne (l : List UInt8) (k : Nat) (h : k < l.length) : l.drop k ≠ [] := fun e => by have := congrArg List.length e; simp at this; omega

set_option maxHeartbeats 1000000 in
theorem unescape_220 (w : World) : Calls Try.prog 32 #[.int .u8 220] w fun e w' => e = .returned (.tuple #[.int .u8 192, .bool true]) ∧ w = w' := by
  go_enter Try.func32, Try.ntmps32
  go_wp2
  go_ret2
  exact ⟨rfl, rfl⟩
set_option maxHeartbeats 1000000 in
theorem unescape_221 (w : World) : Calls Try.prog 32 #[.int .u8 221] w fun e w' => e = .returned (.tuple #[.int .u8 219, .bool true]) ∧ w = w' := by
  go_enter Try.func32, Try.ntmps32
  go_wp2
  go_ret2
  exact ⟨rfl, rfl⟩
set_option maxHeartbeats 1000000 in
theorem unescape_bad (y : Int) (w : World) (h1 : (y == 220) = false) (h2 : (y == 221) = false) : Calls Try.prog 32 #[.int .u8 y] w fun e w' => e = .returned (.tuple #[.int .u8 0, .bool false]) ∧ w = w' := by
  go_enter Try.func32, Try.ntmps32
  go_wp2
  go_ret2
  exact ⟨rfl, rfl⟩

set_option maxHeartbeats 1000000 in
set_option maxRecDepth 10000 in
theorem content_none (p : Option Addr) (c : Nat) (w : World) :
    Calls Try.prog 29 #[.slice p 0 c] w fun e w' => e = .returned (.tuple #[.slice none 0 0, .int .i64 6]) ∧ w = w' := by
  go_enter Try.func29, Try.ntmps29
  go_wp2
  go_ret2
  exact ⟨rfl, rfl⟩
theorem drop_two (l : List UInt8) (k : Nat) (h : k + 1 < l.length) : l.drop k = l[k] :: l[k + 1] :: l.drop (k + 2) := by
  rw [List.drop_eq_getElem_cons (show k < l.length by omega), List.drop_eq_getElem_cons h]
theorem byte_eq (x k : UInt8) (h : x = k) : (x.toNat : Int) = k.toNat := by rw [h]
/-- The tests of a byte, as the walk asks them. -/
theorem tst (x k : UInt8) : ((x.toNat : Int) == (k.toNat : Int)) = decide (x = k) := by
  by_cases h : x = k
  · subst h; simp
  · rw [decide_eq_false h]; exact bne_ x k h

set_option maxHeartbeats 8000000 in
set_option maxRecDepth 10000 in
theorem content_some (b o c : Nat) (l : List UInt8) (w : World) (hl : l.length ≤ 100000) (hn : l ≠ []) (hR : AtB w b o l) :
    Calls Try.prog 29 #[.slice (some ⟨b, o, none⟩) l.length c] w (Gives w (contR l)) := by
  have hbw := hR.1
  have hpos : 0 < l.length := by cases l with | nil => exact absurd rfl hn | cons _ _ => simp
  have HR := Lib.hid hR
  obtain ⟨i0, hi, hz0, hz1, hz2⟩ := info_parts Try.byteInfo
  have hd : l = l[0] :: l.drop 1 := by
    have := List.drop_eq_getElem_cons hpos
    rwa [List.drop_zero] at this
  clear hR hn
  by_cases h0 : l[0] = 192
  · have HC := Lib.hid (fun x => contR_of (l := l) (r := l.drop 1) (x := x) (by rw [← h0]; exact hd))
    have c0 := HR.out.2 0 hpos
    rw [h0] at c0
    have c0' : w.cell? ⟨b, o, none⟩ = some (.int .u8 192) := c0
    have l0 : ((l.length : Int) == 0) = false := by rw [beq_eq_false_iff_ne]; omega
    clear hd h0 c0
    go_enter Try.func29, Try.ntmps29
    go_wp2
    clear c0'
    have H0 : Hid (OwnB w w.heap.size (.slice none 0 0) []) := Lib.hid (OwnB.none_ w _ (Nat.le_refl _))
    go_loopw [4, 5] (fun v i wr => ∃ (k : Nat) (acc : List UInt8), 1 ≤ k ∧ k ≤ l.length ∧ i = .int .i64 k ∧ OwnB wr w.heap.size v acc ∧ acc.length ≤ k ∧ Hid (ins (l.drop 1) [] = ins (l.drop k) acc) ∧ Below w.heap.size w wr) (fun _ i _ => l.length - (intOf i).toNat)
    case atStart => exact ⟨1, [], Nat.le_refl _, hpos, rfl, H0.out, by simp, Lib.hid rfl, Below.refl _ _⟩
    case round =>
      obtain ⟨k, acc, hk1, hk, rfl, hown, hal, HI, hbl⟩ := hrel
      have HB := Lib.hid hbl
      have HO := Lib.hid hown
      have hown1 := hown.1
      have hw0 := hown.2
      have HA := Lib.hid (HR.out.below hbl hbw)
      clear hown hbl
      by_cases hlt : k < l.length
      · have hc := HA.out.2 k hlt
        have hdk := List.drop_eq_getElem_cons hlt
        obtain ⟨x, hx⟩ : ∃ x, x = l[k] := ⟨_, rfl⟩
        rw [← hx] at hc hdk
        have HD := Lib.hid hdk
        have HX := Lib.hid hx
        unfold bv at hc
        clear hdk hx
        by_cases h1 : x = 192
        · subst h1
          have e0 : ((192 : UInt8).toNat : Int) = 192 := rfl
          rw [e0] at hc
          by_cases hlast : k + 1 < l.length
          · have HE : Hid (contR l = .error 5) := Lib.hid (by
              rw [HC.out _ (HI.out.trans (by rw [HD.out, ins_mark])), resR_more _ _ (drop_ne l _ hlast)])
            go_wp2
            go_ret2
            exact gives_err HE.out HB.out
          · have HE : Hid (contR l = .ok acc) := Lib.hid (by
              rw [HC.out _ (HI.out.trans (by rw [HD.out, ins_mark])), List.drop_eq_nil_of_le (show l.length ≤ k + 1 by omega), resR_done])
            go_wp2
            go_ret2
            exact gives_ok HE.out HO.out HB.out
        · by_cases h2 : x = 219
          · subst h2
            have e0 : ((219 : UInt8).toNat : Int) = 219 := rfl
            rw [e0] at hc
            by_cases hlast : k + 1 < l.length
            · have hc2 := HA.out.2 (k + 1) hlast
              have hdk := List.drop_eq_getElem_cons hlast
              obtain ⟨z, hz⟩ : ∃ z, z = l[k + 1] := ⟨_, rfl⟩
              rw [← hz] at hc2 hdk
              have HD2 := Lib.hid hdk
              unfold bv at hc2
              clear hdk hz
              have t1 : ((k : Int) + 1 == (l.length : Int)) = false := by rw [beq_eq_false_iff_ne]; omega
              by_cases z1 : z = 220
              · subst z1
                have e0 : ((220 : UInt8).toNat : Int) = 220 := rfl
                rw [e0] at hc2
                have HN : Hid (ins (l.drop 1) [] = ins (l.drop (k + 2)) (acc ++ [192])) := Lib.hid (by rw [HI.out, HD.out, HD2.out, ins_220])
                go_wp2_with (first
                  | (go_at_call 32; refine (unescape_220 _).mono ?_; rintro e w5 ⟨rfl, rfl⟩)
                  | (at_builtin; refine wpList_append_own_at _ rfl _ _ 23 rfl w.heap.size 5 i0 (.int .u8 0) 1 1 Try.underlying23 hi hz0 hz1 hz2 rfl (by decide) _ _ _ rfl (hown1.alloc _) ⟨wr.heap.size, 0, none⟩ 1 1 [.int .u8 192] rfl rfl (lit_cells wr [.int .u8 192] _) (bv_one [192]) (by unfold maxLen; omega) (by omega) (le_alloc hw0 _) ?_; intro v' w1 hown' hgrow _ _))
                obtain ⟨o1, o2⟩ := own_more HO.out (news := [192]) rfl rfl hown' hgrow
                have O := Lib.hid (And.intro o1 (HB.out.trans o2))
                clear o1 o2 hown' hgrow hown1
                go_wp2
                go_roundw
                case rel => exact ⟨k + 2, acc ++ [192], by omega, by omega, by go_num, O.out.1, by simp; omega, HN, O.out.2⟩
                case measure => simp [intOf]; omega
              · by_cases z2 : z = 221
                · subst z2
                  have e0 : ((221 : UInt8).toNat : Int) = 221 := rfl
                  rw [e0] at hc2
                  have HN : Hid (ins (l.drop 1) [] = ins (l.drop (k + 2)) (acc ++ [219])) := Lib.hid (by rw [HI.out, HD.out, HD2.out, ins_221])
                  go_wp2_with (first
                    | (go_at_call 32; refine (unescape_221 _).mono ?_; rintro e w5 ⟨rfl, rfl⟩)
                    | (at_builtin; refine wpList_append_own_at _ rfl _ _ 23 rfl w.heap.size 5 i0 (.int .u8 0) 1 1 Try.underlying23 hi hz0 hz1 hz2 rfl (by decide) _ _ _ rfl (hown1.alloc _) ⟨wr.heap.size, 0, none⟩ 1 1 [.int .u8 219] rfl rfl (lit_cells wr [.int .u8 219] _) (bv_one [219]) (by unfold maxLen; omega) (by omega) (le_alloc hw0 _) ?_; intro v' w1 hown' hgrow _ _))
                  obtain ⟨o1, o2⟩ := own_more HO.out (news := [219]) rfl rfl hown' hgrow
                  have O := Lib.hid (And.intro o1 (HB.out.trans o2))
                  clear o1 o2 hown' hgrow hown1
                  go_wp2
                  go_roundw
                  case rel => exact ⟨k + 2, acc ++ [219], by omega, by omega, by go_num, O.out.1, by simp; omega, HN, O.out.2⟩
                  case measure => simp [intOf]; omega
                · have HE : Hid (contR l = .error 5) := Lib.hid (by rw [HC.out _ (HI.out.trans (by rw [HD.out, HD2.out, ins_bad z _ _ z1 z2]))]; rfl)
                  have q1 := bne_ z 220 z1
                  have q2 := bne_ z 221 z2
                  have hzb := z.toNat_lt
                  obtain ⟨y, hy⟩ : ∃ y, y = z.toNat := ⟨_, rfl⟩
                  rw [← hy] at hc2 q1 q2 hzb
                  have CU := Lib.hid (fun W => unescape_bad (y : Int) W q1 q2)
                  clear hy z1 z2 q1 q2
                  go_wp2_with (go_at_call 32; refine (CU.out _).mono ?_; rintro e w5 ⟨rfl, rfl⟩)
                  go_ret2
                  exact gives_err HE.out HB.out
            · have HE : Hid (contR l = .error 6) := Lib.hid (by
                rw [HC.out _ (HI.out.trans (by rw [HD.out, List.drop_eq_nil_of_le (show l.length ≤ k + 1 by omega), ins_end]))]; rfl)
              have t1 : ((k : Int) + 1 == (l.length : Int)) = true := by rw [beq_iff_eq]; omega
              go_wp2
              go_ret2
              exact gives_err HE.out HB.out
          · have HN : Hid (ins (l.drop 1) [] = ins (l.drop (k + 1)) (acc ++ [x])) := Lib.hid (by rw [HI.out, HD.out, ins_plain x _ _ h1 h2])
            have q1 := bne_ x 192 h1
            have q2 := bne_ x 219 h2
            rw [show (((192 : UInt8).toNat : Nat) : Int) = 192 from rfl] at q1
            rw [show (((219 : UInt8).toNat : Nat) : Int) = 219 from rfl] at q2
            have hxb := x.toNat_lt
            obtain ⟨y, hy⟩ : ∃ y, y = x.toNat := ⟨_, rfl⟩
            have HY : Hid ([.int .u8 (y : Int)] = [x].map bv) := Lib.hid (by rw [hy]; rfl)
            rw [← hy] at hc q1 q2 hxb
            clear hy h1 h2
            go_wp2_with (first
              | (go_at_call 32; fail)
              | (at_builtin; refine wpList_append_own_at _ rfl _ _ 23 rfl w.heap.size 5 i0 (.int .u8 0) 1 1 Try.underlying23 hi hz0 hz1 hz2 rfl (by decide) _ _ _ rfl (hown1.alloc _) ⟨wr.heap.size, 0, none⟩ 1 1 [.int .u8 (y : Int)] rfl rfl (lit_cells wr [.int .u8 (y : Int)] _) (by intro u hu; simp at hu; subst hu; rfl) (by unfold maxLen; omega) (by omega) (le_alloc hw0 _) ?_; intro v' w1 hown' hgrow _ _))
            obtain ⟨o1, o2⟩ := own_more HO.out (news := [x]) HY.out rfl hown' hgrow
            have O := Lib.hid (And.intro o1 (HB.out.trans o2))
            clear o1 o2 hown' hgrow hown1
            go_wp2
            go_roundw
            case rel => exact ⟨k + 1, acc ++ [x], by omega, by omega, by go_num, O.out.1, by simp; omega, HN, O.out.2⟩
            case measure => simp [intOf]; omega
      · obtain rfl : k = l.length := by omega
        have HE : Hid (contR l = .error 6) := Lib.hid (by
          rw [HC.out _ (HI.out.trans (by rw [List.drop_length, ins_nil]))]; rfl)
        go_wp2
        go_ret2
        exact gives_err HE.out HB.out
  · have HE : Hid (contR l = .error 5) := Lib.hid (by rw [hd]; unfold contR; simp [h0])
    have c0 := HR.out.2 0 hpos
    have q1 := bne_ l[0] 192 h0
    have hxb := l[0].toNat_lt
    obtain ⟨y, hy⟩ : ∃ y, y = l[0].toNat := ⟨_, rfl⟩
    unfold bv at c0
    rw [← hy] at c0 q1 hxb
    have c0' : w.cell? ⟨b, o, none⟩ = some (.int .u8 (y : Int)) := c0
    have q2 : ((y : Int) == 192) = false := q1
    clear hd h0 c0 hy q1
    go_enter Try.func29, Try.ntmps29
    go_wp2
    go_ret2
    exact gives_err HE.out (Below.refl _ _)
end Go.Proofs.Ytbaodpfiilmpjaa.F
