/-
  What combine of the package series returns, with one of its closures.
-/
import Derived.Test.YtapfinnbfnhdbabSerG0
namespace Go.Proofs.Ytapfinnbfnhdbab
open Go.RowKit
open Ser
set_option linter.unusedVariables false

set_option maxHeartbeats 40000000 in
set_option maxRecDepth 1000000 in
theorem combine_clip (va vb : Value) (la lb : List St) (w : World) (lena : la.length ≤ 1000) (lenb : lb.length ≤ 1000) (bda : Bd (-1099511627776) 1099511627776 la) (bdb : Bd 0 1 lb) (ha : Rd w va la) (hb : Rd w vb lb) :
    Calls Try.prog 36 #[va, vb, .func (.func 42) #[] #[]] w (GivesL w (combL (fMul) la lb)) := by
  obtain ⟨i0, hi, hz0, hz1, hz2⟩ := info_parts info_step
  have HA := Lib.hid ha
  have HB := Lib.hid hb
  have BA := Lib.hid bda
  have BB := Lib.hid bdb
  clear ha hb bda bdb
  go_enter Try.func36, Try.ntmps36
  go_wp2_with fail
  go_loopw [0, 1, 7, 8, 9] (fun s0 s1 v s8 s9 wr => ∃ (a b al : List St) (x y : Int), s8 = .int .i64 x ∧ s9 = .int .i64 y ∧ (-1099511627776 ≤ x ∧ x ≤ 1099511627776) ∧ (0 ≤ y ∧ y ≤ 1) ∧ Hid (Bd (-1099511627776) 1099511627776 a) ∧ Hid (Bd 0 1 b) ∧
      a.length ≤ 1000 ∧ b.length ≤ 1000 ∧ Hid (Rd w s0 a) ∧ Hid (Rd w s1 b) ∧ wr.ownsRow w.heap.size 30 2 v al.length (stV al) ∧ Below w.heap.size w wr ∧ Hid (Mid (fMul) la lb a b x y al))
    (fun s0 s1 _ _ _ _ => (match s0 with | .slice _ n _ => n | _ => 0) + (match s1 with | .slice _ n _ => n | _ => 0))
  case atStart => exact ⟨la, lb, [], 0, 0, rfl, rfl, by omega, by omega, BA, BB, lena, lenb, HA, HB, World.ownsRow_nil _ _ _ _, Below.refl _ _, Lib.hid (List.nil_append _)⟩
  case round =>
    obtain ⟨a, b, al, x, y, rfl, rfl, ⟨x1, x2⟩, ⟨y1, y2⟩, Ba, Bb, la1, lb1, Ra, Rb, hown, hbw, HM⟩ := hrel
    have hal : al.length ≤ 2000 := by have := HM.out.len; omega
    obtain ⟨p, c, rfl, hc1, hc2, hp⟩ := Ra.out
    obtain ⟨p', c', rfl, hc1', hc2', hp'⟩ := Rb.out
    cases a with
    | nil =>
      cases b with
      | nil =>
        clear hp hp'
        go_wp2_with fail
        refine (normal_any _ al wr (by omega) (Rd.own hown)).mono ?_
        rintro e w1 ⟨v', rfl, ho, hb⟩
        go_wp2_with fail
        go_ret
        exact ⟨_, rfl, by rw [← HM.out.done]; exact ho, hbw.trans (hb.mono hbw.size)⟩
      | cons u b =>
        obtain ⟨u1, u2⟩ := u
        obtain ⟨b2, o2, rfl, hat'⟩ := hp' (by simp)
        obtain ⟨g1, g2⟩ := hat'.get hbw 0 (by simp)
        simp only [Nat.zero_mul, Nat.add_zero, List.getElem_cons_zero] at g1 g2
        obtain ⟨z3, z4⟩ := Bb.out.head
        have HT2 := Lib.hid hat'
        simp only [List.length_cons, List.length_nil] at *
        have FT := Lib.hid (fun W hW => ft_left p c b2 o2 (b.length + 1) c' u1 W hW (by omega))
        clear hp hp' hat'
        go_wp2_with fail
        refine (FT.out _ g1).mono ?_
        rintro e w1 ⟨rfl, rfl⟩
        go_wp2_with fail
        go_quiet (fail)
        go_wp2_with fail
        · have RE2 := Lib.hid (rd_end (w := w) (p := some ⟨b2, o2, none⟩) ‹c' = 1› hc1')
          clear ‹c' = 1›
          refine (clipC_any x u2 _ x1 x2 z3 z4).mono ?_
          rintro e w1 ⟨rfl, rfl⟩
          go_wp2_with (at_builtin; refine wpList_append_own _ rfl _ _ 22 rfl w.heap.size 30 i0 (.agg #[.int .i64 0, .int .i64 0]) 2 16 Try.underlying22 hi hz0 hz1 hz2 rfl (by decide) _ _ _ rfl ((own_dN hown _).alloc _) ⟨wr.heap.size, 0, none⟩ 1 1 [.int .i64 u1, .int .i64 (fMul x u2)] rfl rfl (news_at _ _ _ _ _ rfl) (news_one _ _) ?c3 ?c4 ?c5 ?_)
          case c3 => unfold maxLen; omega
          case c4 => omega
          case c5 => have := hbw.size; simp; omega
          intro v' w1 hown' hgrow _
          have R := own_app1 (Nat.le_refl _) (own_dN hown _) (dNb hbw _) hown' hgrow
          clear hown hown' hgrow
          go_wp2_with fail
          go_roundw
          case rel => exact ⟨[], b, _, x, u2, rfl, rfl, ⟨x1, x2⟩, ⟨z3, z4⟩, Ba, Lib.hid Bb.out.tail, by first | omega | (simp; omega), by first | omega | (simp; omega), Ra, RE2, R.1, R.2, Lib.hid HM.out.right⟩
          case measure => simp <;> omega
        · refine (clipC_any x u2 _ x1 x2 z3 z4).mono ?_
          rintro e w1 ⟨rfl, rfl⟩
          go_wp2_with (at_builtin; refine wpList_append_own _ rfl _ _ 22 rfl w.heap.size 30 i0 (.agg #[.int .i64 0, .int .i64 0]) 2 16 Try.underlying22 hi hz0 hz1 hz2 rfl (by decide) _ _ _ rfl ((own_dN hown _).alloc _) ⟨wr.heap.size, 0, none⟩ 1 1 [.int .i64 u1, .int .i64 (fMul x u2)] rfl rfl (news_at _ _ _ _ _ rfl) (news_one _ _) ?c3 ?c4 ?c5 ?_)
          case c3 => unfold maxLen; omega
          case c4 => omega
          case c5 => have := hbw.size; simp; omega
          intro v' w1 hown' hgrow _
          have R := own_app1 (Nat.le_refl _) (own_dN hown _) (dNb hbw _) hown' hgrow
          clear hown hown' hgrow
          go_wp2_with fail
          go_roundw
          case rel => exact ⟨[], b, _, x, u2, rfl, rfl, ⟨x1, x2⟩, ⟨z3, z4⟩, Ba, Lib.hid Bb.out.tail, by first | omega | (simp; omega), by first | omega | (simp; omega), Ra, Lib.hid (rd_tail HT2.out hc1' hc2'), R.1, R.2, Lib.hid HM.out.right⟩
          case measure => simp <;> omega
    | cons s a =>
      obtain ⟨s1, s2⟩ := s
      obtain ⟨b1, o1, rfl, hat⟩ := hp (by simp)
      obtain ⟨g1, g2⟩ := hat.get hbw 0 (by simp)
      simp only [Nat.zero_mul, Nat.add_zero, List.getElem_cons_zero] at g1 g2
      obtain ⟨z1, z2⟩ := Ba.out.head
      have HT := Lib.hid hat
      cases b with
      | nil =>
        simp only [List.length_cons, List.length_nil] at *
        have FT := Lib.hid (fun W hW => ft_right p' c' b1 o1 (a.length + 1) c s1 W hW (by omega) (by omega))
        clear hp hp' hat
        go_wp2_with fail
        refine (FT.out _ g1).mono ?_
        rintro e w1 ⟨rfl, rfl⟩
        go_wp2_with fail
        go_quiet (fail)
        go_wp2_with fail
        · have RE1 := Lib.hid (rd_end (w := w) (p := some ⟨b1, o1, none⟩) ‹c = 1› hc1)
          clear ‹c = 1›
          refine (clipC_any s2 y _ z1 z2 y1 y2).mono ?_
          rintro e w1 ⟨rfl, rfl⟩
          go_wp2_with (at_builtin; refine wpList_append_own _ rfl _ _ 22 rfl w.heap.size 30 i0 (.agg #[.int .i64 0, .int .i64 0]) 2 16 Try.underlying22 hi hz0 hz1 hz2 rfl (by decide) _ _ _ rfl ((own_dN hown _).alloc _) ⟨wr.heap.size, 0, none⟩ 1 1 [.int .i64 s1, .int .i64 (fMul s2 y)] rfl rfl (news_at _ _ _ _ _ rfl) (news_one _ _) ?c3 ?c4 ?c5 ?_)
          case c3 => unfold maxLen; omega
          case c4 => omega
          case c5 => have := hbw.size; simp; omega
          intro v' w1 hown' hgrow _
          have R := own_app1 (Nat.le_refl _) (own_dN hown _) (dNb hbw _) hown' hgrow
          clear hown hown' hgrow
          go_wp2_with fail
          go_roundw
          case rel => exact ⟨a, [], _, s2, y, rfl, rfl, ⟨z1, z2⟩, ⟨y1, y2⟩, Lib.hid Ba.out.tail, Bb, by first | omega | (simp; omega), by first | omega | (simp; omega), RE1, Rb, R.1, R.2, Lib.hid HM.out.left⟩
          case measure => simp <;> omega
        · refine (clipC_any s2 y _ z1 z2 y1 y2).mono ?_
          rintro e w1 ⟨rfl, rfl⟩
          go_wp2_with (at_builtin; refine wpList_append_own _ rfl _ _ 22 rfl w.heap.size 30 i0 (.agg #[.int .i64 0, .int .i64 0]) 2 16 Try.underlying22 hi hz0 hz1 hz2 rfl (by decide) _ _ _ rfl ((own_dN hown _).alloc _) ⟨wr.heap.size, 0, none⟩ 1 1 [.int .i64 s1, .int .i64 (fMul s2 y)] rfl rfl (news_at _ _ _ _ _ rfl) (news_one _ _) ?c3 ?c4 ?c5 ?_)
          case c3 => unfold maxLen; omega
          case c4 => omega
          case c5 => have := hbw.size; simp; omega
          intro v' w1 hown' hgrow _
          have R := own_app1 (Nat.le_refl _) (own_dN hown _) (dNb hbw _) hown' hgrow
          clear hown hown' hgrow
          go_wp2_with fail
          go_roundw
          case rel => exact ⟨a, [], _, s2, y, rfl, rfl, ⟨z1, z2⟩, ⟨y1, y2⟩, Lib.hid Ba.out.tail, Bb, by first | omega | (simp; omega), by first | omega | (simp; omega), Lib.hid (rd_tail HT.out hc1 hc2), Rb, R.1, R.2, Lib.hid HM.out.left⟩
          case measure => simp <;> omega
      | cons u b =>
        obtain ⟨u1, u2⟩ := u
        obtain ⟨b2, o2, rfl, hat'⟩ := hp' (by simp)
        obtain ⟨f1, f2⟩ := hat'.get hbw 0 (by simp)
        simp only [Nat.zero_mul, Nat.add_zero, List.getElem_cons_zero] at f1 f2
        obtain ⟨z3, z4⟩ := Bb.out.head
        have HT2 := Lib.hid hat'
        simp only [List.length_cons] at *
        clear hp hp' hat hat'
        by_cases c1 : s1 < u1
        · have FT := Lib.hid (fun W h1 h2 => ft_le b1 o1 (a.length + 1) c b2 o2 (b.length + 1) c' s1 u1 W h1 h2 (by omega) (by omega) (by omega) (by omega) (by omega))
          have ne : (u1 == s1) = false := by simp; omega
          go_wp2_with fail
          refine (FT.out _ g1 f1).mono ?_
          rintro e w1 ⟨rfl, q1, rfl⟩
          go_wp2_with fail
          go_quiet (fail)
          go_wp2_with fail
          · have RE1 := Lib.hid (rd_end (w := w) (p := some ⟨b1, o1, none⟩) ‹c = 1› hc1)
            clear ‹c = 1›
            refine (clipC_any s2 y _ z1 z2 y1 y2).mono ?_
            rintro e w1 ⟨rfl, rfl⟩
            go_wp2_with (at_builtin; refine wpList_append_own _ rfl _ _ 22 rfl w.heap.size 30 i0 (.agg #[.int .i64 0, .int .i64 0]) 2 16 Try.underlying22 hi hz0 hz1 hz2 rfl (by decide) _ _ _ rfl ((own_dN hown _).alloc _) ⟨wr.heap.size, 0, none⟩ 1 1 [.int .i64 s1, .int .i64 (fMul s2 y)] rfl rfl (news_at _ _ _ _ _ rfl) (news_one _ _) ?c3 ?c4 ?c5 ?_)
            case c3 => unfold maxLen; omega
            case c4 => omega
            case c5 => have := hbw.size; simp; omega
            intro v' w1 hown' hgrow _
            have R := own_app1 (Nat.le_refl _) (own_dN hown _) (dNb hbw _) hown' hgrow
            clear hown hown' hgrow
            go_wp2_with fail
            go_roundw
            case rel => exact ⟨a, (u1, u2) :: b, _, s2, y, rfl, rfl, ⟨z1, z2⟩, ⟨y1, y2⟩, Lib.hid Ba.out.tail, Bb, by first | omega | (simp; omega), by first | omega | (simp; omega), RE1, Rb, R.1, R.2, Lib.hid (HM.out.lt c1)⟩
            case measure => simp <;> omega
          · refine (clipC_any s2 y _ z1 z2 y1 y2).mono ?_
            rintro e w1 ⟨rfl, rfl⟩
            go_wp2_with (at_builtin; refine wpList_append_own _ rfl _ _ 22 rfl w.heap.size 30 i0 (.agg #[.int .i64 0, .int .i64 0]) 2 16 Try.underlying22 hi hz0 hz1 hz2 rfl (by decide) _ _ _ rfl ((own_dN hown _).alloc _) ⟨wr.heap.size, 0, none⟩ 1 1 [.int .i64 s1, .int .i64 (fMul s2 y)] rfl rfl (news_at _ _ _ _ _ rfl) (news_one _ _) ?c3 ?c4 ?c5 ?_)
            case c3 => unfold maxLen; omega
            case c4 => omega
            case c5 => have := hbw.size; simp; omega
            intro v' w1 hown' hgrow _
            have R := own_app1 (Nat.le_refl _) (own_dN hown _) (dNb hbw _) hown' hgrow
            clear hown hown' hgrow
            go_wp2_with fail
            go_roundw
            case rel => exact ⟨a, (u1, u2) :: b, _, s2, y, rfl, rfl, ⟨z1, z2⟩, ⟨y1, y2⟩, Lib.hid Ba.out.tail, Bb, by first | omega | (simp; omega), by first | omega | (simp; omega), Lib.hid (rd_tail HT.out hc1 hc2), Rb, R.1, R.2, Lib.hid (HM.out.lt c1)⟩
            case measure => simp <;> omega
        · by_cases c2 : u1 < s1
          · have FT := Lib.hid (fun W h1 h2 => ft_gt b1 o1 (a.length + 1) c b2 o2 (b.length + 1) c' s1 u1 W h1 h2 (by omega) (by omega) (by omega) (by omega) c2)
            have ne : (s1 == u1) = false := by simp; omega
            go_wp2_with fail
            refine (FT.out _ g1 f1).mono ?_
            rintro e w1 ⟨rfl, q1, rfl⟩
            go_wp2_with fail
            go_quiet (fail)
            go_wp2_with fail
            · have RE2 := Lib.hid (rd_end (w := w) (p := some ⟨b2, o2, none⟩) ‹c' = 1› hc1')
              clear ‹c' = 1›
              refine (clipC_any x u2 _ x1 x2 z3 z4).mono ?_
              rintro e w1 ⟨rfl, rfl⟩
              go_wp2_with (at_builtin; refine wpList_append_own _ rfl _ _ 22 rfl w.heap.size 30 i0 (.agg #[.int .i64 0, .int .i64 0]) 2 16 Try.underlying22 hi hz0 hz1 hz2 rfl (by decide) _ _ _ rfl ((own_dN hown _).alloc _) ⟨wr.heap.size, 0, none⟩ 1 1 [.int .i64 u1, .int .i64 (fMul x u2)] rfl rfl (news_at _ _ _ _ _ rfl) (news_one _ _) ?c3 ?c4 ?c5 ?_)
              case c3 => unfold maxLen; omega
              case c4 => omega
              case c5 => have := hbw.size; simp; omega
              intro v' w1 hown' hgrow _
              have R := own_app1 (Nat.le_refl _) (own_dN hown _) (dNb hbw _) hown' hgrow
              clear hown hown' hgrow
              go_wp2_with fail
              go_roundw
              case rel => exact ⟨(s1, s2) :: a, b, _, x, u2, rfl, rfl, ⟨x1, x2⟩, ⟨z3, z4⟩, Ba, Lib.hid Bb.out.tail, by first | omega | (simp; omega), by first | omega | (simp; omega), Ra, RE2, R.1, R.2, Lib.hid (HM.out.gt c2)⟩
              case measure => simp <;> omega
            · refine (clipC_any x u2 _ x1 x2 z3 z4).mono ?_
              rintro e w1 ⟨rfl, rfl⟩
              go_wp2_with (at_builtin; refine wpList_append_own _ rfl _ _ 22 rfl w.heap.size 30 i0 (.agg #[.int .i64 0, .int .i64 0]) 2 16 Try.underlying22 hi hz0 hz1 hz2 rfl (by decide) _ _ _ rfl ((own_dN hown _).alloc _) ⟨wr.heap.size, 0, none⟩ 1 1 [.int .i64 u1, .int .i64 (fMul x u2)] rfl rfl (news_at _ _ _ _ _ rfl) (news_one _ _) ?c3 ?c4 ?c5 ?_)
              case c3 => unfold maxLen; omega
              case c4 => omega
              case c5 => have := hbw.size; simp; omega
              intro v' w1 hown' hgrow _
              have R := own_app1 (Nat.le_refl _) (own_dN hown _) (dNb hbw _) hown' hgrow
              clear hown hown' hgrow
              go_wp2_with fail
              go_roundw
              case rel => exact ⟨(s1, s2) :: a, b, _, x, u2, rfl, rfl, ⟨x1, x2⟩, ⟨z3, z4⟩, Ba, Lib.hid Bb.out.tail, by first | omega | (simp; omega), by first | omega | (simp; omega), Ra, Lib.hid (rd_tail HT2.out hc1' hc2'), R.1, R.2, Lib.hid (HM.out.gt c2)⟩
              case measure => simp <;> omega
          · obtain rfl : s1 = u1 := by omega
            have FT := Lib.hid (fun W h1 h2 => ft_le b1 o1 (a.length + 1) c b2 o2 (b.length + 1) c' s1 s1 W h1 h2 (by omega) (by omega) (by omega) (by omega) (by omega))
            go_wp2_with fail
            refine (FT.out _ g1 f1).mono ?_
            rintro e w1 ⟨rfl, q1, rfl⟩
            go_wp2_with fail
            go_quiet (fail)
            go_wp2_with fail
            · have RE1 := Lib.hid (rd_end (w := w) (p := some ⟨b1, o1, none⟩) ‹c = 1› hc1)
              clear ‹c = 1›
              go_quiet (fail)
              go_wp2_with fail
              · have RE2 := Lib.hid (rd_end (w := w) (p := some ⟨b2, o2, none⟩) ‹c' = 1› hc1')
                clear ‹c' = 1›
                refine (clipC_any s2 u2 _ z1 z2 z3 z4).mono ?_
                rintro e w1 ⟨rfl, rfl⟩
                go_wp2_with (at_builtin; refine wpList_append_own _ rfl _ _ 22 rfl w.heap.size 30 i0 (.agg #[.int .i64 0, .int .i64 0]) 2 16 Try.underlying22 hi hz0 hz1 hz2 rfl (by decide) _ _ _ rfl ((own_dN hown _).alloc _) ⟨wr.heap.size, 0, none⟩ 1 1 [.int .i64 s1, .int .i64 (fMul s2 u2)] rfl rfl (news_at _ _ _ _ _ rfl) (news_one _ _) ?c3 ?c4 ?c5 ?_)
                case c3 => unfold maxLen; omega
                case c4 => omega
                case c5 => have := hbw.size; simp; omega
                intro v' w1 hown' hgrow _
                have R := own_app1 (Nat.le_refl _) (own_dN hown _) (dNb hbw _) hown' hgrow
                clear hown hown' hgrow
                go_wp2_with fail
                go_roundw
                case rel => exact ⟨a, b, _, s2, u2, rfl, rfl, ⟨z1, z2⟩, ⟨z3, z4⟩, Lib.hid Ba.out.tail, Lib.hid Bb.out.tail, by first | omega | (simp; omega), by first | omega | (simp; omega), RE1, RE2, R.1, R.2, Lib.hid HM.out.eq⟩
                case measure => simp <;> omega
              · refine (clipC_any s2 u2 _ z1 z2 z3 z4).mono ?_
                rintro e w1 ⟨rfl, rfl⟩
                go_wp2_with (at_builtin; refine wpList_append_own _ rfl _ _ 22 rfl w.heap.size 30 i0 (.agg #[.int .i64 0, .int .i64 0]) 2 16 Try.underlying22 hi hz0 hz1 hz2 rfl (by decide) _ _ _ rfl ((own_dN hown _).alloc _) ⟨wr.heap.size, 0, none⟩ 1 1 [.int .i64 s1, .int .i64 (fMul s2 u2)] rfl rfl (news_at _ _ _ _ _ rfl) (news_one _ _) ?c3 ?c4 ?c5 ?_)
                case c3 => unfold maxLen; omega
                case c4 => omega
                case c5 => have := hbw.size; simp; omega
                intro v' w1 hown' hgrow _
                have R := own_app1 (Nat.le_refl _) (own_dN hown _) (dNb hbw _) hown' hgrow
                clear hown hown' hgrow
                go_wp2_with fail
                go_roundw
                case rel => exact ⟨a, b, _, s2, u2, rfl, rfl, ⟨z1, z2⟩, ⟨z3, z4⟩, Lib.hid Ba.out.tail, Lib.hid Bb.out.tail, by first | omega | (simp; omega), by first | omega | (simp; omega), RE1, Lib.hid (rd_tail HT2.out hc1' hc2'), R.1, R.2, Lib.hid HM.out.eq⟩
                case measure => simp <;> omega
            · go_quiet (fail)
              go_wp2_with fail
              · have RE2 := Lib.hid (rd_end (w := w) (p := some ⟨b2, o2, none⟩) ‹c' = 1› hc1')
                clear ‹c' = 1›
                refine (clipC_any s2 u2 _ z1 z2 z3 z4).mono ?_
                rintro e w1 ⟨rfl, rfl⟩
                go_wp2_with (at_builtin; refine wpList_append_own _ rfl _ _ 22 rfl w.heap.size 30 i0 (.agg #[.int .i64 0, .int .i64 0]) 2 16 Try.underlying22 hi hz0 hz1 hz2 rfl (by decide) _ _ _ rfl ((own_dN hown _).alloc _) ⟨wr.heap.size, 0, none⟩ 1 1 [.int .i64 s1, .int .i64 (fMul s2 u2)] rfl rfl (news_at _ _ _ _ _ rfl) (news_one _ _) ?c3 ?c4 ?c5 ?_)
                case c3 => unfold maxLen; omega
                case c4 => omega
                case c5 => have := hbw.size; simp; omega
                intro v' w1 hown' hgrow _
                have R := own_app1 (Nat.le_refl _) (own_dN hown _) (dNb hbw _) hown' hgrow
                clear hown hown' hgrow
                go_wp2_with fail
                go_roundw
                case rel => exact ⟨a, b, _, s2, u2, rfl, rfl, ⟨z1, z2⟩, ⟨z3, z4⟩, Lib.hid Ba.out.tail, Lib.hid Bb.out.tail, by first | omega | (simp; omega), by first | omega | (simp; omega), Lib.hid (rd_tail HT.out hc1 hc2), RE2, R.1, R.2, Lib.hid HM.out.eq⟩
                case measure => simp <;> omega
              · refine (clipC_any s2 u2 _ z1 z2 z3 z4).mono ?_
                rintro e w1 ⟨rfl, rfl⟩
                go_wp2_with (at_builtin; refine wpList_append_own _ rfl _ _ 22 rfl w.heap.size 30 i0 (.agg #[.int .i64 0, .int .i64 0]) 2 16 Try.underlying22 hi hz0 hz1 hz2 rfl (by decide) _ _ _ rfl ((own_dN hown _).alloc _) ⟨wr.heap.size, 0, none⟩ 1 1 [.int .i64 s1, .int .i64 (fMul s2 u2)] rfl rfl (news_at _ _ _ _ _ rfl) (news_one _ _) ?c3 ?c4 ?c5 ?_)
                case c3 => unfold maxLen; omega
                case c4 => omega
                case c5 => have := hbw.size; simp; omega
                intro v' w1 hown' hgrow _
                have R := own_app1 (Nat.le_refl _) (own_dN hown _) (dNb hbw _) hown' hgrow
                clear hown hown' hgrow
                go_wp2_with fail
                go_roundw
                case rel => exact ⟨a, b, _, s2, u2, rfl, rfl, ⟨z1, z2⟩, ⟨z3, z4⟩, Lib.hid Ba.out.tail, Lib.hid Bb.out.tail, by first | omega | (simp; omega), by first | omega | (simp; omega), Lib.hid (rd_tail HT.out hc1 hc2), Lib.hid (rd_tail HT2.out hc1' hc2'), R.1, R.2, Lib.hid HM.out.eq⟩
                case measure => simp <;> omega
end Go.Proofs.Ytapfinnbfnhdbab
