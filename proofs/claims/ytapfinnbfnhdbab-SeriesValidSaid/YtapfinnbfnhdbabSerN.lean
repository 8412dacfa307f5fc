/-
  What series.Normal returns.
-/
import Derived.Test.YtapfinnbfnhdbabSerK
namespace Go.Proofs.Ytapfinnbfnhdbab
open Go.RowKit
open Ser
set_option linter.unusedVariables false

set_option maxHeartbeats 1600000 in
set_option maxRecDepth 1000000 in
theorem normal_some (b o c : Nat) (l : List St) (w : World) (hl : l.length ≤ 2000000) (hR : At w b o l) :
    Calls Try.prog 14 #[.slice (some ⟨b, o, none⟩) l.length c] w fun e w' => ∃ v, e = .returned v ∧ w'.ownsRow w.heap.size 30 2 v (nL 0 l).length (stV (nL 0 l)) ∧ Below w.heap.size w w' := by
  obtain ⟨i0, hi, hz0, hz1, hz2⟩ := info_parts info_step
  have HR := Lib.hid hR
  clear hR
  go_enter Try.func14, Try.ntmps14
  go_wp2
  go_loopw [3, 4, 9] (fun v x i wr => ∃ k : Nat, k ≤ l.length ∧ i = .int .i64 k ∧ x = .int .i64 (lastV 0 (l.take k)) ∧ wr.ownsRow w.heap.size 30 2 v (nL 0 (l.take k)).length (stV (nL 0 (l.take k))) ∧ Below w.heap.size w wr)
    (fun _ _ i _ => l.length - (intOf i).toNat)
  case atStart => exact ⟨0, Nat.zero_le _, rfl, rfl, World.ownsRow_nil _ _ _ _, Below.refl _ _⟩
  case round =>
    obtain ⟨k, hk, rfl, rfl, hown, hb⟩ := hrel
    by_cases hlt : k < l.length
    · obtain ⟨h1, h2⟩ := HR.out.get hb k hlt
      have hts := take_snoc l k hlt
      have hn := nL_snoc (l.take k) 0 l[k]
      have hlv := lastV_snoc (l.take k) 0 l[k]
      have hnl := nL_len (l.take k) 0
      have htl : (l.take k).length ≤ k := List.length_take_le _ _
      obtain ⟨x1, e1⟩ : ∃ x, x = l[k].1 := ⟨_, rfl⟩
      obtain ⟨x2, e2⟩ : ∃ x, x = l[k].2 := ⟨_, rfl⟩
      have e3 : l[k] = (x1, x2) := by rw [e1, e2]
      rw [e3] at h1 h2 hts hn hlv
      rw [← hts] at hn hlv
      obtain ⟨lv, elv⟩ : ∃ x, x = lastV 0 (l.take k) := ⟨_, rfl⟩
      rw [← elv] at hn ⊢
      have HN := Lib.hid hn
      have HLV := Lib.hid hlv
      have ELV := Lib.hid elv
      clear hts hn hlv e1 e2 e3 elv
      by_cases hx : x2 = lv
      · have hx' : (x2 == lv) = true := by simpa using hx
        go_wp2
        go_roundw
        case rel => exact ⟨k + 1, by omega, by go_num, by rw [HLV.out, hx], by rw [HN.out, if_pos hx]; exact hown.alloc _, hb.alloc (by have := hb.size; omega) _⟩
        case measure => simp [intOf]; omega
      · have hx' : (x2 == lv) = false := by simpa using hx
        have HX := Lib.hid hx
        clear hx
        go_wp2_with (at_builtin; refine wpList_append_own _ rfl _ _ 22 rfl w.heap.size 30 i0 (.agg #[.int .i64 0, .int .i64 0]) 2 16 Try.underlying22 hi hz0 hz1 hz2 rfl (by decide) _ _ _ rfl ((hown.alloc _).alloc _) ⟨wr.heap.size + 1, 0, none⟩ 1 1 [.int .i64 x1, .int .i64 x2] rfl rfl (news_at _ _ _ _ _ (by simp)) (news_one _ _) ?c3 ?c4 ?c5 ?_)
        case c3 => unfold maxLen; omega
        case c4 => omega
        case c5 => have := hb.size; simp; omega
        intro v' w1 hown' hgrow _
        have R := own_app (Nat.le_refl _) hown hb hown' hgrow
        obtain ⟨bx0, bx1⟩ := box_app hown hgrow
        clear hown hown' hgrow
        go_wp2
        go_roundw
        case rel => exact ⟨k + 1, by omega, by go_num, by rw [HLV.out], by rw [HN.out, if_neg HX.out]; exact R.1, R.2⟩
        case measure => simp [intOf]; omega
    · go_wp2
      have e : l.take k = l := List.take_of_length_le (by omega)
      rw [e] at hown
      go_ret
      exact ⟨_, rfl, hown, hb⟩
end Go.Proofs.Ytapfinnbfnhdbab
