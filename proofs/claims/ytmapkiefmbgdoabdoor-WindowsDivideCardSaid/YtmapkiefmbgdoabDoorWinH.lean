/-
  The days of a span, one after another; what days and edges hand back.
-/
import Derived.Test.YtmapkiefmbgdoabDoorWinG
namespace Go.Proofs.YtmapkiefmbgdoabDoor
open Go.RowKit Go.Shelf
attribute [local go_sem] Oper.semAt_some

/-- How many days a span touches. -/
def nD (F T : Int) : Nat := ((T + 1439) / 1440 - F / 1440).toNat
theorem nD_lt {F T : Int} {k : Nat} (h : k < nD F T) : (F / 1440 + k) * 1440 < T := by unfold nD at h; omega
theorem nD_ge {F T : Int} {k : Nat} (h : nD F T ≤ k) (_hF : 0 ≤ F) : T ≤ (F / 1440 + k) * 1440 := by unfold nD at h; omega
theorem fin_take {N k : Nat} (h : k < N) : (List.finRange N).take (k + 1) = (List.finRange N).take k ++ [⟨k, h⟩] := by
  rw [List.take_succ_eq_append_getElem (by simpa using h)]
  simp

set_option maxRecDepth 100000 in
set_option maxHeartbeats 2000000 in
theorem days1_stops (n : Nat) (hn : 1 ≤ n) (b : Nat) (F T : Int) (w : World) (hb : b < w.heap.size) (c0 : w.cell? ⟨b, 0, none⟩ = some (.int .i64 F)) (c1 : w.cell? ⟨b, 1, none⟩ = some (.int .i64 T))
    (f0 : 0 ≤ F) (f1 : F ≤ 268435457) (t0 : 0 ≤ T) (t1 : T ≤ 268435456) :
    SeqStopsK Fence.wide n Tryd.prog 56 #[.pointer (some ⟨b, 0, none⟩)] (fun i : Fin (nD F T) => #[Value.int .i64 (F / 1440 + (i.1 : Int))]) (fun A B => B.heap[b]? = A.heap[b]?)
      (fun xs => xs = List.finRange (nD F T)) (fun pre => pre <+: List.finRange (nD F T)) (nD F T) w := by
  intro l J Jx W hW _ _ hY h0
  have C0 := (hW.cell (p := ⟨b, 0, none⟩) hb).trans c0
  have C1 := (hW.cell (p := ⟨b, 1, none⟩) hb).trans c1
  refine callsIn_of_wp Tryd.func56 rfl trivial ?_ rfl
  simp only [Tryd.ntmps56, List.size_toArray, List.length_cons, List.length_nil, Nat.reduceAdd, Nat.reduceSub, Array.replicate_succ, Array.replicate_zero, List.push_toArray, List.append_toArray, List.nil_append, List.cons_append]
  have HC := Lib.hid (And.intro C0 C1)
  clear c0 c1 hW
  gi_wp2
  gi_loopw [3] (fun p wr => ∃ k : Nat, k ≤ nD F T ∧ p = .int .i64 (F / 1440 + k) ∧ wr.heap[b]? = W.heap[b]? ∧ J ((List.finRange (nD F T)).take k) wr)
    (fun p _ => nD F T - (intOf p - F / 1440).toNat)
  case atStart => exact ⟨0, Nat.zero_le _, by simp, rfl, by simpa using h0⟩
  case round =>
    obtain ⟨k, hk, rfl, hbk, hJ⟩ := hrel
    have cT : wr.cell? ⟨b, 1, none⟩ = some (.int .i64 T) := (World.cell?_of_block hbk).trans HC.out.2
    have HBK := Lib.hid hbk
    obtain ⟨D, hD⟩ : ∃ D, D = F / 1440 := ⟨_, rfl⟩
    have hD0 : 0 ≤ D := by omega
    have hD1 : D ≤ 186414 := by omega
    have hkn : (k : Int) ≤ 186414 := by have : nD F T ≤ 186414 := by { unfold nD; omega }; omega
    clear hbk
    by_cases hlt : k < nD F T
    · have lt1 : (D + k) * 1440 < T := by rw [hD]; exact nD_lt hlt
      have hft := fin_take hlt
      obtain ⟨fn, tmps, assign, body, hy, hR⟩ := hY _ ⟨k, hlt⟩ wr hJ (by simp; omega)
      dsimp only at hy
      rw [← hD] at hy ⊢
      have HD := Lib.hid hD
      have HFT := Lib.hid hft
      clear hD hft hY
      gi_wp2
      refine hR.mono ?_
      rintro e W3 (⟨rfl, hJ3, hk3⟩ | ⟨rfl, hJx3⟩)
      · have HK3 := Lib.hid (hk3.trans HBK.out)
        clear hk3 hy hR
        gi_wp2
        go_roundw
        case rel => exact ⟨k + 1, by omega, by go_num, HK3.out, by rw [HFT.out]; exact hJ3⟩
        case measure => simp [intOf]; omega
      · clear hy hR
        gi_wp2
        refine bodyPost_ret (results_none rfl _ _ _) rfl ?_
        exact ⟨⟨_, rfl⟩, .inr ⟨_, by rw [← HFT.out]; exact List.take_prefix _ _, hJx3⟩⟩
    · have ge1 : T ≤ (D + k) * 1440 := by rw [hD]; exact nD_ge (by omega) f0
      have hk2 : (List.finRange (nD F T)).take k = List.finRange (nD F T) := List.take_of_length_le (by simp; omega)
      rw [hk2] at hJ
      rw [← hD]
      have HD := Lib.hid hD
      clear hD hk2 hY
      gi_wp2
      go_end0
      exact ⟨⟨_, rfl⟩, .inl ⟨_, rfl, hJ⟩⟩

theorem days_any (F T : Int) (w : World) : Calls Tryd.prog 44 #[.agg #[.int .i64 F, .int .i64 T]] w fun e w' =>
    e = .returned (.func (.func 56) #[] #[.pointer (some ⟨w.heap.size, 0, none⟩)]) ∧ w' = w.alloc (.cells #[.int .i64 F, .int .i64 T] 34) := by
  go_enter Tryd.func44, Tryd.ntmps44
  go_wp2
  go_ret
  exact ⟨rfl, rfl⟩
theorem edges_any (d s e f u o F T : Int) (sm : Bool) (w : World) : Calls Tryd.prog 27 #[.agg #[.int .i64 d, .int .i64 s, .int .i64 e, .int .i64 f, .int .i64 u], .agg #[.int .i64 o, .bool sm], .agg #[.int .i64 F, .int .i64 T]] w fun e' w' =>
    e' = .returned (.func (.func 42) #[] #[.pointer (some ⟨w.heap.size + 1 + 1, 0, none⟩), .pointer (some ⟨w.heap.size, 0, none⟩), .pointer (some ⟨w.heap.size + 1, 0, none⟩)]) ∧
    w' = ((w.alloc (.cells #[.int .i64 d, .int .i64 s, .int .i64 e, .int .i64 f, .int .i64 u] 30)).alloc (.cells #[.int .i64 o, .bool sm] 32)).alloc (.cells #[.int .i64 F, .int .i64 T] 34) := by
  go_enter Tryd.func27, Tryd.ntmps27
  go_wp2
  go_ret
  exact ⟨rfl, rfl⟩
end Go.Proofs.YtmapkiefmbgdoabDoor
