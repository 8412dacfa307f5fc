/-
  TakeList, whole.
-/
import Derived.Test.YtlnnkdnnhmeldaaFiK
namespace Go.Proofs.Ytlnnkdnnhmeldaa
open Go.RowKit
open IntWalk
set_option linter.unusedVariables false

def GivesP (w : World) (r : Except Int (List (List UInt8))) (e : Ending) (w' : World) : Prop := ∃ u, e = .returned (.tuple #[u, .int .i64 (kR r)]) ∧ RdP w' u (okL r) ∧ Below w.heap.size w w'

set_option maxHeartbeats 4000000 in
set_option maxRecDepth 10000 in
theorem takeList_run (v : Value) (l : List UInt8) (w : World) (h : RdB w v l) (hl : l.length ≤ 200000) :
    Calls Try.prog 29 #[v] w (GivesP w (lstR l)) := by
  have hmf : ∀ (fn : Fn) (first cap : Array Value) (w : World), (Instr.makeFunc fn first cap).run Try.prog w = .ok (.func fn first cap) w := fun _ _ _ _ => rfl
  have R := h.below (beg_below w v)
  have HB := rd_block h
  obtain ⟨p, c, rfl, _, _, _⟩ := h
  have E0 := Lib.hid (beg_e w (.slice p l.length c))
  have G0 := Lib.hid (beg_g w p l.length c)
  have B0 := Lib.hid (beg_below w (.slice p l.length c))
  have Z0 := Lib.hid (beg_size w (.slice p l.length c))
  have C := Lib.hid (list_run (w.heap.size + 1) w.heap.size _ l _ (by rw [Z0.out]; omega) G0.out.1 G0.out.2 R HB hl (Nat.le_succ _))
  obtain ⟨T, hT⟩ : ∃ T, T = lstR l := ⟨_, rfl⟩
  have HTT := Lib.hid hT
  rw [← hT]
  clear hT R HB
  go_enter_defers Try.func29, Try.ntmps29
  go_wp2_with fail
  refine C.out.mono ?_
  rintro e w2 (⟨k, hk, rfl, o2⟩ | ⟨ls, t, u, v2, hk, rfl, r2, o2, c2, q2, k2⟩)
  · have HR := Lib.hid (show T = .error k by rw [HTT.out]; unfold lstR; rw [hk])
    have bS := o2.below (by rw [Z0.out]; omega)
    have e2 := (bS.cell (p := ⟨w.heap.size, 0, none⟩) (Nat.lt_succ_self _)).trans E0.out.1
    have e3 := (bS.frozen (p := ⟨w.heap.size, 0, none⟩) (Nat.lt_succ_self _)).trans E0.out.2
    have B2 := Lib.hid (B0.out.trans (bS.mono (Nat.le_succ _)))
    clear C bS o2 hk
    refine leaves_cons (f := 44) (args := #[.pointer (some ⟨w.heap.size, 0, none⟩)]) (by simp) (by simp [go_sem]) ?_
    refine (catch3_err ⟨w.heap.size, 0, none⟩ k 0 [] _ e2 e3).mono ?_
    rintro e u' w'' ⟨rfl, rfl, rfl⟩
    have hx := set_cell _ _ (.int .i64 k) _ e2
    have hb := B2.out.setCell (p := ⟨w.heap.size, 0, none⟩) (Nat.le_refl _) (.int .i64 k)
    rw [HR.out]
    simp [Leaves, settle, results, Try.results29, go_sem, hx]
    exact ⟨_, rfl, rdP_nil _, hb⟩
  · have bS := o2.below (by rw [Z0.out]; omega)
    have e2 := (bS.cell (p := ⟨w.heap.size, 0, none⟩) (Nat.lt_succ_self _)).trans E0.out.1
    have e3 := (bS.frozen (p := ⟨w.heap.size, 0, none⟩) (Nat.lt_succ_self _)).trans E0.out.2
    have B2 := Lib.hid (B0.out.trans (bS.mono (Nat.le_succ _)))
    have F2 := Lib.hid r2
    by_cases h0 : t = []
    · subst h0
      have HR := Lib.hid (show T = .ok ls by rw [HTT.out]; unfold lstR; rw [hk]; dsimp only; rw [if_pos rfl])
      have D := Lib.hid (end_ok (w.heap.size + 1) v2 w2 c2 q2)
      clear C bS o2 r2 hk c2 q2 k2
      have E4 := Lib.hid (set_cell _ _ (.int .i64 0) _ e2)
      have Z4 : Hid ((w2.setCell ⟨w.heap.size, 0, none⟩ (.int .i64 0)).frozen? ⟨w.heap.size, 0, none⟩ = false) := Lib.hid (by rw [World.frozen?_setCell]; exact e3)
      have B4 := Lib.hid (B2.out.setCell (p := ⟨w.heap.size, 0, none⟩) (Nat.le_refl _) (.int .i64 0))
      have F4 := Lib.hid (F2.out.only (Only.set w.heap.size 0 (.int .i64 0) w2) (by rw [Z0.out]; omega))
      go_wp2_with fail
      refine D.out.mono ?_
      rintro e w3 ⟨rfl, hw⟩
      rw [hw]
      clear hw w3 D
      go_wp2_with fail
      refine leaves_cons (f := 44) (args := #[.pointer (some ⟨w.heap.size, 0, none⟩)]) (by simp) (by simp [go_sem]) ?_
      refine (catch3_idle ⟨w.heap.size, 0, none⟩ 0 _ E4.out Z4.out).mono ?_
      rintro e u' w'' ⟨rfl, rfl, rfl⟩
      have hx := set_cell _ _ (.int .i64 0) _ E4.out
      have hb := B4.out.setCell (p := ⟨w.heap.size, 0, none⟩) (Nat.le_refl _) (.int .i64 0)
      have F5 := F4.out.only (Only.set w.heap.size 0 (.int .i64 0) _) (by rw [Z0.out]; omega)
      rw [HR.out]
      simp [Leaves, settle, results, Try.results29, go_sem, hx]
      exact ⟨_, rfl, F5.rd, hb⟩
    · have HR := Lib.hid (show T = .error 5 by rw [HTT.out]; unfold lstR; rw [hk]; dsimp only; rw [if_neg h0])
      have D := Lib.hid (end_bad (w.heap.size + 1) v2 t w2 c2 q2 h0)
      clear C bS o2 r2 hk c2 q2 k2 h0
      go_wp2_with fail
      refine D.out.mono ?_
      rintro e w3 ⟨rfl, hw⟩
      rw [hw]
      clear hw w3 D
      refine leaves_cons (f := 44) (args := #[.pointer (some ⟨w.heap.size, 0, none⟩)]) (by simp) (by simp [go_sem]) ?_
      refine (catch3_err ⟨w.heap.size, 0, none⟩ 5 0 [] _ e2 e3).mono ?_
      rintro e u' w'' ⟨rfl, rfl, rfl⟩
      have hx := set_cell _ _ (.int .i64 5) _ e2
      have hb := B2.out.setCell (p := ⟨w.heap.size, 0, none⟩) (Nat.le_refl _) (.int .i64 5)
      rw [HR.out]
      simp [Leaves, settle, results, Try.results29, go_sem, hx]
      exact ⟨_, rfl, rdP_nil _, hb⟩
end Go.Proofs.Ytlnnkdnnhmeldaa
