/-
  Take.
-/
import Derived.Test.YtbaodpfiilmpjaaFiI
namespace Go.Proofs.Ytbaodpfiilmpjaa
open Go.RowKit
open IntWalk
set_option linter.unusedVariables false

def kR {α : Type} (r : Except Int α) : Int := match r with | .ok _ => 0 | .error k => k
def okL {α : Type} (r : Except Int (List α)) : List α := match r with | .ok l => l | .error _ => []
/-- What Take returns. -/
def GivesF (w : World) (r : Except Int (List Fd)) (e : Ending) (w' : World) : Prop := ∃ u, e = .returned (.tuple #[u, .int .i64 (kR r)]) ∧ RdF w' u (okL r) ∧ Below w.heap.size w w'

set_option maxHeartbeats 4000000 in
set_option maxRecDepth 10000 in
theorem take_run (v : Value) (l : List UInt8) (w : World) (h : RdB w v l) (hl : l.length ≤ 200000) :
    Calls Try.prog 8 #[v] w (GivesF w (takR [] 0 l)) := by
  have hmf : ∀ (fn : Fn) (first cap : Array Value) (w : World), (Instr.makeFunc fn first cap).run Try.prog w = .ok (.func fn first cap) w := fun _ _ _ _ => rfl
  have R := h.below (beg_below w v)
  have HB := rd_block h
  obtain ⟨p, c, rfl, _, _, _⟩ := h
  have E0 := Lib.hid (beg_e w (.slice p l.length c))
  have G0 := Lib.hid (beg_g w p l.length c)
  have B0 := Lib.hid (beg_below w (.slice p l.length c))
  have Z0 := Lib.hid (beg_size w (.slice p l.length c))
  have C := Lib.hid (record_run (w.heap.size + 1) w.heap.size _ l _ (by rw [Z0.out]; omega) G0.out.1 G0.out.2 R HB hl (Nat.le_succ _))
  obtain ⟨T, hT⟩ : ∃ T, T = takR [] 0 l := ⟨_, rfl⟩
  rw [← hT] at C ⊢
  clear hT R HB
  go_enter_defers Try.func8, Try.ntmps8
  go_wp2_with fail
  refine C.out.mono ?_
  rintro e w2 (⟨k, rfl, rfl, o2⟩ | ⟨fs, u, rfl, rfl, r2, o2⟩)
  · have bS := o2.below (by rw [Z0.out]; omega)
    have e2 := (bS.cell (p := ⟨w.heap.size, 0, none⟩) (Nat.lt_succ_self _)).trans E0.out.1
    have e3 := (bS.frozen (p := ⟨w.heap.size, 0, none⟩) (Nat.lt_succ_self _)).trans E0.out.2
    have B2 := Lib.hid (B0.out.trans (bS.mono (Nat.le_succ _)))
    clear C bS o2
    refine leaves_cons (f := 20) (args := #[.pointer (some ⟨w.heap.size, 0, none⟩)]) (by simp) (by simp [go_sem]) ?_
    refine (catch2_err ⟨w.heap.size, 0, none⟩ k 0 [] _ e2 e3).mono ?_
    rintro e u' w'' ⟨rfl, rfl, rfl⟩
    have hx := set_cell _ _ (.int .i64 k) _ e2
    have hb := B2.out.setCell (p := ⟨w.heap.size, 0, none⟩) (Nat.le_refl _) (.int .i64 k)
    simp [Leaves, settle, results, Try.results8, go_sem, hx]
    exact ⟨_, rfl, rdF_nil _, hb⟩
  · have bS := o2.below (by rw [Z0.out]; omega)
    have e2 := (bS.cell (p := ⟨w.heap.size, 0, none⟩) (Nat.lt_succ_self _)).trans E0.out.1
    have e3 := (bS.frozen (p := ⟨w.heap.size, 0, none⟩) (Nat.lt_succ_self _)).trans E0.out.2
    have B2 := Lib.hid (B0.out.trans (bS.mono (Nat.le_succ _)))
    have F2 := Lib.hid r2
    clear C bS o2 r2
    have E4 := Lib.hid (set_cell _ _ (.int .i64 0) _ e2)
    have Z4 : Hid ((w2.setCell ⟨w.heap.size, 0, none⟩ (.int .i64 0)).frozen? ⟨w.heap.size, 0, none⟩ = false) := Lib.hid (by rw [World.frozen?_setCell]; exact e3)
    have B4 := Lib.hid (B2.out.setCell (p := ⟨w.heap.size, 0, none⟩) (Nat.le_refl _) (.int .i64 0))
    have F4 := Lib.hid (F2.out.only (Only.set w.heap.size 0 (.int .i64 0) w2) (by rw [Z0.out]; omega))
    go_wp2_with fail
    refine leaves_cons (f := 20) (args := #[.pointer (some ⟨w.heap.size, 0, none⟩)]) (by simp) (by simp [go_sem]) ?_
    refine (catch2_idle ⟨w.heap.size, 0, none⟩ 0 _ E4.out Z4.out).mono ?_
    rintro e u' w'' ⟨rfl, rfl, rfl⟩
    have hx := set_cell _ _ (.int .i64 0) _ E4.out
    have hb := B4.out.setCell (p := ⟨w.heap.size, 0, none⟩) (Nat.le_refl _) (.int .i64 0)
    have F5 := F4.out.only (Only.set w.heap.size 0 (.int .i64 0) _) (by rw [Z0.out]; omega)
    simp [Leaves, settle, results, Try.results8, go_sem, hx]
    exact ⟨_, rfl, F5.rd, hb⟩
end Go.Proofs.Ytbaodpfiilmpjaa
