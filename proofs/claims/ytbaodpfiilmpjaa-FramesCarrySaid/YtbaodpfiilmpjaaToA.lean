/-
  Records of a number and data, encoded and framed: plain facts.
-/
import Derived.Test.YtbaodpfiilmpjaaFiQ
import Derived.Test.YtbaodpfiilmpjaaFrq
namespace Go.Proofs.Ytbaodpfiilmpjaa
open Go.RowKit
open IntWalk
set_option linter.unusedVariables false

theorem OwnB.kept {w w1 : World} {base B : Nat} {v : Value} {l : List UInt8} (h : OwnB w base v l) (hb : Below B w w1) (hB : w.heap.size ≤ B) : OwnB w1 base v l := by
  obtain ⟨ho, hbs⟩ := h
  refine ⟨⟨ho.1, ?_⟩, Nat.le_trans hbs hb.size⟩
  rcases ho.2 with e | ⟨g, cap, cur, e, h2, hh, h3⟩
  · exact .inl e
  · exact .inr ⟨g, cap, cur, e, h2, (hb.block g (Nat.lt_of_lt_of_le (block_low hh) hB)).trans hh, h3⟩
theorem toF {w : World} {v : Value} {l : List UInt8} (h : RdB w v l) : F.RdB w v l := h
theorem ofF {w : World} {v : Value} {l : List UInt8} (h : F.RdB w v l) : RdB w v l := h
theorem ofFP {w : World} {v : Value} {l : List (List UInt8)} (h : F.RdP w v l) : RdP w v l := h
theorem ofFO {w : World} {b : Nat} {v : Value} {l : List UInt8} (h : F.OwnB w b v l) : OwnB w b v l := h
/-- The record of a number and data. -/
def rec0 (i : Nat) (b : List UInt8) : List Fd := [(1, encI i), (2, b)]
def rec1 (i : Nat) (b : List UInt8) : List UInt8 := encF (rec0 i b)
def recs (ls : List (List UInt8)) : List (List UInt8) := (List.range ls.length).map fun i => rec1 i (ls.getD i [])
theorem recs_len (ls : List (List UInt8)) : (recs ls).length = ls.length := by unfold recs; simp
theorem recs_get? (ls : List (List UInt8)) (i : Nat) (h : i < ls.length) : (recs ls)[i]? = some (rec1 i ls[i]) := by
  unfold recs
  rw [List.getElem?_map, List.getElem?_range h, Option.map_some, List.getD_eq_getElem?_getD, List.getElem?_eq_getElem h]
  rfl
theorem recs_get (ls : List (List UInt8)) (i : Nat) (h : i < ls.length) (h2 : i < (recs ls).length) : (recs ls)[i] = rec1 i ls[i] := by
  have e := recs_get? ls i h
  rw [List.getElem?_eq_getElem h2] at e
  injection e
theorem chk_rec (i : Nat) (b : List UInt8) : chkF 0 (rec0 i b) = 0 := by
  unfold rec0
  rw [chkF, if_neg (by omega), if_neg (by omega), chkF, if_neg (by omega), if_neg (by omega)]
  rfl
theorem putE_rec (i : Nat) (b : List UInt8) : putE (rec0 i b) = 0 := by
  unfold putE
  rw [if_neg (by unfold rec0; simp), chk_rec]
theorem putB_rec (i : Nat) (b : List UInt8) : putB (rec0 i b) = rec1 i b := by unfold putB; rw [if_pos (putE_rec i b)]; rfl
theorem total_rec (i : Nat) (b : List UInt8) (hi : i ≤ 20) (hb : b.length ≤ 300) : total (dats (rec0 i b)) ≤ 310 := by
  have := encI_ten (i : Int) (by omega) (by omega)
  unfold rec0 dats total
  simp
  omega
theorem rec1_len (i : Nat) (b : List UInt8) (hi : i ≤ 20) (hb : b.length ≤ 300) : (rec1 i b).length ≤ 398 := by
  have h := total_rec i b hi hb
  have := encF_len (rec0 i b) (fun f hf => by unfold rec0 at hf; simp at hf; unfold okI; rcases hf with rfl | rfl <;> simp) (by omega)
  have e : (rec0 i b).length = 2 := rfl
  rw [e] at this
  unfold rec1
  omega
theorem tak_rec (i : Nat) (b : List UInt8) (hi : i ≤ 20) (hb : b.length ≤ 300) : takR [] 0 (rec1 i b) = .ok (rec0 i b) := by
  have h10 := encI_ten (i : Int) (by omega) (by omega)
  have := takR_enc (rec0 i b) [] 0 (chk_rec i b) (by omega) (by unfold rec0; simp) (fun f hf => by unfold rec0 at hf; simp at hf; rcases hf with rfl | rfl <;> (dsimp only; omega))
  rw [List.nil_append] at this
  exact this
theorem get_rec1 (i : Nat) (b : List UInt8) : getR (rec0 i b) 1 = some (encI i) := by unfold rec0; rw [getR, if_pos rfl]
theorem get_rec2 (i : Nat) (b : List UInt8) : getR (rec0 i b) 2 = some b := by unfold rec0; rw [getR, if_neg (by show ¬ (1 : Int) = 2; decide), getR, if_pos rfl]
theorem recs_all (ls : List (List UInt8)) (hn : ls.length ≤ 20) (h : ∀ i (h : i < ls.length), (ls[i]).length ≤ 300) : ∀ p ∈ recs ls, p.length ≤ 398 := by
  intro p hp
  obtain ⟨i, hi, rfl⟩ := List.getElem_of_mem hp
  have h2 : i < ls.length := by rw [recs_len] at hi; exact hi
  rw [recs_get ls i h2 hi]
  exact rec1_len i _ (by omega) (h i h2)
theorem frms_len (ps : List (List UInt8)) (h : ∀ p ∈ ps, p.length ≤ 398) : (ps.flatMap F.frm).length ≤ 802 * ps.length := by
  induction ps with
  | nil => exact Nat.zero_le _
  | cons p ps ih =>
    rw [List.flatMap_cons, List.length_append, List.length_cons]
    have h1 := F.frm_two p
    have h2 := h p (List.mem_cons_self ..)
    have h3 := ih fun q hq => h q (List.mem_cons_of_mem _ hq)
    omega
/-- The frames of the first records. -/
def strm (ls : List (List UInt8)) (j : Nat) : List UInt8 := ((recs ls).take j).flatMap F.frm
theorem strm_zero (ls : List (List UInt8)) : strm ls 0 = [] := by simp [strm]
theorem strm_next (ls : List (List UInt8)) (j : Nat) (h : j < ls.length) : strm ls (j + 1) = strm ls j ++ F.frm (rec1 j ls[j]) := by
  have h2 : j < (recs ls).length := by rw [recs_len]; exact h
  unfold strm
  rw [List.take_succ_eq_append_getElem h2, List.flatMap_append, recs_get ls j h h2]
  simp
theorem strm_all (ls : List (List UInt8)) : strm ls ls.length = (recs ls).flatMap F.frm := by unfold strm; rw [← recs_len, List.take_length]
theorem strm_len (ls : List (List UInt8)) (hn : ls.length ≤ 20) (j : Nat) (h : ∀ i (h : i < ls.length), i < j → (ls[i]).length ≤ 300) : (strm ls j).length ≤ 20000 := by
  have := frms_len ((recs ls).take j) (by
    intro p hp
    obtain ⟨i, hi, rfl⟩ := List.getElem_of_mem hp
    rw [List.getElem_take]
    rw [List.length_take, recs_len] at hi
    rw [recs_get ls i (by omega) (by rw [recs_len]; omega)]
    exact rec1_len i _ (by omega) (h i (by omega) (by omega)))
  rw [List.length_take, recs_len] at this
  unfold strm
  omega
/-- Two fields side by side. -/
theorem two_rec (W : World) (u v : Value) (x y : List UInt8) (hu : RdB W u x) (hv : RdB W v y) : RdF (W.alloc (.cells #[.int .i64 1, u, .int .i64 2, v] 29)) (.slice (some ⟨W.heap.size, 0, none⟩) 2 2) [(1, x), (2, y)] := by
  refine ⟨_, 2, [(1, u), (2, v)], rfl, by simp, by decide, rfl, fun i h hz => ?_, fun _ => ⟨_, 0, rfl, by simp, fun i h => ?_⟩⟩
  · match i, h with
    | 0, _ => exact ⟨rfl, hu.more _⟩
    | 1, _ => exact ⟨rfl, hv.more _⟩
  · match i, h with
    | 0, _ => exact ⟨by simp [go_sem], by simp [go_sem]⟩
    | 1, _ => exact ⟨by simp [go_sem], by simp [go_sem]⟩
end Go.Proofs.Ytbaodpfiilmpjaa
