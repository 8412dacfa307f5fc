/-
  What capitals returns, in the package ident and in its reference: the same string, each letter as a capital.
-/
import Derived.Test.YtkimniggdnlliaaDoorIdD
import Derived.Lib.SmallJoins
import Derived.Lib.ConvBytes
import Derived.Laws.BytesString
namespace Go.Proofs.YtkimniggdnlliaaDoor
open Go.RowKit
open Plain

/-- The string in capitals. -/
def capsB (s : ByteArray) : ByteArray := ⟨(capsL s.data.toList).toArray⟩
theorem capsB_list (s : ByteArray) : (capsB s).data.toList = capsL s.data.toList := rfl
theorem capsB_size (s : ByteArray) : (capsB s).size = s.size := by
  show (capsL s.data.toList).toArray.size = s.size
  unfold capsL; simp

def byteAt (s : ByteArray) (j : Nat) : Nat := (s.data.toList.getD j 0).toNat
theorem byteAt_lt (s : ByteArray) (j : Nat) : byteAt s j < 256 := (s.data.toList.getD j 0).toNat_lt
/-- The bytes after k of them have been turned. -/
def midAt (s : ByteArray) (k j : Nat) : Nat := if j < k then capN (byteAt s j) else byteAt s j

/-- The block holds the string's bytes, the first k as capitals; nothing that was there has changed. -/
def Mid (w : World) (s : ByteArray) (k : Nat) (wr : World) : Prop :=
  Below w.heap.size w wr ∧ (∀ j, j < s.size → wr.cell? ⟨w.heap.size, j, none⟩ = some (.int .u8 (midAt s k j : Nat))) ∧ ∀ j, j < s.size → wr.frozen? ⟨w.heap.size, j, none⟩ = false

theorem bytes_frozen (w : World) (e : TypeId) (s : ByteArray) (j : Nat) (hj : j < s.size) : (Lib.bytesWorld w e s).frozen? ⟨w.heap.size, j, none⟩ = false := by
  have hs : s.size ≤ (Lib.bytesCells w e s).size := by simp [Lib.bytesCells]
  simp [World.frozen?, Lib.bytesWorld_at_new]
  omega

theorem mid_start (w : World) (e : TypeId) (s : ByteArray) : Mid w s 0 (Lib.bytesWorld w e s) := by
  refine ⟨Joins.below_bytesWorld _ w e s (Nat.le_refl _), fun j hj => ?_, fun j hj => bytes_frozen w e s j hj⟩
  rw [Lib.bytesWorld_cell w e s j hj]
  unfold midAt byteAt
  rw [if_neg (by omega)]

theorem mid_store {w wr : World} {s : ByteArray} {k : Nat} (h : Mid w s k wr) (hk : k < s.size) {v : Int} (hv : v = (capN (byteAt s k) : Nat)) : Mid w s (k + 1) (wr.setCell ⟨w.heap.size, k, none⟩ (.int .u8 v)) := by
  obtain ⟨hb, hc, hf⟩ := h
  refine ⟨hb.setCell (Nat.le_refl _) _, fun j hj => ?_, fun j hj => by rw [World.frozen?_setCell]; exact hf j hj⟩
  by_cases e : j = k
  · subst e
    rw [World.cell?_setCell_same _ _ _ (hc j hj), hv]
    unfold midAt; rw [if_pos (by omega)]
  · rw [World.cell?_setCell_other _ _ _ _ (fun h => e (by injection h with _ h2; exact h2.symm)), hc j hj]
    unfold midAt
    by_cases hlt : j < k
    · rw [if_pos hlt, if_pos (by omega)]
    · rw [if_neg hlt, if_neg (by omega)]

theorem mid_skip {w wr : World} {s : ByteArray} {k : Nat} (h : Mid w s k wr) (hk : k < s.size) (he : capN (byteAt s k) = byteAt s k) : Mid w s (k + 1) wr := by
  obtain ⟨hb, hc, hf⟩ := h
  refine ⟨hb, fun j hj => ?_, hf⟩
  rw [hc j hj]
  unfold midAt
  by_cases e : j = k
  · subst e; rw [if_neg (by omega), if_pos (by omega), he]
  · by_cases hlt : j < k
    · rw [if_pos hlt, if_pos (by omega)]
    · rw [if_neg hlt, if_neg (by omega)]

theorem mid_cell {w wr : World} {s : ByteArray} {k : Nat} (h : Mid w s k wr) (hk : k < s.size) : wr.cell? ⟨w.heap.size, k, none⟩ = some (.int .u8 (byteAt s k : Nat)) ∧ wr.frozen? ⟨w.heap.size, k, none⟩ = false := by
  refine ⟨?_, h.2.2 k hk⟩
  rw [h.2.1 k hk]; unfold midAt; rw [if_neg (by omega)]

theorem push_fold : ∀ (l : List Nat) (r : ByteArray), ((l.map fun (n : Nat) => (n : Int)).foldl (fun (r : ByteArray) (n : Int) => r.push (UInt8.ofNat n.toNat)) r) = ⟨r.data ++ (l.map UInt8.ofNat).toArray⟩
  | [], r => by simp
  | n :: l, r => by
    rw [List.map_cons, List.foldl_cons, push_fold l]
    simp [ByteArray.push]

theorem mid_list (s : ByteArray) : ((List.range s.size).map fun j => UInt8.ofNat (midAt s s.size j)) = capsL s.data.toList := by
  unfold capsL
  apply List.ext_getElem
  · simp
  · intro j h1 h2
    have hj : j < s.size := by simpa using h1
    simp only [List.getElem_map, List.getElem_range]
    unfold midAt byteAt cap
    rw [if_pos hj]
    simp [List.getD, hj]

theorem mid_end {w wr : World} {s : ByteArray} (h : Mid w s s.size wr) (cap : Nat) :
    (convert 55 9 (.slice (some ⟨w.heap.size, 0, none⟩) s.size cap)).run Tryd.prog wr = .ok (.string (capsB s)) wr := by
  rw [run_convert_bytes_string wr 55 9 5 _ _ _ Tryd.underlying55 Tryd.underlying5 Tryd.underlying9]
  have hl := run_loadCells (P := Tryd.prog) wr ⟨w.heap.size, 0, none⟩ s.size (fun j => .int .u8 (midAt s s.size j : Nat)) (fun j hj => by
    have e : (⟨w.heap.size, 0, none⟩ : Addr).add j = ⟨w.heap.size, j, none⟩ := by unfold Addr.add; split <;> simp_all
    rw [e]; exact h.2.1 j hj)
  have hl2 : (loadCells ⟨w.heap.size, 0, none⟩ s.size).run Tryd.prog wr = .ok ((((List.range s.size).map fun j => midAt s s.size j).map fun (n : Nat) => (n : Int)).map (Value.int .u8)).toArray wr := by
    rw [hl]; simp [List.map_map, Function.comp_def]
  rw [run_bytesToString wr _ _ _ _ hl2, push_fold, List.map_map]
  have e := mid_list s
  unfold capsB
  rw [← e]
  simp [Function.comp_def]

set_option maxHeartbeats 1000000 in
theorem capitals_any (s : ByteArray) (w : World) (hs : s.size ≤ maxLen) :
    Calls Tryd.prog 33 #[.string s] w fun e w' => e = .returned (.string (capsB s)) ∧ Below w.heap.size w w' := by
  have hs' := hs
  unfold maxLen at hs'
  obtain ⟨w1, c, hconv, hM⟩ : ∃ w1 c, (convert 9 55 (.string s)).run Tryd.prog w = .ok (.slice (some ⟨w.heap.size, 0, none⟩) s.size c) w1 ∧ Mid w s 0 w1 :=
    ⟨_, _, Lib.run_convert_string_bytes w 9 55 5 s Tryd.underlying9 Tryd.underlying55 Tryd.underlying5, mid_start w 5 s⟩
  go_enter Tryd.func33, Tryd.ntmps33
  go_wp2_with fail
  clear hconv
  go_loopw [10] (fun i wr => ∃ k : Nat, k ≤ s.size ∧ i = .int .i64 k ∧ Mid w s k wr) (fun i _ => s.size - (intOf i).toNat)
  case atStart => exact ⟨0, by omega, rfl, hM⟩
  case round =>
    obtain ⟨k, hk, rfl, hm⟩ := hrel
    by_cases hlt : k < s.size
    · obtain ⟨hc, hf⟩ := mid_cell hm hlt
      have hb := byteAt_lt s k
      by_cases h1 : 97 ≤ byteAt s k ∧ byteAt s k ≤ 122
      · obtain ⟨a, b⟩ := h1
        have Hn := Lib.hid (mid_store hm hlt (v := (byteAt s k : Int) - 97 + 65) (by unfold capN; rw [if_pos ⟨a, b⟩]; omega))
        go_wp2_with fail
        go_roundw
        case rel => exact ⟨k + 1, by omega, by go_num, Hn.out⟩
        case measure => simp [intOf]; omega
      · have Hn := Lib.hid (mid_skip hm hlt (by unfold capN; rw [if_neg h1]))
        by_cases h2 : 97 ≤ byteAt s k
        · have h3 : 122 < byteAt s k := by omega
          clear h1
          go_wp2_with fail
          go_roundw
          case rel => exact ⟨k + 1, by omega, by go_num, Hn.out⟩
          case measure => simp [intOf]; omega
        · have h3 : byteAt s k < 97 := by omega
          clear h1 h2
          go_wp2_with fail
          go_roundw
          case rel => exact ⟨k + 1, by omega, by go_num, Hn.out⟩
          case measure => simp [intOf]; omega
    · obtain rfl : k = s.size := by omega
      have hback := mid_end hm c
      have Hb := Lib.hid hm.1
      go_wp2_with fail
      go_ret
      exact ⟨rfl, Hb.out⟩

end Go.Proofs.YtkimniggdnlliaaDoor
