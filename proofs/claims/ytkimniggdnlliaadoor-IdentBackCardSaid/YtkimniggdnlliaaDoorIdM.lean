/-
  For the law that Parse inverts Make: what its callees return.
-/
import Derived.Test.YtkimniggdnlliaaDoorIdJ
import Derived.Test.YtkimniggdnlliaaDoorIdL
import Derived.Test.YtkimniggdnlliaaDoorShelf
import Derived.WalkKit
namespace Go.Proofs.YtkimniggdnlliaaDoor
open Go.RowKit
open Plain

theorem upper_any (s : ByteArray) (W : World) (hs : s.size ≤ 140737488355328) (h : ∀ (j : Nat) (b : UInt8), s.data.toList[j]? = some b → b.toNat < 128) :
    Calls Tryd.prog 13 #[.string s] W fun e w' => e = .returned (.string (capsB s)) ∧ Below W.heap.size W w' := by
  have := Tryd.strings_ToUpper_ascii s W hs h
  rw [up_list] at this; exact this
theorem lower_any (s : ByteArray) (W : World) (hs : s.size ≤ 140737488355328) (h : ∀ (j : Nat) (b : UInt8), s.data.toList[j]? = some b → b.toNat < 128) :
    Calls Tryd.prog 11 #[.string s] W fun e w' => e = .returned (.string (lowB s)) ∧ Below W.heap.size W w' :=
  Tryd.strings_ToLower_ascii s W hs h

theorem new_below (w : World) (o : Obj) : Below w.heap.size w (w.alloc o) := (Below.refl _ _).alloc (Nat.le_refl _) _

set_option maxRecDepth 100000 in
set_option maxHeartbeats 2000000 in
theorem back_yes (a b i : ByteArray) (w : World) (h0 : a.size ≤ 4096) (h1 : b.size ≤ 4096) (h2 : i.size ≤ 4096) (ho : okParts a b i = true) :
    Calls Tryd.prog 3 #[.string a, .string b, .string i] w fun e w' => e = .returned (.bool true) ∧ Below w.heap.size w w' := by
  obtain ⟨Y, hY⟩ : ∃ Y, Y = makeB a b i := ⟨_, rfl⟩
  have hz : Y.size = 18 := by rw [hY]; exact whole_size a b i ho
  have hm : 4096 ≤ maxLen := by unfold maxLen; omega
  have M : Hid (∀ W, Calls Tryd.prog 10 #[.string a, .string b, .string i] W fun e w' => e = .returned (.tuple #[.string Y, .int .i64 0]) ∧ Below W.heap.size W w') := Lib.hid (fun W => by
    have := make_any a b i W (by omega) (by omega) (by omega)
    rw [(show makeE a b i = 0 from (make_yes a b i ho).2), ← hY] at this; exact this)
  obtain ⟨as1, as2, as3⟩ := parts_ascii a b i ho
  have asY := made_ascii a b i ho
  rw [← hY] at asY
  have L : Hid (∀ W, Calls Tryd.prog 11 #[.string Y] W fun e w' => e = .returned (.string (lowB Y)) ∧ Below W.heap.size W w') := Lib.hid (fun W => lower_any Y W (by omega) asY)
  have U1 : Hid (∀ W, Calls Tryd.prog 13 #[.string a] W fun e w' => e = .returned (.string (capsB a)) ∧ Below W.heap.size W w') := Lib.hid (fun W => upper_any a W (by omega) as1)
  have U2 : Hid (∀ W, Calls Tryd.prog 13 #[.string b] W fun e w' => e = .returned (.string (capsB b)) ∧ Below W.heap.size W w') := Lib.hid (fun W => upper_any b W (by omega) as2)
  have U3 : Hid (∀ W, Calls Tryd.prog 13 #[.string i] W fun e w' => e = .returned (.string (capsB i)) ∧ Below W.heap.size W w') := Lib.hid (fun W => upper_any i W (by omega) as3)
  have P : Hid (∀ x, (x = Y ∨ x = lowB Y) → ∀ W, Calls Tryd.prog 12 #[.string x] W fun e w' => e = .returned (.tuple #[.string (capsB a), .string (capsB b), .string (capsB i), .int .i64 0]) ∧ Below W.heap.size W w') := Lib.hid (fun x hx W => by
    have hc : capsB x = capsB (makeB a b i) := by
      rcases hx with rfl | rfl
      · rw [hY]
      · rw [caps_lowB, hY]
    have hs : x.size ≤ maxLen := by
      rcases hx with rfl | rfl
      · omega
      · rw [lowB_size]; omega
    have := parse_any x W hs
    rw [back_parsed a b i x ho hc] at this; exact this)
  have V : Hid (∀ W, Calls Tryd.prog 14 #[.string Y] W fun e w' => e = .returned (.bool true) ∧ Below W.heap.size W w') := Lib.hid (fun W => by
    have := valid_any Y W (by omega)
    rw [hY, made_valid a b i ho, ← hY] at this; exact this)
  clear as1 as2 as3 asY hY hm ho
  go_enter Tryd.func3, Tryd.ntmps3
  go_wp2_with fail
  refine (M.out _).mono ?_
  rintro e w1 ⟨rfl, g1⟩
  have G1 := Lib.hid g1
  clear g1
  go_wp2_with fail
  refine (L.out _).mono ?_
  rintro e w2 ⟨rfl, g2⟩
  have G2 := Lib.hid (b2 G1.out g2)
  clear g2
  go_wp2_with fail
  go_loopw [48] (fun s wr => ∃ k : Int, s = .int .i64 k ∧ (k = 0 ∨ k = 1 ∨ k = 2) ∧ Below w2.heap.size w2 wr ∧ w2.heap.size < wr.heap.size ∧ wr.cell? ⟨w2.heap.size, 0, none⟩ = some (.string Y) ∧ wr.cell? ⟨w2.heap.size, 1, none⟩ = some (.string (lowB Y))) (fun s _ => (2 - intOf s).toNat)
  case atStart => exact ⟨0, rfl, .inl rfl, new_below _ _, by simp, by simp, by simp⟩
  case round =>
    obtain ⟨k, rfl, hk, g, d3, d1, d2⟩ := hrel
    have G := Lib.hid g
    clear g
    rcases hk with rfl | rfl | rfl
    · skip
      go_wp2_with fail
      refine (P.out _ (.inl rfl) _).mono ?_
      rintro e w3 ⟨rfl, g3⟩
      have d30 := (g3.cell (p := ⟨w2.heap.size, 0, none⟩) d3).trans d1
      have d31 := (g3.cell (p := ⟨w2.heap.size, 1, none⟩) d3).trans d2
      have d32 := Nat.lt_of_lt_of_le d3 g3.size
      have G3 := Lib.hid (b2 G.out g3)
      clear g3 d1 d2 d3
      go_wp2_with fail
      refine (U1.out _).mono ?_
      rintro e w4 ⟨rfl, g4⟩
      have d40 := (g4.cell (p := ⟨w2.heap.size, 0, none⟩) d32).trans d30
      have d41 := (g4.cell (p := ⟨w2.heap.size, 1, none⟩) d32).trans d31
      have d42 := Nat.lt_of_lt_of_le d32 g4.size
      have G4 := Lib.hid (b2 G3.out g4)
      clear g4 d30 d31 d32
      go_wp2_with fail
      refine (U2.out _).mono ?_
      rintro e w5 ⟨rfl, g5⟩
      have d50 := (g5.cell (p := ⟨w2.heap.size, 0, none⟩) d42).trans d40
      have d51 := (g5.cell (p := ⟨w2.heap.size, 1, none⟩) d42).trans d41
      have d52 := Nat.lt_of_lt_of_le d42 g5.size
      have G5 := Lib.hid (b2 G4.out g5)
      clear g5 d40 d41 d42
      go_wp2_with fail
      refine (U3.out _).mono ?_
      rintro e w6 ⟨rfl, g6⟩
      have d60 := (g6.cell (p := ⟨w2.heap.size, 0, none⟩) d52).trans d50
      have d61 := (g6.cell (p := ⟨w2.heap.size, 1, none⟩) d52).trans d51
      have d62 := Nat.lt_of_lt_of_le d52 g6.size
      have G6 := Lib.hid (b2 G5.out g6)
      clear g6 d50 d51 d52
      go_wp2_with fail
      go_roundw
      case rel => exact ⟨1, rfl, by omega, G6.out, d62, d60, d61⟩
      case measure => simp [intOf]
    · skip
      go_wp2_with fail
      refine (P.out _ (.inr rfl) _).mono ?_
      rintro e w3 ⟨rfl, g3⟩
      have d30 := (g3.cell (p := ⟨w2.heap.size, 0, none⟩) d3).trans d1
      have d31 := (g3.cell (p := ⟨w2.heap.size, 1, none⟩) d3).trans d2
      have d32 := Nat.lt_of_lt_of_le d3 g3.size
      have G3 := Lib.hid (b2 G.out g3)
      clear g3 d1 d2 d3
      go_wp2_with fail
      refine (U1.out _).mono ?_
      rintro e w4 ⟨rfl, g4⟩
      have d40 := (g4.cell (p := ⟨w2.heap.size, 0, none⟩) d32).trans d30
      have d41 := (g4.cell (p := ⟨w2.heap.size, 1, none⟩) d32).trans d31
      have d42 := Nat.lt_of_lt_of_le d32 g4.size
      have G4 := Lib.hid (b2 G3.out g4)
      clear g4 d30 d31 d32
      go_wp2_with fail
      refine (U2.out _).mono ?_
      rintro e w5 ⟨rfl, g5⟩
      have d50 := (g5.cell (p := ⟨w2.heap.size, 0, none⟩) d42).trans d40
      have d51 := (g5.cell (p := ⟨w2.heap.size, 1, none⟩) d42).trans d41
      have d52 := Nat.lt_of_lt_of_le d42 g5.size
      have G5 := Lib.hid (b2 G4.out g5)
      clear g5 d40 d41 d42
      go_wp2_with fail
      refine (U3.out _).mono ?_
      rintro e w6 ⟨rfl, g6⟩
      have d60 := (g6.cell (p := ⟨w2.heap.size, 0, none⟩) d52).trans d50
      have d61 := (g6.cell (p := ⟨w2.heap.size, 1, none⟩) d52).trans d51
      have d62 := Nat.lt_of_lt_of_le d52 g6.size
      have G6 := Lib.hid (b2 G5.out g6)
      clear g6 d50 d51 d52
      go_wp2_with fail
      go_roundw
      case rel => exact ⟨2, rfl, by omega, G6.out, d62, d60, d61⟩
      case measure => simp [intOf]
    · go_wp2_with fail
      refine (V.out _).mono ?_
      rintro e w3 ⟨rfl, g3⟩
      have G3 := Lib.hid (b2 G.out g3)
      clear g3
      go_wp2_with fail
      go_ret
      exact ⟨rfl, b2 G2.out G3.out⟩

set_option maxHeartbeats 1000000 in
theorem back_no (a b i : ByteArray) (w : World) (h0 : a.size ≤ 4096) (h1 : b.size ≤ 4096) (h2 : i.size ≤ 4096) (ho : okParts a b i = false) :
    Calls Tryd.prog 3 #[.string a, .string b, .string i] w fun e w' => e = .returned (.bool true) ∧ Below w.heap.size w w' := by
  have hm : 4096 ≤ maxLen := by unfold maxLen; omega
  have M : Hid (∀ W, Calls Tryd.prog 10 #[.string a, .string b, .string i] W fun e w' => e = .returned (.tuple #[.string ⟨#[]⟩, .int .i64 4]) ∧ Below W.heap.size W w') := Lib.hid (fun W => by
    have := make_any a b i W (by omega) (by omega) (by omega)
    obtain ⟨e1, e2⟩ := make_no a b i ho
    rw [e1, e2] at this; exact this)
  clear hm ho
  go_enter Tryd.func3, Tryd.ntmps3
  go_wp2_with fail
  refine (M.out _).mono ?_
  rintro e w1 ⟨rfl, g1⟩
  have G1 := Lib.hid g1
  clear g1
  go_wp2_with fail
  refine (example_any _).mono ?_
  rintro e wx ⟨rfl, gx⟩
  go_wp2_with fail
  go_ret
  exact ⟨rfl, b2 G1.out gx⟩
end Go.Proofs.YtkimniggdnlliaaDoor
