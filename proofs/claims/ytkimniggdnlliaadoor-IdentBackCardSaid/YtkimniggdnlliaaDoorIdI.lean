/-
  What Parse returns in the reference of the package ident: the same as Parse of the package.
-/
import Derived.Test.YtkimniggdnlliaaDoorIdH
namespace Go.Proofs.YtkimniggdnlliaaDoor
open Go.RowKit
open Plain

theorem bytes_ext {a b : ByteArray} (h : a.data.toList = b.data.toList) : a = b := by
  cases a; cases b; simp at h; simp [h]
theorem caps_extract (s : ByteArray) (i j : Nat) : (capsB s).extract i j = capsB (s.extract i j) := by
  apply bytes_ext
  unfold capsB capsL
  simp [ByteArray.data_extract, List.map_take, List.map_drop]
theorem allOk_caps_eq (low : Int) (x : List UInt8) : allOk (atLeast low) (capsL x) = allOk (atLeast low) x := by
  unfold allOk capsL
  rw [List.all_map]
  congr 1
  funext c
  simp only [Function.comp_def, cap_toNat, atLeast, val_capN]
theorem okPart_caps (n low : Int) (s : ByteArray) : okPart n low (capsB s) = okPart n low s := by
  unfold okPart; rw [capsB_size, capsB_list, allOk_caps_eq]
theorem cap_cap (c : UInt8) : cap (cap c) = cap c := by
  unfold cap; rw [UInt8.toNat_ofNat', Nat.mod_eq_of_lt (capN_lt _ c.toNat_lt), capN_capN]
theorem capsL_capsL (l : List UInt8) : capsL (capsL l) = capsL l := by
  unfold capsL; rw [List.map_map]; congr 1; funext c; exact cap_cap c
theorem capsL_append (a b : List UInt8) : capsL (a ++ b) = capsL a ++ capsL b := by unfold capsL; rw [List.map_append]
theorem body_caps (a b i : ByteArray) : bodyB (capsB a) (capsB b) (capsB i) = bodyB a b i := by
  apply bytes_ext
  rw [body_list, body_list]
  simp only [capsB_list, capsL_append, capsL_capsL]
theorem make_caps (a b i : ByteArray) : makeB (capsB a) (capsB b) (capsB i) = makeB a b i ∧ makeE (capsB a) (capsB b) (capsB i) = makeE a b i := by
  have e : okParts (capsB a) (capsB b) (capsB i) = okParts a b i := by unfold okParts; rw [okPart_caps, okPart_caps, okPart_caps]
  unfold makeB makeE wholeB
  rw [e, body_caps]; exact ⟨rfl, rfl⟩
theorem cW_caps (s : ByteArray) : cW (capsB s) = cW s := by
  unfold cW cA cP cI; rw [caps_extract, caps_extract, caps_extract, (make_caps _ _ _).1]
theorem makeE_caps (s : ByteArray) : makeE (cA (capsB s)) (cP (capsB s)) (cI (capsB s)) = makeE (cA s) (cP s) (cI s) := by
  unfold cA cP cI; rw [caps_extract, caps_extract, caps_extract, (make_caps _ _ _).2]
theorem oneB_caps (p : Int) : capsL (oneB (letterN (checkN p))).data.toList = (oneB (letterN (checkN p))).data.toList := by
  have h := checkN_lt p
  unfold oneB capsL
  simp only [List.map_cons, List.map_nil]
  congr 1
  unfold cap
  rw [UInt8.toNat_ofNat', Nat.mod_eq_of_lt (by have := letterN_lt _ h; omega), capN_letterN _ h]
theorem whole_caps (a b i : ByteArray) (h : okParts a b i = true) : capsB (makeB a b i) = makeB a b i := by
  rw [(make_yes a b i h).1]
  apply bytes_ext
  rw [capsB_list]
  unfold wholeB
  have hg := body_good a b i h
  have hc : checkL (bodyB a b i).data.toList = letterN (checkN (sumL (bodyB a b i).data.toList).1) := by unfold checkL; rw [hg]; rfl
  rw [hc]
  simp only [append_list, capsL_append, oneB_caps]
  rw [body_list, capsL_capsL]
  rfl
theorem okS_parts (s : ByteArray) : okParts (cA (capsB s)) (cP (capsB s)) (cI (capsB s)) = okParts (cA s) (cP s) (cI s) := by
  unfold okParts cA cP cI; rw [caps_extract, caps_extract, caps_extract, okPart_caps, okPart_caps, okPart_caps]
theorem okS_tail (s : ByteArray) : okPart 1 0 ((capsB s).extract 17 18) = okPart 1 0 (s.extract 17 18) := by rw [caps_extract, okPart_caps]
theorem toList_of (s : ByteArray) : s.toList = s.data.toList := ByteArray.toList_eq s
theorem same_whole (s : ByteArray) (h : okParts (cA s) (cP s) (cI s) = true) : sameB (cW s) s = ((cW s).toList == (capsB s).toList) := by
  unfold sameB cW; rw [whole_caps _ _ _ h]

def cT (s : ByteArray) : ByteArray := s.extract 17 18
theorem cut_t (s : ByteArray) (h : s.size = 18) : ∀ w, (Instr.slice 9 (.string s) (some (.int .i64 17)) none none).run Tryd.prog w = .ok (.string (cT s)) w := fun w => by
  rw [run_slice_string_from_if w 9 s .i64 17 Tryd.underlying9, if_pos (by omega)]; unfold cT; rw [h]; rfl

/-- What the walk is told where the string has the length and the hyphens. -/
theorem shape_facts (s : ByteArray) (h : shapeB s = true) : ∃ (k2 : 2 < s.size) (k6 : 6 < s.size) (k16 : 16 < s.size), ((s.size : Int) != 18) = false ∧ (((s[2]'k2).toNat : Int) != 45) = false ∧ (((s[6]'k6).toNat : Int) != 45) = false ∧ (((s[16]'k16).toNat : Int) != 45) = false := by
  obtain ⟨h0, h2, h6, h16⟩ := shape_yes s h
  have k2 : 2 < s.size := by omega
  have k6 : 6 < s.size := by omega
  have k16 : 16 < s.size := by omega
  exact ⟨k2, k6, k16, by rw [h0]; rfl, neqI_f _ _ (by rw [byteAt_get s 2 k2, h2]; rfl), neqI_f _ _ (by rw [byteAt_get s 6 k6, h6]; rfl), neqI_f _ _ (by rw [byteAt_get s 16 k16, h16]; rfl)⟩

end Go.Proofs.YtkimniggdnlliaaDoor
