/-
  Plain facts for the law that Parse inverts Make: a made identifier, in whatever case, parses to its parts as capitals.
-/
import Derived.Test.YtkimniggdnlliaaDoorIdK
import Derived.Lib.Case
namespace Go.Proofs.YtkimniggdnlliaaDoor
open Go.RowKit
open Plain

theorem up_cap (c : UInt8) : Lib.upperB c = cap c := by
  have h : ∀ k : Fin 256, Lib.upperB (UInt8.ofNat k.1) = cap (UInt8.ofNat k.1) := by decide +kernel
  have := h ⟨c.toNat, c.toNat_lt⟩
  rw [UInt8.ofNat_toNat] at this; exact this
theorem cap_low (c : UInt8) : cap (Lib.lowerB c) = cap c := by
  have h : ∀ k : Fin 256, cap (Lib.lowerB (UInt8.ofNat k.1)) = cap (UInt8.ofNat k.1) := by decide +kernel
  have := h ⟨c.toNat, c.toNat_lt⟩
  rw [UInt8.ofNat_toNat] at this; exact this
/-- The string in small letters. -/
def lowB (s : ByteArray) : ByteArray := ⟨(Lib.toLowerA s.data.toList).toArray⟩
theorem up_list (s : ByteArray) : (⟨(Lib.toUpperA s.data.toList).toArray⟩ : ByteArray) = capsB s := by
  unfold capsB Lib.toUpperA capsL
  rw [show Lib.upperB = cap from funext up_cap]
theorem caps_lowB (s : ByteArray) : capsB (lowB s) = capsB s := bytes_ext (by
  rw [capsB_list, capsB_list]
  unfold capsL lowB Lib.toLowerA
  rw [List.map_map]
  exact List.map_congr_left fun c _ => cap_low c)
theorem lowB_size (s : ByteArray) : (lowB s).size = s.size := by
  rw [← size_list, ← size_list]; unfold lowB Lib.toLowerA; simp

theorem back_parsed (a b i x : ByteArray) (h : okParts a b i = true) (hx : capsB x = capsB (makeB a b i)) :
    parsed x = .returned (.tuple #[.string (capsB a), .string (capsB b), .string (capsB i), .int .i64 0]) := by
  have hp := detect_same a b i x h (eq_same hx)
  have hw : cW x = makeB a b i := by rw [← cW_caps x, hx, cW_caps]; exact (made_parses a b i h).2
  obtain ⟨c1, c2, c3, _⟩ := made_cuts a b i h
  unfold parsed pA pP pI
  rw [hp, if_pos rfl, if_pos rfl, if_pos rfl, hw, c1, c2, c3]

theorem ascii_of (low : Int) (h0 : 0 ≤ low) (x : ByteArray) (h : allOk (atLeast low) x.data.toList = true) : ∀ (j : Nat) (b : UInt8), x.data.toList[j]? = some b → b.toNat < 128 := by
  intro j b hb
  unfold allOk at h
  rw [List.all_eq_true] at h
  have hv : low ≤ val b.toNat := by simpa [atLeast] using h b (List.mem_of_getElem? hb)
  by_cases hc : b.toNat < 128
  · exact hc
  · rw [val_high _ (by omega)] at hv; omega
theorem made_valid (a b i : ByteArray) (h : okParts a b i = true) : validL (makeB a b i).data.toList = true := by
  have hz := whole_size a b i h
  rw [valid_in _ (by omega) (by omega), make_list a b i h, allOk_append]
  have h1 : allOk perm (bodyB a b i).data.toList = true := by
    have hg := body_good a b i h
    have hb := body_size a b i h
    unfold goodL at hg
    rw [valid_in _ (by omega) (by omega), Bool.and_eq_true] at hg
    exact hg.1
  have h2 : ∀ k : Fin 36, allOk perm [45, UInt8.ofNat (letterN k.1)] = true := by decide +kernel
  rw [h1, h2 ⟨_, checkN_lt _⟩]; rfl
theorem made_ascii (a b i : ByteArray) (h : okParts a b i = true) : ∀ (j : Nat) (c : UInt8), (makeB a b i).data.toList[j]? = some c → c.toNat < 128 := by
  intro j c hc
  obtain ⟨_, _, hv⟩ := valid_parts _ (made_valid a b i h)
  obtain ⟨hj, e⟩ := List.getElem?_eq_some_iff.1 hc
  have := hv j (by rw [← size_list]; exact hj)
  rw [← e]; exact this
theorem parts_ascii (a b i : ByteArray) (h : okParts a b i = true) : (∀ (j : Nat) (c : UInt8), a.data.toList[j]? = some c → c.toNat < 128) ∧ (∀ (j : Nat) (c : UInt8), b.data.toList[j]? = some c → c.toNat < 128) ∧ (∀ (j : Nat) (c : UInt8), i.data.toList[j]? = some c → c.toNat < 128) := by
  obtain ⟨⟨_, h1⟩, ⟨_, h2⟩, ⟨_, h3⟩⟩ := parts_get a b i h
  exact ⟨ascii_of 10 (by decide) a h1, ascii_of 0 (by decide) b h2, ascii_of 0 (by decide) i h3⟩
end Go.Proofs.YtkimniggdnlliaaDoor
