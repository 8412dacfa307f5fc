/-
  What Same and Make return, in the package ident and in its reference.
-/
import Derived.Test.YtkimniggdnlliaaDoorIdE
import Derived.Great.BuildSlice
namespace Go.Proofs.YtkimniggdnlliaaDoor
open Go.RowKit
open Plain

def sameB (a b : ByteArray) : Bool := (capsB a).toList == (capsB b).toList

set_option maxHeartbeats 400000 in
theorem same_any (a b : ByteArray) (w : World) (ha : a.size ≤ maxLen) (hb : b.size ≤ maxLen) :
    Calls Tryd.prog 29 #[.string a, .string b] w fun e w' => e = .returned (.bool (sameB a b)) ∧ Below w.heap.size w w' := by
  go_enter Tryd.func29, Tryd.ntmps29
  go_wp2_with fail
  refine (capitals_any a _ ha).mono ?_
  rintro e w1 ⟨rfl, h1⟩
  go_wp2_with fail
  refine (capitals_any b _ hb).mono ?_
  rintro e w2 ⟨rfl, h2⟩
  go_wp2_with fail
  go_ret
  exact ⟨rfl, h1.trans (h2.mono h1.size)⟩

/-- Has the string n characters whose values are at least low. -/
def okPart (n low : Int) (s : ByteArray) : Bool := decide ((s.size : Int) = n) && allOk (atLeast low) s.data.toList
theorem okPart_yes {n low : Int} {s : ByteArray} (h : okPart n low s = true) : (s.size : Int) = n ∧ allOk (atLeast low) s.data.toList = true := by
  unfold okPart at h; simpa using h
theorem okPart_no {n low : Int} {s : ByteArray} (h : okPart n low s = false) : (s.size : Int) ≠ n ∨ ((s.size : Int) = n ∧ allOk (atLeast low) s.data.toList = false) := by
  unfold okPart at h
  by_cases e : (s.size : Int) = n
  · exact .inr ⟨e, by simpa [e] using h⟩
  · exact .inl e
def okParts (a b i : ByteArray) : Bool := okPart 2 10 a && (okPart 3 0 b && okPart 9 0 i)

def dash : ByteArray := ⟨#[45]⟩
/-- The country, -, the party, -, the instance, in capitals. -/
def bodyB (a b i : ByteArray) : ByteArray := capsB (a ++ dash ++ b ++ dash ++ i)
def oneB (c : Nat) : ByteArray := ⟨#[UInt8.ofNat c]⟩
def wholeB (a b i : ByteArray) : ByteArray := bodyB a b i ++ dash ++ oneB (checkL (bodyB a b i).data.toList)
def makeB (a b i : ByteArray) : ByteArray := if okParts a b i then wholeB a b i else ⟨#[]⟩
def makeE (a b i : ByteArray) : Int := if okParts a b i then 0 else 4

theorem make_no (a b i : ByteArray) (h : okParts a b i = false) : makeB a b i = ⟨#[]⟩ ∧ makeE a b i = 4 := by
  unfold makeB makeE; rw [h]; exact ⟨rfl, rfl⟩
theorem make_yes (a b i : ByteArray) (h : okParts a b i = true) : makeB a b i = wholeB a b i ∧ makeE a b i = 0 := by
  unfold makeB makeE; rw [h]; exact ⟨rfl, rfl⟩

theorem append_list (a b : ByteArray) : (a ++ b).data.toList = a.data.toList ++ b.data.toList := by simp
theorem allOk_append (f : Nat → Bool) (x y : List UInt8) : allOk f (x ++ y) = (allOk f x && allOk f y) := by unfold allOk; rw [List.all_append]
theorem allOk_caps (f : Nat → Bool) (hf : ∀ n, f n = true → f (capN n) = true) (x : List UInt8) (h : allOk f x = true) : allOk f (capsL x) = true := by
  unfold allOk capsL at *
  rw [List.all_eq_true] at *
  intro c hc
  obtain ⟨d, hd, rfl⟩ := List.mem_map.1 hc
  rw [cap_toNat]; exact hf _ (h d hd)
theorem atLeast_perm (low : Int) (h : 0 ≤ low) (x : List UInt8) (hx : allOk (atLeast low) x = true) : allOk perm x = true := by
  unfold allOk at *
  rw [List.all_eq_true] at *
  intro c hc
  have := hx c hc
  unfold atLeast at this; unfold perm
  simp at this ⊢
  omega
theorem perm_cap (n : Nat) (h : perm n = true) : perm (capN n) = true := by
  unfold perm at *
  rw [val_capN]
  simp at h ⊢
  unfold val at h ⊢
  unfold capN
  split <;> omega

theorem body_size (a b i : ByteArray) (h : okParts a b i = true) : (bodyB a b i).size = 16 := by
  unfold okParts at h
  simp only [Bool.and_eq_true] at h
  have h1 := (okPart_yes h.1).1; have h2 := (okPart_yes h.2.1).1; have h3 := (okPart_yes h.2.2).1
  have hd : dash.size = 1 := rfl
  unfold bodyB; rw [capsB_size]; simp only [ByteArray.size_append, hd]; omega

theorem count_pos (l : List UInt8) (c : UInt8) (hc : c ∈ l) (hv : 0 ≤ val c.toNat) : 0 < (sumL l).2 := by
  have key : ∀ (l : List UInt8) (x : Int × Int), 0 ≤ x.2 → x.2 ≤ (l.foldl fold1 x).2 := by
    intro l
    induction l with
    | nil => intro x _; exact Int.le_refl _
    | cons d l ih =>
      intro x hx
      have h1 : x.2 ≤ (fold1 x d).2 := by unfold fold1; split <;> simp <;> omega
      have := ih (fold1 x d) (by omega)
      rw [List.foldl_cons]; omega
  have key2 : ∀ (l : List UInt8) (x : Int × Int), 0 ≤ x.2 → c ∈ l → 0 < (l.foldl fold1 x).2 := by
    intro l
    induction l with
    | nil => intro x _ h; cases h
    | cons d l ih =>
      intro x hx hm
      have h1 : x.2 ≤ (fold1 x d).2 := by unfold fold1; split <;> simp <;> omega
      rw [List.foldl_cons]
      rcases List.mem_cons.1 hm with rfl | hm
      · have h2 : 0 < (fold1 x c).2 := by unfold fold1; rw [if_neg (by omega)]; show 0 < x.2 + 1; omega
        have := key l (fold1 x c) (by omega)
        omega
      · exact ih _ (by omega) hm
  exact key2 l (36, 0) (by simp) hc

theorem body_list (a b i : ByteArray) : (bodyB a b i).data.toList = capsL (a.data.toList ++ [45] ++ b.data.toList ++ [45] ++ i.data.toList) := by
  unfold bodyB; rw [capsB_list]; simp only [append_list]; rfl

theorem body_good (a b i : ByteArray) (h : okParts a b i = true) : goodL (bodyB a b i).data.toList = true := by
  have hz := body_size a b i h
  unfold okParts at h
  simp only [Bool.and_eq_true] at h
  have h1 := okPart_yes h.1; have h2 := okPart_yes h.2.1; have h3 := okPart_yes h.2.2
  unfold goodL
  rw [valid_in _ (by omega) (by omega), body_list]
  rw [Bool.and_eq_true]
  refine ⟨?_, ?_⟩
  · refine allOk_caps perm perm_cap _ ?_
    simp only [allOk_append]
    rw [atLeast_perm 10 (by decide) _ h1.2, atLeast_perm 0 (by decide) _ h2.2, atLeast_perm 0 (by decide) _ h3.2]
    decide
  · rw [decide_eq_true_eq]
    have hlen : 0 < i.data.toList.length := by rw [size_list]; omega
    obtain ⟨c, hc⟩ : ∃ c, c ∈ i.data.toList := ⟨_, List.getElem_mem hlen⟩
    have hv : 0 ≤ val c.toNat := by
      have := h3.2; unfold allOk at this; rw [List.all_eq_true] at this
      simpa [atLeast] using this c hc
    refine count_pos _ (cap c) ?_ ?_
    · unfold capsL; rw [List.mem_map]; exact ⟨c, by simp [hc], rfl⟩
    · rw [cap_toNat, val_capN]; exact hv

theorem body_check (a b i : ByteArray) (h : okParts a b i = true) : checkE (bodyB a b i).data.toList = 0 ∧ checkL (bodyB a b i).data.toList < 128 := by
  have hg := body_good a b i h
  unfold checkE checkL
  rw [hg]
  exact ⟨rfl, letterN_lt _ (checkN_lt _)⟩

theorem run_rune_string (c : Nat) (hc : c < 128) (w : World) : (convert 21 9 (.int .i32 c)).run Tryd.prog w = .ok (.string (oneB c)) w := by
  have e : Utf8.encode (c : Int) = oneB c := by
    have hv : Utf8.valid (c : Int) = true := by unfold Utf8.valid; simp; omega
    unfold Utf8.encode oneB
    simp only [hv, if_true, Int.toNat_natCast, hc]
  simp [convert, run_underlying Tryd.underlying21, run_underlying Tryd.underlying9, Conv.intToString, e]

theorem run_byte_string (c : Nat) (w : World) : (convert 55 9 (.slice (some ⟨w.heap.size, 0, none⟩) 1 1)).run Tryd.prog (w.alloc (.cells #[.int .u8 c] 5)) = .ok (.string (oneB c)) (w.alloc (.cells #[.int .u8 c] 5)) := by
  rw [run_convert_bytes_string _ 55 9 5 _ _ _ Tryd.underlying55 Tryd.underlying5 Tryd.underlying9]
  have hl := run_loadCells (P := Tryd.prog) (w.alloc (.cells #[.int .u8 c] 5)) ⟨w.heap.size, 0, none⟩ 1 (fun _ => .int .u8 c) (fun j hj => by
    obtain rfl : j = 0 := by omega
    have e : (⟨w.heap.size, 0, none⟩ : Addr).add 0 = ⟨w.heap.size, 0, none⟩ := by unfold Addr.add; split <;> simp_all
    rw [e]; simp)
  have hl2 : (loadCells ⟨w.heap.size, 0, none⟩ 1).run Tryd.prog (w.alloc (.cells #[.int .u8 c] 5)) = .ok (([c].map fun (n : Nat) => (n : Int)).map (Value.int .u8)).toArray (w.alloc (.cells #[.int .u8 c] 5)) := by
    rw [hl]; rfl
  rw [run_bytesToString _ _ _ _ _ hl2, push_fold]
  rfl
end Go.Proofs.YtkimniggdnlliaaDoor
