/-
  One wrong character changes the check character; what was made is parsed.
-/
import Derived.Test.YtkimniggdnlliaaDoorIdJ
namespace Go.Proofs.YtkimniggdnlliaaDoor
open Go.RowKit
open Plain

theorem turn_left (p q v : Int) (p1 : 1 ≤ p) (p2 : p ≤ 36) (q1 : 1 ≤ q) (q2 : q ≤ 36) (h : p ≠ q) : turn p v ≠ turn q v := by
  unfold turn; split <;> split <;> omega
theorem turn_right (p u v : Int) (u1 : 0 ≤ u) (u2 : u ≤ 35) (v1 : 0 ≤ v) (v2 : v ≤ 35) (h : u ≠ v) : turn p u ≠ turn p v := by
  unfold turn; split <;> split <;> omega
theorem fold_apart : ∀ (l : List UInt8) (x y : Int × Int), 1 ≤ x.1 → x.1 ≤ 36 → 1 ≤ y.1 → y.1 ≤ 36 → x.1 ≠ y.1 → (l.foldl fold1 x).1 ≠ (l.foldl fold1 y).1
  | [], _, _, _, _, _, _, h => h
  | c :: l, x, y, x1, x2, y1, y2, h => by
    rw [List.foldl_cons, List.foldl_cons]
    by_cases hv : val c.toNat < 0
    · have e : ∀ z : Int × Int, fold1 z c = z := fun z => by unfold fold1; rw [if_pos hv]
      rw [e, e]; exact fold_apart l x y x1 x2 y1 y2 h
    · have e : ∀ z : Int × Int, (fold1 z c).1 = turn z.1 (val c.toNat) := fun z => by unfold fold1; rw [if_neg hv]
      have t1 := turn_bd x.1 (val c.toNat); have t2 := turn_bd y.1 (val c.toNat)
      exact fold_apart l _ _ (by rw [e]; exact t1.1) (by rw [e]; exact t1.2) (by rw [e]; exact t2.1) (by rw [e]; exact t2.2) (by rw [e, e]; exact turn_left _ _ _ x1 x2 y1 y2 h)
theorem sum_apart (l1 l2 : List UInt8) (u v : UInt8) (hu : 0 ≤ val u.toNat) (hv : 0 ≤ val v.toNat) (h : val u.toNat ≠ val v.toNat) : (sumL (l1 ++ u :: l2)).1 ≠ (sumL (l1 ++ v :: l2)).1 := by
  unfold sumL
  rw [List.foldl_append, List.foldl_append, List.foldl_cons, List.foldl_cons]
  have eu : (fold1 (l1.foldl fold1 (36, 0)) u).1 = turn (l1.foldl fold1 (36, 0)).1 (val u.toNat) := by unfold fold1; rw [if_neg (by omega)]
  have ev : (fold1 (l1.foldl fold1 (36, 0)) v).1 = turn (l1.foldl fold1 (36, 0)).1 (val v.toNat) := by unfold fold1; rw [if_neg (by omega)]
  have b1 := val_bd u.toNat; have b2 := val_bd v.toNat
  have t1 := turn_bd (l1.foldl fold1 (36, 0)).1 (val u.toNat)
  have t2 := turn_bd (l1.foldl fold1 (36, 0)).1 (val v.toNat)
  exact fold_apart l2 _ _ (by rw [eu]; exact t1.1) (by rw [eu]; exact t1.2) (by rw [ev]; exact t2.1) (by rw [ev]; exact t2.2) (by rw [eu, ev]; exact turn_right _ _ _ hu b1.2 hv b2.2 h)

/-- What Make makes, as a list. -/
theorem make_list (a b i : ByteArray) (h : okParts a b i = true) : (makeB a b i).data.toList = (bodyB a b i).data.toList ++ [45, UInt8.ofNat (letterN (checkN (sumL (bodyB a b i).data.toList).1))] := by
  rw [(make_yes a b i h).1]
  have hc : checkL (bodyB a b i).data.toList = letterN (checkN (sumL (bodyB a b i).data.toList).1) := by unfold checkL; rw [body_good a b i h]; rfl
  unfold wholeB
  rw [hc]
  simp only [append_list, List.append_assoc]
  rfl
theorem checkN_inj (p q : Int) (p1 : 1 ≤ p) (p2 : p ≤ 36) (q1 : 1 ≤ q) (q2 : q ≤ 36) (h : checkN p = checkN q) : p = q := by unfold checkN at h; omega
theorem letterN_inj (u v : Nat) (hu : u < 36) (hv : v < 36) (h : letterN u = letterN v) : u = v := by unfold letterN at h; split at h <;> split at h <;> omega
theorem ofNat_inj (u v : Nat) (hu : u < 256) (hv : v < 256) (h : UInt8.ofNat u = UInt8.ofNat v) : u = v := by
  have := congrArg UInt8.toNat h
  rw [UInt8.toNat_ofNat', UInt8.toNat_ofNat', Nat.mod_eq_of_lt (by omega), Nat.mod_eq_of_lt (by omega)] at this
  exact this

theorem body_len (a b i : ByteArray) (h : okParts a b i = true) : (bodyB a b i).data.toList.length = 16 := by rw [size_list]; exact body_size a b i h
theorem make_take (a b i : ByteArray) (h : okParts a b i = true) : (makeB a b i).data.toList.take 16 = (bodyB a b i).data.toList := by
  rw [make_list a b i h, List.take_append_of_le_length (by rw [body_len a b i h]; omega), List.take_of_length_le (by rw [body_len a b i h]; omega)]
theorem make_last (a b i : ByteArray) (h : okParts a b i = true) : (makeB a b i).data.toList.getD 17 0 = UInt8.ofNat (letterN (checkN (sumL (bodyB a b i).data.toList).1)) := by
  rw [make_list a b i h, List.getD, List.getElem?_append_right (by rw [body_len a b i h]; omega), body_len a b i h]; rfl

/-- Two that were made, apart at one place only, ahead of the check character, where both have a value: their check characters part. -/
theorem made_apart (a b i a' b' i' : ByteArray) (h : okParts a b i = true) (h' : okParts a' b' i' = true) (k : Nat) (hk : k < 16) (v : UInt8)
    (hset : (makeB a' b' i').data.toList = (makeB a b i).data.toList.set k v)
    (hu : 0 ≤ val ((makeB a b i).data.toList.getD k 0).toNat) (hv : 0 ≤ val v.toNat) (hne : val ((makeB a b i).data.toList.getD k 0).toNat ≠ val v.toNat) : False := by
  have l1 := make_last a b i h
  have l2 := make_last a' b' i' h'
  have e17 : (makeB a' b' i').data.toList.getD 17 0 = (makeB a b i).data.toList.getD 17 0 := by
    rw [hset, List.getD, List.getD, List.getElem?_set_ne (by omega)]
  have t1 := make_take a b i h
  have t2 := make_take a' b' i' h'
  rw [hset, List.take_set, t1] at t2
  rw [e17, l1] at l2
  obtain ⟨p1, p2, _, _⟩ := sumL_bd (bodyB a b i).data.toList
  obtain ⟨q1, q2, _, _⟩ := sumL_bd (bodyB a' b' i').data.toList
  have c1 := checkN_lt (sumL (bodyB a b i).data.toList).1
  have c2 := checkN_lt (sumL (bodyB a' b' i').data.toList).1
  have n1 := letterN_lt _ c1
  have n2 := letterN_lt _ c2
  have e := checkN_inj _ _ p1 p2 q1 q2 (letterN_inj _ _ c1 c2 (ofNat_inj _ _ (by omega) (by omega) l2))
  rw [← t2] at e
  have hlen := body_len a b i h
  have hg : (makeB a b i).data.toList.getD k 0 = (bodyB a b i).data.toList[k]'(by omega) := by
    rw [make_list a b i h, List.getD, List.getElem?_append_left (by omega), List.getElem?_eq_getElem (by omega)]; rfl
  rw [hg] at hu hne
  have hsplit : (bodyB a b i).data.toList = (bodyB a b i).data.toList.take k ++ (bodyB a b i).data.toList[k]'(by omega) :: (bodyB a b i).data.toList.drop (k + 1) := by
    rw [List.getElem_cons_drop, List.take_append_drop]
  have hs2 : (bodyB a b i).data.toList.set k v = (bodyB a b i).data.toList.take k ++ v :: (bodyB a b i).data.toList.drop (k + 1) := by
    rw [List.set_eq_take_append_cons_drop, if_pos (by omega)]
  rw [hs2] at e
  have e' : (sumL ((bodyB a b i).data.toList.take k ++ (bodyB a b i).data.toList[k]'(by omega) :: (bodyB a b i).data.toList.drop (k + 1))).1 = (sumL ((bodyB a b i).data.toList.take k ++ v :: (bodyB a b i).data.toList.drop (k + 1))).1 := by rw [← hsplit]; exact e
  exact sum_apart _ _ _ _ hu hv hne e'

theorem list_two (l : List UInt8) (h : l.length = 2) : ∃ x y, l = [x, y] := by
  match l, h with
  | [x, y], _ => exact ⟨x, y, rfl⟩
theorem list_three (l : List UInt8) (h : l.length = 3) : ∃ x y z, l = [x, y, z] := by
  match l, h with
  | [x, y, z], _ => exact ⟨x, y, z, rfl⟩
theorem list_nine (l : List UInt8) (h : l.length = 9) : ∃ a b c d e f g x y, l = [a, b, c, d, e, f, g, x, y] := by
  match l, h with
  | [a, b, c, d, e, f, g, x, y], _ => exact ⟨a, b, c, d, e, f, g, x, y, rfl⟩

/-- What was made, character by character. -/
theorem made_shape (a b i : ByteArray) (h : okParts a b i = true) : ∃ la lb li : List UInt8, ∃ z : Nat, z < 36 ∧ capsL a.data.toList = la ∧ capsL b.data.toList = lb ∧ capsL i.data.toList = li ∧ la.length = 2 ∧ lb.length = 3 ∧ li.length = 9 ∧
    (∀ c ∈ la, 0 ≤ val c.toNat) ∧ (∀ c ∈ lb, 0 ≤ val c.toNat) ∧ (∀ c ∈ li, 0 ≤ val c.toNat) ∧ (makeB a b i).data.toList = la ++ [45] ++ lb ++ [45] ++ li ++ [45, UInt8.ofNat (letterN z)] := by
  obtain ⟨⟨p1, p2⟩, ⟨p3, p4⟩, ⟨p5, p6⟩⟩ := parts_get a b i h
  have hlen : ∀ l : List UInt8, (capsL l).length = l.length := fun l => by unfold capsL; simp
  have hval : ∀ (low : Int) (l : List UInt8), 0 ≤ low → allOk (atLeast low) l = true → ∀ c ∈ capsL l, 0 ≤ val c.toNat := fun low l h0 hl c hc => by
    rw [← allOk_caps_eq] at hl
    unfold allOk at hl
    rw [List.all_eq_true] at hl
    have := hl c hc
    unfold atLeast at this; simp at this; omega
  refine ⟨_, _, _, _, checkN_lt (sumL (bodyB a b i).data.toList).1, rfl, rfl, rfl, ?_, ?_, ?_, hval 10 _ (by decide) p2, hval 0 _ (by decide) p4, hval 0 _ (by decide) p6, ?_⟩
  · rw [hlen, size_list]; omega
  · rw [hlen, size_list]; omega
  · rw [hlen, size_list]; omega
  · rw [make_list a b i h, body_list]; simp only [capsL_append]; rfl

theorem made_val (a b i : ByteArray) (h : okParts a b i = true) (k : Nat) (hk : k < 16) (k2 : k ≠ 2) (k6 : k ≠ 6) : 0 ≤ val ((makeB a b i).data.toList.getD k 0).toNat := by
  obtain ⟨la, lb, li, z, _, _, _, _, h1, h2, h3, v1, v2, v3, e⟩ := made_shape a b i h
  obtain ⟨a1, a2, rfl⟩ := list_two la h1
  obtain ⟨b1, b2, b3, rfl⟩ := list_three lb h2
  obtain ⟨i1, i2, i3, i4, i5, i6, i7, i8, i9, rfl⟩ := list_nine li h3
  rw [e]
  simp only [List.mem_cons, List.not_mem_nil, or_false, forall_eq_or_imp, forall_eq] at v1 v2 v3
  match k, hk with
  | 0, _ => exact v1.1
  | 1, _ => exact v1.2
  | 2, _ => exact absurd rfl k2
  | 3, _ => exact v2.1
  | 4, _ => exact v2.2.1
  | 5, _ => exact v2.2.2
  | 6, _ => exact absurd rfl k6
  | 7, _ => exact v3.1
  | 8, _ => exact v3.2.1
  | 9, _ => exact v3.2.2.1
  | 10, _ => exact v3.2.2.2.1
  | 11, _ => exact v3.2.2.2.2.1
  | 12, _ => exact v3.2.2.2.2.2.1
  | 13, _ => exact v3.2.2.2.2.2.2.1
  | 14, _ => exact v3.2.2.2.2.2.2.2.1
  | 15, _ => exact v3.2.2.2.2.2.2.2.2
  | k + 16, hk => exact absurd hk (by omega)

theorem made_dash (a b i : ByteArray) (h : okParts a b i = true) : byteAt (makeB a b i) 2 = 45 ∧ byteAt (makeB a b i) 6 = 45 ∧ byteAt (makeB a b i) 16 = 45 := by
  obtain ⟨la, lb, li, z, _, _, _, _, h1, h2, h3, _, _, _, e⟩ := made_shape a b i h
  obtain ⟨a1, a2, rfl⟩ := list_two la h1
  obtain ⟨b1, b2, b3, rfl⟩ := list_three lb h2
  obtain ⟨i1, i2, i3, i4, i5, i6, i7, i8, i9, rfl⟩ := list_nine li h3
  unfold byteAt
  rw [e]
  exact ⟨rfl, rfl, rfl⟩

theorem extract_list (s : ByteArray) (i j : Nat) : (s.extract i j).data.toList = (s.data.toList.drop i).take (j - i) := by
  simp [ByteArray.data_extract]

theorem made_cuts (a b i : ByteArray) (h : okParts a b i = true) : cA (makeB a b i) = capsB a ∧ cP (makeB a b i) = capsB b ∧ cI (makeB a b i) = capsB i ∧ ∃ z, z < 36 ∧ (cT (makeB a b i)).data.toList = [UInt8.ofNat (letterN z)] := by
  obtain ⟨la, lb, li, z, hz, ea, eb, ei, h1, h2, h3, _, _, _, e⟩ := made_shape a b i h
  obtain ⟨a1, a2, rfl⟩ := list_two la h1
  obtain ⟨b1, b2, b3, rfl⟩ := list_three lb h2
  obtain ⟨i1, i2, i3, i4, i5, i6, i7, i8, i9, rfl⟩ := list_nine li h3
  refine ⟨bytes_ext ?_, bytes_ext ?_, bytes_ext ?_, z, hz, ?_⟩
  · unfold cA; rw [extract_list, e, capsB_list, ea]; rfl
  · unfold cP; rw [extract_list, e, capsB_list, eb]; rfl
  · unfold cI; rw [extract_list, e, capsB_list, ei]; rfl
  · unfold cT; rw [extract_list, e]; rfl

theorem made_form (a b i : ByteArray) (h : okParts a b i = true) : formB (makeB a b i) = true := by
  obtain ⟨d1, d2, d3⟩ := made_dash a b i h
  obtain ⟨_, _, _, z, hz, e⟩ := made_cuts a b i h
  unfold formB shapeB
  rw [whole_size a b i h, d1, d2, d3]
  have hl := letterN_lt z hz
  have hs : (cT (makeB a b i)).size = 1 := by rw [← size_list, e]; rfl
  show (_ && okPart 1 0 (cT (makeB a b i))) = true
  unfold okPart
  rw [hs, e]
  unfold allOk atLeast
  simp only [List.all_cons, List.all_nil, UInt8.toNat_ofNat', Nat.mod_eq_of_lt (show letterN z < 256 by omega), val_letterN z hz]
  simp

theorem made_parses (a b i : ByteArray) (h : okParts a b i = true) : pE (makeB a b i) = 0 ∧ cW (makeB a b i) = makeB a b i := by
  obtain ⟨c1, c2, c3, _⟩ := made_cuts a b i h
  have hw : cW (makeB a b i) = makeB a b i := by unfold cW; rw [c1, c2, c3]; exact (make_caps a b i).1
  have hp : okParts (cA (makeB a b i)) (cP (makeB a b i)) (cI (makeB a b i)) = true := by
    rw [c1, c2, c3]; unfold okParts; rw [okPart_caps, okPart_caps, okPart_caps]; exact h
  refine ⟨?_, hw⟩
  unfold pE okS
  rw [made_form a b i h, hp, hw]
  unfold sameB
  simp

theorem capsB_capsB (s : ByteArray) : capsB (capsB s) = capsB s := bytes_ext (by rw [capsB_list, capsB_list, capsL_capsL])
theorem byteAt_caps (s : ByteArray) (j : Nat) : byteAt (capsB s) j = capN (byteAt s j) := by
  unfold byteAt
  rw [capsB_list]
  have e : (capsL s.data.toList).getD j 0 = cap (s.data.toList.getD j 0) := by
    unfold capsL
    rw [List.getD, List.getElem?_map, List.getD]
    cases s.data.toList[j]? with
    | none => rfl
    | some c => rfl
  rw [e, cap_toNat]
theorem capN_dash (n : Nat) : (capN n == 45) = (n == 45) := by
  unfold capN; split
  · rw [Bool.eq_iff_iff]; simp; omega
  · rfl
theorem shape_caps (s : ByteArray) : shapeB (capsB s) = shapeB s := by
  unfold shapeB; rw [capsB_size, byteAt_caps, byteAt_caps, byteAt_caps, capN_dash, capN_dash, capN_dash]
theorem pE_caps (s : ByteArray) : pE (capsB s) = pE s := by
  have e1 : okS (capsB s) = okS s := by
    unfold okS formB; rw [shape_caps, okS_tail, okS_parts]
  have e2 : sameB (cW (capsB s)) (capsB s) = sameB (cW s) s := by rw [cW_caps]; unfold sameB; rw [capsB_capsB]
  unfold pE; rw [e1, e2]

theorem same_eq {a b : ByteArray} (h : sameB a b = true) : capsB a = capsB b := by
  unfold sameB at h
  exact bytes_ext (by rw [← toList_of, ← toList_of]; exact eq_of_beq h)
theorem eq_same {a b : ByteArray} (h : capsB a = capsB b) : sameB a b = true := by unfold sameB; rw [h]; simp

/-- With another case only, it is parsed. -/
theorem detect_same (a b i x : ByteArray) (h : okParts a b i = true) (hs : sameB x (makeB a b i) = true) : pE x = 0 := by
  rw [← pE_caps, same_eq hs, pE_caps]; exact (made_parses a b i h).1

theorem val_cap_inj (u v : UInt8) (hu : cap u = u) (hv : cap v = v) (h0 : 0 ≤ val u.toNat) (e : val u.toNat = val v.toNat) : u = v := by
  have h1 := letter_val u.toNat (val u.toNat).toNat (by omega)
  have h2 := letter_val v.toNat (val u.toNat).toNat (by omega)
  rw [← cap_toNat, hu] at h1
  rw [← cap_toNat, hv] at h2
  exact UInt8.toNat_inj.1 (h1.symm.trans h2)

theorem set_same (l : List UInt8) (k : Nat) (hk : k < l.length) : l.set k (l.getD k 0) = l := by
  rw [List.getD, List.getElem?_eq_getElem hk]; exact List.set_getElem_self hk

/-- With another value at one place, it is not parsed. -/
theorem detect_other (a b i x : ByteArray) (h : okParts a b i = true) (k : Nat) (hk : k < 18) (c : UInt8) (hx : x.data.toList = (makeB a b i).data.toList.set k c)
    (hd : byteAt (makeB a b i) k ≠ 45) (hs : sameB x (makeB a b i) = false) : pE x ≠ 0 := by
  intro h0
  have hcaps := whole_caps a b i h
  obtain ⟨d1, d2, d3⟩ := made_dash a b i h
  have hlen : (makeB a b i).data.toList.length = 18 := by rw [size_list]; exact whole_size a b i h
  have hne : capsB x ≠ makeB a b i := fun e => by
    have : sameB x (makeB a b i) = true := eq_same (by rw [e, hcaps])
    rw [this] at hs; cases hs
  have hok : okS x = true := by
    cases ho : okS x with
    | true => rfl
    | false => unfold pE at h0; rw [ho] at h0; simp at h0
  have hsame : sameB (cW x) x = true := by
    cases ho : sameB (cW x) x with
    | true => rfl
    | false => unfold pE at h0; rw [hok, ho] at h0; simp at h0
  have hp : okParts (cA x) (cP x) (cI x) = true := by unfold okS at hok; rw [Bool.and_eq_true] at hok; exact hok.2
  have hw : cW x = capsB x := by rw [← same_eq hsame]; exact (whole_caps _ _ _ hp).symm
  have hset : (makeB (cA x) (cP x) (cI x)).data.toList = (makeB a b i).data.toList.set k (cap c) := by
    show (cW x).data.toList = _
    rw [hw, capsB_list, hx]
    unfold capsL
    rw [List.map_set]
    have := congrArg (fun s : ByteArray => s.data.toList) hcaps
    simp only [capsB_list] at this
    unfold capsL at this
    rw [this]
  have hnotset : (makeB a b i).data.toList.set k (cap c) ≠ (makeB a b i).data.toList := fun e => hne (by rw [← hw]; exact bytes_ext (hset.trans e))
  by_cases h17 : k = 17
  · subst h17
    have e : capsB x = makeB a b i := by
      have hxl : (capsB x).data.toList = (makeB a b i).data.toList.set 17 (cap c) := by rw [← hw]; exact hset
      have cut : ∀ p q : Nat, q ≤ 17 → (capsB x).extract p q = (makeB a b i).extract p q := fun p q hq => bytes_ext (by
        rw [extract_list, extract_list, hxl]
        apply List.ext_getElem?
        intro n
        simp only [List.getElem?_take, List.getElem?_drop]
        by_cases hn : n < q - p
        · rw [if_pos hn, if_pos hn, List.getElem?_set_ne (by omega)]
        · rw [if_neg hn, if_neg hn])
      rw [← hw, ← cW_caps]
      have e2 := (made_parses a b i h).2
      unfold cW cA cP cI at e2 ⊢
      rw [cut 0 2 (by omega), cut 3 6 (by omega), cut 7 16 (by omega)]
      exact e2
    exact hne e
  · have k16 : k < 16 := by
      by_cases e : k = 16
      · subst e; exact absurd d3 hd
      · omega
    have k2 : k ≠ 2 := fun e => by subst e; exact hd d1
    have k6 : k ≠ 6 := fun e => by subst e; exact hd d2
    have hu := made_val a b i h k k16 k2 k6
    have hv := made_val _ _ _ hp k k16 k2 k6
    have ev : (makeB (cA x) (cP x) (cI x)).data.toList.getD k 0 = cap c := by
      rw [hset, List.getD, List.getElem?_set_self (by omega)]; rfl
    rw [ev] at hv
    refine made_apart a b i _ _ _ h hp k k16 (cap c) hset hu hv (fun e => hnotset ?_)
    have hfix : cap ((makeB a b i).data.toList.getD k 0) = (makeB a b i).data.toList.getD k 0 := by
      have e1 := byteAt_caps (makeB a b i) k
      rw [hcaps] at e1
      unfold byteAt at e1
      rw [← cap_toNat] at e1
      exact (UInt8.toNat_inj.1 e1).symm
    rw [← val_cap_inj _ _ hfix (cap_cap c) hu e]
    exact set_same _ k (by omega)
end Go.Proofs.YtkimniggdnlliaaDoor
