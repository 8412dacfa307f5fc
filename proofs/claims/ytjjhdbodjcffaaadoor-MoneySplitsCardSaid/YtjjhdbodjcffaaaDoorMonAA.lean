/-
  Split: an amount divided in proportion to weights.
-/
import Derived.Test.YtjjhdbodjcffaaaDoorMonZ
namespace Go.Proofs.YtjjhdbodjcffaaaDoor
open Go.RowKit
open IntWalk

/-- The sort of the places is right. -/
def SortsC (n : Nat) (r : Nat → Int) : Prop := ∀ (w W1 : World) (ps : List Int), Mem W1 w.heap.size n ps ((List.range n).map r) ((List.range n).map (fun i : Nat => (i : Int))) → Below w.heap.size w W1 →
    Calls Tryd.prog 43 #[.slice (some ⟨w.heap.size + 1 + 1 + 1, 0, none⟩) n n, .func (.func 44) #[] #[.pointer (some ⟨w.heap.size + 1 + 1, 0, none⟩)]] W1 fun e w' =>
      e = .returned (.tuple #[]) ∧ (∃ os, OrdL ((List.range n).map r) os ∧ Mem w' w.heap.size n ps ((List.range n).map r) os) ∧ Below w.heap.size w w'
theorem sorts_less (n : Nat) (n1 : 1 ≤ n) (n2 : n < 20) (r : Nat → Int) : SortsC n r := fun w W1 ps m hb => sorts_small n n1 n2 r w W1 ps m hb
theorem divide_run (A : Int) (ws : List Int) (b o c n : Nat) (w : World) (hV : Wts A ws.sum ws) (hn : n = ws.length) (hR : At1 w b o ws) (hS : SortsC n (rem A ws.sum ws)) :
    Calls Tryd.prog 35 #[.int .u64 A, .slice (some ⟨b, o, none⟩) n c, .int .u64 ws.sum] w fun e w' => e = .returned (.slice (some ⟨w.heap.size, 0, none⟩) n n) ∧ Row w' w.heap.size 3 .i64 (shares A ws.sum ws) ∧ Below w.heap.size w w' :=
  divide_walk A ws.sum ws b o c n w hV hn hR (Lib.hid (fun W1 m hb => hS w W1 _ m hb))
theorem shares_len (A W : Int) (ws : List Int) : (shares A W ws).length = ws.length := by simp [shares]
theorem shares_bd {A W : Int} {ws : List Int} (h : Wts A W ws) : ∀ x ∈ shares A W ws, 0 ≤ x ∧ x ≤ 1099511627777 := by
  intro x hx
  obtain ⟨i, hi, rfl⟩ := List.mem_map.1 hx
  obtain ⟨q0, q1⟩ := quo_in h i (by simpa using hi)
  split <;> omega
/-- The first k are turned to their negatives. -/
def negd (l : List Int) (k : Nat) : List Int := (l.take k).map (fun x => -x) ++ l.drop k
theorem negd_len (l : List Int) (k : Nat) : (negd l k).length = l.length := by simp [negd]; omega
theorem negd_zero (l : List Int) : negd l 0 = l := by simp [negd]
theorem negd_all (l : List Int) : negd l l.length = l.map (fun x => -x) := by simp [negd]
theorem negd_at (l : List Int) (k : Nat) (h : k < l.length) : (negd l k)[k]'(by rw [negd_len]; exact h) = l[k] := by
  unfold negd
  rw [List.getElem_append_right (by simp; omega)]
  simp [show min k l.length = k by omega]
theorem negd_put (l : List Int) (k : Nat) (h : k < l.length) : (negd l k).set k (-l[k]) = negd l (k + 1) := by
  unfold negd
  rw [List.take_succ_eq_append_getElem h, List.map_append, List.set_append_right _ _ (by simp; omega)]
  simp only [List.length_map, List.length_take, show min k l.length = k by omega, Nat.sub_self]
  have e : (List.drop k l).set 0 (-l[k]) = -l[k] :: List.drop (k + 1) l := by
    rw [List.drop_eq_getElem_cons h]; rfl
  rw [e]
  simp
/-- The parts, with the sign of the amount. -/
def parts (a : Int) (ws : List Int) : List Int := if a < 0 then (shares (ab a) ws.sum ws).map (fun x => -x) else shares (ab a) ws.sum ws
theorem row_rdi {w : World} {g n : Nat} {l : List Int} (h : Row w g 3 .i64 l) (hn : n = l.length) (hl : l.length ≤ 2000000) : RdI w (.slice (some ⟨g, 0, none⟩) n n) l :=
  ⟨some ⟨g, 0, none⟩, n, by rw [hn], by omega, by unfold maxLen; omega, fun _ => ⟨g, 0, rfl, h.low, fun i hi => by rw [Nat.zero_add]; exact h.get i hi⟩⟩
/-- A slice of the call's own, and no error. -/
def SplitOk (w : World) (l : List Int) (e : Ending) (w' : World) : Prop := ∃ g, e = .returned (.tuple #[.slice (some ⟨g, 0, none⟩) l.length l.length, .int .i64 0]) ∧ w.heap.size ≤ g ∧ Row w' g 3 .i64 l ∧ Below w.heap.size w w'
theorem spl_ok {w w' : World} {g n : Nat} {l L : List Int} (hP : l = L) (hL : L.length = n) (hR : Row w' g 3 .i64 L) (hg : w.heap.size ≤ g) (hb : Below w.heap.size w w') :
    SplitOk w l (.returned (.tuple #[.slice (some ⟨g, 0, none⟩) n n, .int .i64 0])) w' := by subst hP; subst hL; exact ⟨g, rfl, hg, hR, hb⟩
def SplitBad (k : Int) (e : Ending) : Prop := e = .returned (.tuple #[.slice none 0 0, .int .i64 k])

set_option maxHeartbeats 1000000 in
set_option maxRecDepth 10000 in
theorem split_ok (a : Int) (ws : List Int) (b o c n : Nat) (w : World) (a0 : -1099511627776 ≤ a) (a1 : a ≤ 1099511627776) (hV : Wts (ab a) ws.sum ws) (n2 : n ≤ 512) (hn : n = ws.length) (hR : At1 w b o ws) (hS : SortsC n (rem (ab a) ws.sum ws)) :
    Calls Tryd.prog 18 #[.int .i64 a, .slice (some ⟨b, o, none⟩) n c] w (SplitOk w (parts a ws)) := by
  have n1 : 1 ≤ n := by have := hV.n1; omega
  have hw := w_in hV
  have hp := hV.pos
  have HV := Lib.hid hV
  have HR := Lib.hid hR
  have HN := Lib.hid hn
  have CD := Lib.hid (fun W (h : At1 W b o ws) => divide_run (ab a) ws b o c n W hV hn h hS)
  clear hR hn hV hS
  go_enter Tryd.func18, Tryd.ntmps18
  go_wp2
  go_loop [6, 22] (fun s i => ∃ k : Nat, k ≤ n ∧ i = .int .i64 k ∧ s = .int .i64 (pre ws k)) (fun _ i => n - (intOf i).toNat)
  case atStart => exact ⟨0, Nat.zero_le _, rfl, rfl⟩
  case round =>
    obtain ⟨k, hk, rfl, rfl⟩ := hrel
    have p0 := pre_mono ws (fun x hx => (HV.out.w0 x hx).1) k
    by_cases hlt : k < n
    · have hcw := HR.out.2 k (by have := HN.out; omega)
      have hs := pre_succ ws k (by have := HN.out; omega)
      obtain ⟨x0, x1⟩ := HV.out.w0 (ws[k]'(by have := HN.out; omega)) (List.getElem_mem _)
      obtain ⟨x, hx⟩ : ∃ x, x = ws[k]'(by have := HN.out; omega) := ⟨_, rfl⟩
      rw [← hx] at hcw hs x0 x1
      have HS := Lib.hid hs
      obtain ⟨S, hS⟩ : ∃ S, S = pre ws k := ⟨_, rfl⟩
      rw [← hS] at p0 HS ⊢
      obtain ⟨p1, p2⟩ := p0
      clear hs hx hS
      go_wp2
      go_round
      case rel => exact ⟨k + 1, by omega, by go_num, by rw [HS.out]⟩
      case measure => simp [intOf]; omega
    · obtain rfl : k = n := by omega
      have e : pre ws k = ws.sum := by rw [HN.out, pre_all]
      rw [e]
      clear e p0
      have hz : (ws.sum == 0) = false := eq_f _ _ (by omega)
      go_wp2_with (first | (go_at_call 26; refine (mag_run _ _ (by omega) (by omega)).mono ?_; rintro e w1 ⟨rfl, rfl⟩) | fail)
      refine (CD.out _ HR.out).mono ?_
      rintro e w1 ⟨rfl, r1, b1⟩
      have hl : (shares (ab a) ws.sum ws).length = k := by rw [shares_len]; exact HN.out.symm
      have hsb := shares_bd HV.out
      have R1 := Lib.hid r1
      have B1 := Lib.hid b1
      have HSB := Lib.hid hsb
      obtain ⟨L, hL⟩ : ∃ L, L = shares (ab a) ws.sum ws := ⟨_, rfl⟩
      rw [← hL] at R1 HSB hl
      have hP : parts a ws = if a < 0 then L.map (fun x => -x) else L := by rw [hL]; rfl
      clear r1 b1 hL hsb hz
      have HL := Lib.hid hl
      clear hl
      by_cases ha : a < 0
      · rw [if_pos ha] at hP
        have HP := Lib.hid hP
        clear hP
        obtain ⟨w0, hw0⟩ : ∃ w0, w0 = w1 := ⟨_, rfl⟩
        have hbb := B1.out.size
        go_wp2
        go_loopw [48] (fun i wr => ∃ j : Nat, j ≤ k ∧ i = .int .i64 j ∧ Row wr w.heap.size 3 .i64 (negd L j) ∧ Below w.heap.size w wr) (fun i _ => k - (intOf i).toNat)
        case atStart => exact ⟨0, Nat.zero_le _, rfl, by rw [negd_zero]; exact R1.out, B1.out⟩
        case round =>
          obtain ⟨j, hj, rfl, R2, B2⟩ := hrel
          have RH := Lib.hid R2
          have BH := Lib.hid B2
          clear R2 B2
          by_cases hlt : j < k
          · have c1 := RH.out.get j (by rw [negd_len, HL.out]; exact hlt)
            rw [negd_at L j (by rw [HL.out]; exact hlt)] at c1
            have c2 := RH.out.free j
            obtain ⟨x0, x1⟩ := HSB.out (L[j]'(by rw [HL.out]; exact hlt)) (List.getElem_mem _)
            have R3 := Lib.hid (RH.out.put j (-(L[j]'(by rw [HL.out]; exact hlt))))
            rw [negd_put L j (by rw [HL.out]; exact hlt)] at R3
            obtain ⟨x, hx⟩ : ∃ x, x = L[j]'(by rw [HL.out]; exact hlt) := ⟨_, rfl⟩
            rw [← hx] at c1 x0 x1 R3
            have B3 := Lib.hid (BH.out.setCell (p := ⟨w.heap.size, j, none⟩) (Nat.le_refl _) (.int .i64 (-x)))
            clear hx
            go_wp2
            go_roundw
            case rel => exact ⟨j + 1, by omega, by go_num, R3.out, B3.out⟩
            case measure => simp [intOf]; omega
          · obtain rfl : j = k := by omega
            have R3 := RH.out
            rw [← HL.out, negd_all] at R3
            have HR3 := Lib.hid R3
            clear R3
            go_wp2
            go_ret2
            exact spl_ok HP.out (by rw [List.length_map]; exact HL.out) HR3.out (Nat.le_refl _) BH.out
      · rw [if_neg ha] at hP
        have HP := Lib.hid hP
        clear hP
        go_wp2
        go_ret2
        exact spl_ok HP.out HL.out R1.out (Nat.le_refl _) B1.out
end Go.Proofs.YtjjhdbodjcffaaaDoor
