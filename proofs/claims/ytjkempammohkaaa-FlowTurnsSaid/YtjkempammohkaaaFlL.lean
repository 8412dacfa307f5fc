/-
  The error of a network, in the program and in its reference.
-/
import Derived.Test.YtjkempammohkaaaFlJ
namespace Go.Proofs.Ytjkempammohkaaa
open Go.RowKit
open IntWalk
open Fl
set_option linter.unusedVariables false

def isnB (N x : Int) : Bool := decide (0 ≤ x) && decide (x < N)
theorem isnB_true {N x : Int} : isnB N x = true ↔ 0 ≤ x ∧ x < N := by simp [isnB]
theorem isnB_false {N x : Int} : isnB N x = false ↔ x < 0 ∨ N ≤ x := by
  rw [Bool.eq_false_iff, Ne, isnB_true]; omega
/-- The error of an arc, of arcs, of a network, of a network with its ends. -/
def acE (N : Int) (a : Ac) : Int := if isnB N a.f = true ∧ isnB N a.t = true then (if a.f = a.t then 1 else if 0 ≤ a.c ∧ a.c ≤ 1099511627776 then 0 else 2) else 2
def acsE (N : Int) : List Ac → Int
  | [] => 0
  | a :: l => if acE N a = 0 then acsE N l else acE N a
def valE (N : Int) (l : List Ac) : Int := if N < 2 then 2 else if 256 < N ∨ 2048 < l.length then 3 else acsE N l
def endE (N : Int) (l : List Ac) (s t : Int) : Int := if valE N l = 0 then (if isnB N s = true ∧ isnB N t = true ∧ s ≠ t then 0 else 2) else valE N l
theorem acsE_all {N : Int} {l : List Ac} (h : acsE N l = 0) : ∀ a ∈ l, acE N a = 0 := by
  induction l with
  | nil => intro a ha; simp at ha
  | cons x l ih =>
    have h' : (if acE N x = 0 then acsE N l else acE N x) = 0 := h
    by_cases c : acE N x = 0
    · rw [if_pos c] at h'
      intro a ha
      rcases List.mem_cons.1 ha with rfl | ha
      · exact c
      · exact ih h' a ha
    · rw [if_neg c] at h'; exact absurd h' c
theorem acE_ok {N : Int} {a : Ac} (h : acE N a = 0) : (0 ≤ a.f ∧ a.f < N) ∧ (0 ≤ a.t ∧ a.t < N) ∧ a.f ≠ a.t ∧ 0 ≤ a.c ∧ a.c ≤ 1099511627776 := by
  unfold acE at h
  split at h
  · rename_i c
    rw [isnB_true, isnB_true] at c
    split at h
    · omega
    · rename_i d
      split at h
      · rename_i e; exact ⟨c.1, c.2, d, e⟩
      · omega
  · omega
/-- Without an error the network is in order. -/
theorem valE_ok {N : Int} {l : List Ac} (h : valE N l = 0) : NetOk N l ∧ N ≤ 256 ∧ l.length ≤ 2048 := by
  unfold valE at h
  split at h
  · omega
  · split at h
    · omega
    · have all := acsE_all h
      exact ⟨⟨by omega, fun a ha => (acE_ok (all a ha)).1, fun a ha => (acE_ok (all a ha)).2.1, fun a ha => (acE_ok (all a ha)).2.2.1, fun a ha => (acE_ok (all a ha)).2.2.2⟩, by omega, by omega⟩
theorem endE_ok {N : Int} {l : List Ac} {s t : Int} (h : endE N l s t = 0) : valE N l = 0 ∧ (0 ≤ s ∧ s < N) ∧ (0 ≤ t ∧ t < N) ∧ s ≠ t := by
  unfold endE at h
  split at h
  · rename_i c
    split at h
    · rename_i d; rw [isnB_true, isnB_true] at d; exact ⟨c, d.1, d.2.1, d.2.2⟩
    · omega
  · rename_i c; exact absurd h c
theorem acsE_drop {N : Int} {l : List Ac} {k : Nat} (hk : k < l.length) : acsE N (l.drop k) = if acE N (l[k]'hk) = 0 then acsE N (l.drop (k + 1)) else acE N (l[k]'hk) := by
  rw [List.drop_eq_getElem_cons hk]; rfl

/-- A network as an argument. -/
def nV (N : Int) (p : Option Addr) (n c : Nat) : Value := .agg #[.int .i64 N, .slice p n c]
theorem isnode_b (N x : Int) (p : Option Addr) (n c : Nat) (b : Bool) (hb : isnB N x = b) (W : World) : Calls Try.prog 26 #[.agg #[.int .i64 N, .slice p n c], .int .i64 x] W fun e w' => e = .returned (.bool b) ∧ w' = W.alloc (.cells #[.int .i64 N, .slice p n c] 24) := by
  cases b with
  | true =>
    rw [isnB_true] at hb
    obtain ⟨h0, h1⟩ := hb
    go_enter Try.func26, Try.ntmps26
    go_wp2_with fail
    go_ret
    exact ⟨rfl, rfl⟩
  | false =>
    rw [isnB_false] at hb
    rcases (by omega : x < 0 ∨ (0 ≤ x ∧ N ≤ x)) with h0 | ⟨h0, h1⟩
    · go_enter Try.func26, Try.ntmps26
      go_wp2_with fail
      go_ret
      exact ⟨rfl, rfl⟩
    · have h2 : decide (x < N) = false := by simpa using h1
      go_enter Try.func26, Try.ntmps26
      go_wp2_with fail
      go_ret
      exact ⟨rfl, rfl⟩

def VdHd (w : World) (N : Int) (p : Option Addr) (c : Nat) (l : List Ac) (i : Value) (wr : World) : Prop :=
  ∃ k : Nat, i = .int .i64 (k : Int) ∧ k ≤ l.length ∧ acsE N l = acsE N (l.drop k) ∧ Below w.heap.size w wr ∧ w.heap.size < wr.heap.size ∧ wr.cell? ⟨w.heap.size, 0, none⟩ = some (.int .i64 N) ∧ wr.cell? ⟨w.heap.size, 1, none⟩ = some (.slice p l.length c)
theorem VdHd.next {w wr w' : World} {N : Int} {p : Option Addr} {c : Nat} {l : List Ac} {k : Nat} (hk : k < l.length) (he : acsE N l = acsE N (l.drop k)) (ha : acE N (l[k]'hk) = 0) (b : Below w.heap.size w wr) (z : w.heap.size < wr.heap.size)
    (c0 : wr.cell? ⟨w.heap.size, 0, none⟩ = some (.int .i64 N)) (c1 : wr.cell? ⟨w.heap.size, 1, none⟩ = some (.slice p l.length c)) (hb : Below wr.heap.size wr w') : VdHd w N p c l (.int .i64 (k + 1)) w' :=
  ⟨k + 1, by simp, by omega, by rw [he, acsE_drop hk, if_pos ha], b.trans (hb.mono (by omega)), Nat.lt_of_lt_of_le z hb.size, (hb.cell (p := ⟨w.heap.size, 0, none⟩) z).trans c0, (hb.cell (p := ⟨w.heap.size, 1, none⟩) z).trans c1⟩

set_option maxHeartbeats 4000000 in
set_option maxRecDepth 100000 in
theorem valid_run (N : Int) (l : List Ac) (p : Option Addr) (c : Nat) (w : World) (hl : l.length ≤ 100000) (hA : NetAt w p l) :
    Calls Try.prog 12 #[.agg #[.int .i64 N, .slice p l.length c]] w fun e w' => e = .returned (.int .i64 (valE N l)) ∧ Below w.heap.size w w' := by
  have HA := Lib.hid hA
  clear hA
  by_cases h1 : N < 2
  · have HV : Hid (valE N l = 2) := Lib.hid (if_pos h1)
    go_enter Try.func12, Try.ntmps12
    go_wp2_with fail
    go_ret
    exact ⟨ret_int HV.out.symm, (Below.refl _ _).alloc (Nat.le_refl _) _⟩
  by_cases h2 : 256 < N
  · have HV : Hid (valE N l = 3) := Lib.hid (by unfold valE; rw [if_neg h1, if_pos (.inl h2)])
    go_enter Try.func12, Try.ntmps12
    go_wp2_with fail
    go_ret
    exact ⟨ret_int HV.out.symm, (Below.refl _ _).alloc (Nat.le_refl _) _⟩
  by_cases h3 : 2048 < l.length
  · have HV : Hid (valE N l = 3) := Lib.hid (by unfold valE; rw [if_neg h1, if_pos (.inr h3)])
    go_enter Try.func12, Try.ntmps12
    go_wp2_with fail
    go_ret
    exact ⟨ret_int HV.out.symm, (Below.refl _ _).alloc (Nat.le_refl _) _⟩
  have HV : Hid (valE N l = acsE N l) := Lib.hid (by unfold valE; rw [if_neg h1, if_neg (by omega)])
  go_enter Try.func12, Try.ntmps12
  go_wp2_with fail
  go_loopw [20] (fun i wr => VdHd w N p c l i wr) (fun i _ => l.length - (intOf i).toNat)
  case atStart => exact ⟨0, rfl, Nat.zero_le _, rfl, (Below.refl _ _).alloc (Nat.le_refl _) _, by simp, by simp, by simp⟩
  case round =>
    obtain ⟨k, rfl, hk, he, hb, hz, c0, c1⟩ := hrel
    have HE := Lib.hid he
    have B1 := Lib.hid hb
    clear he hb
    by_cases hlt : k < l.length
    · obtain ⟨ba, oa, rfl, hba, hca⟩ := HA.out (by intro e; rw [e] at hlt; simp at hlt)
      obtain ⟨q1, q2, q3⟩ := hca k hlt
      have d1 : wr.cell? ⟨ba, oa + k * 3, none⟩ = _ := (B1.out.cell (p := ⟨ba, _, none⟩) hba).trans q1
      have d2 : wr.cell? ⟨ba, oa + k * 3 + 1, none⟩ = _ := (B1.out.cell (p := ⟨ba, _, none⟩) hba).trans q2
      have d3 : wr.cell? ⟨ba, oa + k * 3 + 2, none⟩ = _ := (B1.out.cell (p := ⟨ba, _, none⟩) hba).trans q3
      clear hca q1 q2 q3
      have HD := Lib.hid (acsE_drop (N := N) hlt)
      have HX := Lib.hid (fun (h : acE N (l[k]'hlt) = 0) (w' : World) (hb : Below wr.heap.size wr w') => VdHd.next (p := some ⟨ba, oa, none⟩) (c := c) hlt HE.out h B1.out hz c0 c1 hb)
      obtain ⟨a, hae⟩ : ∃ a, a = l[k]'hlt := ⟨_, rfl⟩
      rw [← hae] at d1 d2 d3 HD HX
      clear hae
      obtain ⟨x, y, z⟩ := a
      simp only at d1 d2 d3
      cases e1 : isnB N x
      · have IF := Lib.hid (fun W => isnode_b N x (some ⟨ba, oa, none⟩) l.length c false e1 W)
        have HR : Hid (acE N ⟨x, y, z⟩ = 2) := Lib.hid (by unfold acE; rw [if_neg (by simp [e1])])
        clear e1
        go_wp2_with fail
        refine (IF.out _).mono ?_
        rintro _ w1 ⟨rfl, rfl⟩
        go_wp2_with fail
        go_ret
        exact ⟨ret_int (by rw [HV.out, HE.out, HD.out, HR.out]; rfl), (B1.out.alloc (by omega) _).alloc (by simp; omega) _⟩
      · have IF := Lib.hid (fun W => isnode_b N x (some ⟨ba, oa, none⟩) l.length c true e1 W)
        cases e2 : isnB N y
        · have IT := Lib.hid (fun W => isnode_b N y (some ⟨ba, oa, none⟩) l.length c false e2 W)
          have HR : Hid (acE N ⟨x, y, z⟩ = 2) := Lib.hid (by unfold acE; rw [if_neg (by simp [e2])])
          clear e1 e2
          go_wp2_with fail
          refine (IF.out _).mono ?_
          rintro _ w1 ⟨rfl, rfl⟩
          go_wp2_with fail
          refine (IT.out _).mono ?_
          rintro _ w2 ⟨rfl, rfl⟩
          go_wp2_with fail
          go_ret
          exact ⟨ret_int (by rw [HV.out, HE.out, HD.out, HR.out]; rfl), ((B1.out.alloc (by omega) _).alloc (by simp; omega) _).alloc (by simp; omega) _⟩
        · have IT := Lib.hid (fun W => isnode_b N y (some ⟨ba, oa, none⟩) l.length c true e2 W)
          have E12 : Hid (isnB N x = true ∧ isnB N y = true) := Lib.hid ⟨e1, e2⟩
          clear e1 e2
          by_cases e3 : x = y
          · have HR : Hid (acE N ⟨x, y, z⟩ = 1) := Lib.hid (by unfold acE; rw [if_pos E12.out, if_pos e3])
            subst e3
            go_wp2_with fail
            refine (IF.out _).mono ?_
            rintro _ w1 ⟨rfl, rfl⟩
            go_wp2_with fail
            refine (IT.out _).mono ?_
            rintro _ w2 ⟨rfl, rfl⟩
            go_wp2_with fail
            go_ret
            exact ⟨ret_int (by rw [HV.out, HE.out, HD.out, HR.out]; rfl), ((B1.out.alloc (by omega) _).alloc (by simp; omega) _).alloc (by simp; omega) _⟩
          · have e4 : (x == y) = false := by simpa using e3
            rcases (by omega : z < 0 ∨ (0 ≤ z ∧ 1099511627776 < z) ∨ (0 ≤ z ∧ z ≤ 1099511627776)) with g | ⟨g, g2⟩ | ⟨g, g2⟩
            · have HR : Hid (acE N ⟨x, y, z⟩ = 2) := Lib.hid (by unfold acE; rw [if_pos E12.out, if_neg e3, if_neg (by simp only; omega)])
              clear e3
              go_wp2_with fail
              refine (IF.out _).mono ?_
              rintro _ w1 ⟨rfl, rfl⟩
              go_wp2_with fail
              refine (IT.out _).mono ?_
              rintro _ w2 ⟨rfl, rfl⟩
              go_wp2_with fail
              go_ret
              exact ⟨ret_int (by rw [HV.out, HE.out, HD.out, HR.out]; rfl), ((B1.out.alloc (by omega) _).alloc (by simp; omega) _).alloc (by simp; omega) _⟩
            · have HR : Hid (acE N ⟨x, y, z⟩ = 2) := Lib.hid (by unfold acE; rw [if_pos E12.out, if_neg e3, if_neg (by simp only; omega)])
              clear e3
              go_wp2_with fail
              refine (IF.out _).mono ?_
              rintro _ w1 ⟨rfl, rfl⟩
              go_wp2_with fail
              refine (IT.out _).mono ?_
              rintro _ w2 ⟨rfl, rfl⟩
              go_wp2_with fail
              go_ret
              exact ⟨ret_int (by rw [HV.out, HE.out, HD.out, HR.out]; rfl), ((B1.out.alloc (by omega) _).alloc (by simp; omega) _).alloc (by simp; omega) _⟩
            · have HR : Hid (acE N ⟨x, y, z⟩ = 0) := Lib.hid (by unfold acE; rw [if_pos E12.out, if_neg e3, if_pos ⟨g, g2⟩])
              clear e3
              go_wp2_with fail
              refine (IF.out _).mono ?_
              rintro _ w1 ⟨rfl, rfl⟩
              go_wp2_with fail
              refine (IT.out _).mono ?_
              rintro _ w2 ⟨rfl, rfl⟩
              go_wp2_with fail
              go_roundw
              case rel => exact HX.out HR.out _ ((((Below.refl _ _).alloc (Nat.le_refl _) _).alloc (by simp) _).alloc (by simp; omega) _)
              case measure => simp [intOf]; omega
    · obtain rfl : k = l.length := by omega
      go_wp2_with fail
      go_ret
      exact ⟨ret_int (by rw [HV.out, HE.out, List.drop_length]; rfl), B1.out⟩
end Go.Proofs.Ytjkempammohkaaa
