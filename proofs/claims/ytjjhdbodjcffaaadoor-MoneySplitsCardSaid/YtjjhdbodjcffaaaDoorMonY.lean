/-
  The parts of an amount: the walk.
-/
import Derived.Test.YtjjhdbodjcffaaaDoorMonX
namespace Go.Proofs.YtjjhdbodjcffaaaDoor
open Go.RowKit
open IntWalk

/-- The memory of divide: parts, remainders, the box of the remainders' slice, the order. -/
def Mem (w : World) (h n : Nat) (ps rs os : List Int) : Prop :=
  Row w h 3 .i64 ps ∧ Row w (h + 1) 45 .u64 rs ∧ w.heap[h + 1 + 1]? = some (.cells #[.slice (some ⟨h + 1, 0, none⟩) n n] 58 (0, 0)) ∧ Row w (h + 1 + 1 + 1) 3 .i64 os
theorem Mem.start (w : World) (n : Nat) : Mem ((((w.alloc (.cells (Array.replicate n (Value.int .i64 0)) 3)).alloc (.cells (Array.replicate n (Value.int .u64 0)) 45)).alloc (.cells #[.slice (some ⟨w.heap.size + 1, 0, none⟩) n n] 58)).alloc (.cells (Array.replicate n (Value.int .i64 0)) 3)) w.heap.size n (List.replicate n 0) (List.replicate n 0) (List.replicate n 0) := by
  have r1 := Row.fresh w 3 .i64 n
  have r2 := Row.fresh (w.alloc (.cells (List.replicate n (Value.int .i64 0)).toArray 3)) 45 .u64 n
  have r3 := Row.fresh (((w.alloc (.cells (List.replicate n (Value.int .i64 0)).toArray 3)).alloc (.cells (List.replicate n (Value.int .u64 0)).toArray 45)).alloc (.cells #[.slice (some ⟨w.heap.size + 1, 0, none⟩) n n] 58)) 3 .i64 n
  simp only [World.size_alloc, List.toArray_replicate] at r1 r2 r3
  refine ⟨((r1.more _).more _).more _, (r2.more _).more _, ?_, r3⟩
  have := heap_alloc_new ((w.alloc (.cells (Array.replicate n (Value.int .i64 0)) 3)).alloc (.cells (Array.replicate n (Value.int .u64 0)) 45)) (.cells #[.slice (some ⟨w.heap.size + 1, 0, none⟩) n n] 58)
  simp only [World.size_alloc] at this
  exact (Below.heap_alloc _ _ _ (by simp)).trans this
theorem Mem.cell {w : World} {h n : Nat} {ps rs os : List Int} (m : Mem w h n ps rs os) : w.cell? ⟨h + 1 + 1, 0, none⟩ = some (.slice (some ⟨h + 1, 0, none⟩) n n) := by
  rw [cell_of_row w (h + 1 + 1) 0 _ _ (0, 0) m.2.2.1]; rfl
theorem Mem.three {w : World} {h n : Nat} {ps rs os : List Int} (m : Mem w h n ps rs os) (i : Nat) (a b c : Int) :
    Mem (((w.setCell ⟨h, i, none⟩ (.int .i64 a)).setCell ⟨h + 1, i, none⟩ (.int .u64 b)).setCell ⟨h + 1 + 1 + 1, i, none⟩ (.int .i64 c)) h n (ps.set i a) (rs.set i b) (os.set i c) := by
  obtain ⟨m1, m2, m3, m4⟩ := m
  refine ⟨((m1.put i a).far (by simp) _).far (by simp; omega) _, ((m2.far (by simp) _).put i b).far (by simp) _, ?_, ((m4.far (by simp; omega) _).far (by simp; omega) _).put i c⟩
  exact (Below.heap_setCell _ _ _ _ (by simp)).trans ((Below.heap_setCell _ _ _ _ (by simp)).trans ((Below.heap_setCell _ _ _ _ (by simp; omega)).trans m3))

theorem b_draws {B : Nat} {w w1 : World} (h : Below B w w1) (q : Nat) : Below B w (w1.drewN q) := ⟨h.os, h.tape, h.output, h.size, h.block⟩
theorem Mem.draws {w : World} {h n : Nat} {ps rs os : List Int} (m : Mem w h n ps rs os) (q : Nat) : Mem (w.drewN q) h n ps rs os := m
theorem Mem.one {w : World} {h n : Nat} {ps rs os : List Int} (m : Mem w h n ps rs os) (i : Nat) (a : Int) : Mem (w.setCell ⟨h, i, none⟩ (.int .i64 a)) h n (ps.set i a) rs os := by
  obtain ⟨m1, m2, m3, m4⟩ := m
  exact ⟨m1.put i a, m2.far (by simp) _, (Below.heap_setCell _ _ _ _ (by simp; omega)).trans m3, m4.far (by simp; omega) _⟩
/-- The rank of a place by its remainder. -/
def rankN (rs : List Int) (i : Nat) : Nat := if h : i < rs.length then Rk.rank (fun x : Fin rs.length => rs[x]) ⟨i, h⟩ else 0
/-- The places in the order of their remainders. -/
structure OrdL (rs os : List Int) : Prop where
  len : os.length = rs.length
  bd : ∀ x ∈ os, 0 ≤ x ∧ x < rs.length
  nodup : os.Nodup
  take : ∀ i k, i < rs.length → ((i : Int) ∈ os.take k ↔ rankN rs i < k)
/-- The parts when the first places have got one more. -/
def bump (n : Nat) (q : Nat → Int) (os : List Int) (j : Nat) : List Int := (List.range n).map (fun i => q i + if (i : Int) ∈ os.take j then 1 else 0)
theorem bump_zero (n : Nat) (q : Nat → Int) (os : List Int) : bump n q os 0 = (List.range n).map q := by simp [bump]
theorem bump_len (n : Nat) (q : Nat → Int) (os : List Int) (j : Nat) : (bump n q os j).length = n := by simp [bump]
theorem bump_at (n : Nat) (q : Nat → Int) (rs os : List Int) (h : OrdL rs os) (hn : rs.length = n) (j : Nat) (hj : j < os.length) :
    ∃ i : Nat, os[j] = (i : Int) ∧ i < n ∧ (bump n q os j)[i]? = some (q i) ∧ (bump n q os j).set i (q i + 1) = bump n q os (j + 1) := by
  obtain ⟨b0, b1⟩ := h.bd os[j] (List.getElem_mem hj)
  obtain ⟨i, hi⟩ := Int.eq_ofNat_of_zero_le b0
  have hin : i < n := by omega
  have hno : ¬ (i : Int) ∈ os.take j := fun hm => by
    obtain ⟨p, hp, e⟩ := List.getElem_of_mem hm
    rw [List.length_take] at hp
    rw [List.getElem_take, ← hi] at e
    have := Rk.nodup_inj h.nodup _ _ e
    omega
  refine ⟨i, hi, hin, ?_, ?_⟩
  · simp only [bump, List.getElem?_map, List.getElem?_range hin, Option.map_some, if_neg hno]; simp
  · apply List.ext_getElem
    · simp [bump]
    · intro m h1 h2
      rw [List.getElem_set]
      simp only [bump, List.getElem_map, List.getElem_range]
      rw [List.take_succ_eq_append_getElem hj, hi]
      by_cases e : i = m
      · subst e; simp
      · rw [if_neg e]
        have : (m : Int) ≠ (i : Int) := by omega
        simp [this]
/-- The parts of an amount. -/
def shares (A W : Int) (ws : List Int) : List Int := (List.range ws.length).map (fun i => quo A W ws i + if (rankN ((List.range ws.length).map (rem A W ws)) i : Int) < left A W ws ws.length then 1 else 0)
theorem bump_all (A W : Int) (ws os : List Int) (h : OrdL ((List.range ws.length).map (rem A W ws)) os) (R : Nat) (hR : left A W ws ws.length = R) : bump ws.length (quo A W ws) os R = shares A W ws := by
  unfold bump shares
  apply List.map_congr_left
  intro i hi
  rw [List.mem_range] at hi
  congr 1
  have := h.take i R (by simpa using hi)
  rw [hR]
  by_cases c : (i : Int) ∈ os.take R
  · rw [if_pos c, if_pos (by have := this.1 c; omega)]
  · rw [if_neg c, if_neg (by have := mt this.2 c; omega)]

set_option maxHeartbeats 1000000 in
set_option maxRecDepth 10000 in
theorem divide_walk (A W : Int) (ws : List Int) (b o c n : Nat) (w : World) (hV : Wts A W ws) (hn : n = ws.length) (hR : At1 w b o ws)
    (HS : Hid (∀ W1, Mem W1 w.heap.size n ((List.range n).map (quo A W ws)) ((List.range n).map (rem A W ws)) ((List.range n).map (fun i : Nat => (i : Int))) → Below w.heap.size w W1 →
      Calls Tryd.prog 43 #[.slice (some ⟨w.heap.size + 1 + 1 + 1, 0, none⟩) n n, .func (.func 44) #[] #[.pointer (some ⟨w.heap.size + 1 + 1, 0, none⟩)]] W1 fun e w' =>
        e = .returned (.tuple #[]) ∧ (∃ os, OrdL ((List.range n).map (rem A W ws)) os ∧ Mem w' w.heap.size n ((List.range n).map (quo A W ws)) ((List.range n).map (rem A W ws)) os) ∧ Below w.heap.size w w')) :
    Calls Tryd.prog 35 #[.int .u64 A, .slice (some ⟨b, o, none⟩) n c, .int .u64 W] w fun e w' => e = .returned (.slice (some ⟨w.heap.size, 0, none⟩) n n) ∧ Row w' w.heap.size 3 .i64 (shares A W ws) ∧ Below w.heap.size w w' := by
  have a0 := hV.a0
  have a1 := hV.a1
  have n1 : 1 ≤ n := by have := hV.n1; omega
  have n2 : n ≤ 520 := by have := hV.n2; omega
  have HV := Lib.hid hV
  have HR := Lib.hid hR
  have HN := Lib.hid hn
  have hbb := hR.1
  clear hR hn hV
  have m1 := fun W => make_ints n (by omega) W
  have m2 := fun W => make_words n (by omega) W
  go_enter Tryd.func35, Tryd.ntmps35
  go_wp2
  have M0 := Lib.hid (Mem.start w n)
  have B0 : Hid (Below w.heap.size w ((((w.alloc (.cells (Array.replicate n (Value.int .i64 0)) 3)).alloc (.cells (Array.replicate n (Value.int .u64 0)) 45)).alloc (.cells #[.slice (some ⟨w.heap.size + 1, 0, none⟩) n n] 58)).alloc (.cells (Array.replicate n (Value.int .i64 0)) 3))) := Lib.hid (((((Below.refl _ _).alloc (Nat.le_refl _) _).alloc (by simp) _).alloc (by simp; omega) _).alloc (by simp; omega) _)
  clear m1 m2
  go_loopw [10, 32] (fun r i wr => ∃ k : Nat, k ≤ n ∧ i = .int .i64 k ∧ r = .int .i64 (left A W ws k) ∧ Mem wr w.heap.size n (mix n k (quo A W ws)) (mix n k (rem A W ws)) (mix n k (fun i : Nat => (i : Int))) ∧ Below w.heap.size w wr) (fun _ i _ => n - (intOf i).toNat)
  case atStart => exact ⟨0, Nat.zero_le _, rfl, rfl, by rw [mix_zero, mix_zero, mix_zero]; exact M0.out, B0.out⟩
  case round =>
    obtain ⟨k, hk, rfl, rfl, M, hb⟩ := hrel
    have MH := Lib.hid M
    have BH := Lib.hid hb
    by_cases hlt : k < n
    · have hcw := (HR.out.below hb).2 k (by have := HN.out; omega)
      have hgd : ws[k]'(by have := HN.out; omega) = ws.getD k 0 := by simp [show k < ws.length by have := HN.out; omega]
      rw [hgd] at hcw
      clear hgd
      obtain ⟨x0, x1, _⟩ := HV.out.at_ k (by have := HN.out; omega)
      obtain ⟨q0, q1⟩ := quo_in HV.out k (by have := HN.out; omega)
      obtain ⟨r0, r1⟩ := rem_in HV.out k
      obtain ⟨l0, l1⟩ := left_in HV.out k (by have := HN.out; omega)
      have hw := w_in HV.out
      obtain ⟨H, L, H0, H1, L0, L1, cm, cd⟩ := muldiv HV.out k (by have := HN.out; omega)
      have CM := Lib.hid cm
      have CD := Lib.hid cd
      have hl : left A W ws (k + 1) = left A W ws k - quo A W ws k := rfl
      have HL := Lib.hid hl
      obtain ⟨x, hx⟩ : ∃ x, x = ws.getD k 0 := ⟨_, rfl⟩
      obtain ⟨q, hq⟩ : ∃ q, q = quo A W ws k := ⟨_, rfl⟩
      obtain ⟨r, hr⟩ : ∃ r, r = rem A W ws k := ⟨_, rfl⟩
      obtain ⟨l, hl2⟩ : ∃ l, l = left A W ws k := ⟨_, rfl⟩
      rw [← hx] at hcw x0 x1 CM
      rw [← hq] at q0 q1 CD HL
      rw [← hr] at r0 r1 CD
      rw [← hl2] at l0 l1 HL ⊢
      have EQ := Lib.hid (And.intro hq hr)
      clear hx hq hr hl2 cm cd hl M hb
      go_upto_region 10 with (first | (go_at_call 25; refine (CM.out _).mono ?_; rintro e w1 ⟨rfl, rfl⟩) | (go_at_call 27; refine (CD.out _).mono ?_; rintro e w1 ⟨rfl, j, rfl⟩))
      have f1 := MH.out.1.free k
      have f2 := MH.out.2.1.free k
      have f3 := MH.out.2.2.2.free k
      have g1 := MH.out.1.get k (by rw [mix_len]; omega)
      have g2 := MH.out.2.1.get k (by rw [mix_len]; omega)
      have g3 := MH.out.2.2.2.get k (by rw [mix_len]; omega)
      have g4 := MH.out.cell
      obtain ⟨y1, hy1⟩ : ∃ y, y = (mix n k (quo A W ws))[k]'(by rw [mix_len]; omega) := ⟨_, rfl⟩
      obtain ⟨y2, hy2⟩ : ∃ y, y = (mix n k (rem A W ws))[k]'(by rw [mix_len]; omega) := ⟨_, rfl⟩
      obtain ⟨y3, hy3⟩ : ∃ y, y = (mix n k (fun i : Nat => (i : Int)))[k]'(by rw [mix_len]; omega) := ⟨_, rfl⟩
      rw [← hy1] at g1
      rw [← hy2] at g2
      rw [← hy3] at g3
      clear hy1 hy2 hy3
      go_region
      have M1 := Lib.hid ((MH.out.draws (j + 1)).three k q r k)
      have B1 := Lib.hid ((((b_draws BH.out (j + 1)).setCell (p := ⟨w.heap.size, k, none⟩) (Nat.le_refl _) (.int .i64 q)).setCell (p := ⟨w.heap.size + 1, k, none⟩) (by simp) (.int .u64 r)).setCell (p := ⟨w.heap.size + 1 + 1 + 1, k, none⟩) (by simp; omega) (.int .i64 k))
      go_wp2
      go_roundw
      case rel =>
        refine ⟨k + 1, by omega, by go_num, by rw [HL.out], ?_, B1.out⟩
        have := M1.out
        rw [EQ.out.1, EQ.out.2] at this
        rw [mix_put, mix_put, mix_put n k (fun i : Nat => (i : Int))] at this
        rw [EQ.out.1, EQ.out.2]
        exact this
      case measure => simp [intOf]; omega
    · obtain rfl : k = n := by omega
      rw [mix_all, mix_all, mix_all] at MH
      have hl := left_all HV.out
      rw [← HN.out] at hl
      obtain ⟨l0, l1⟩ := hl
      obtain ⟨R, hR⟩ := Int.eq_ofNat_of_zero_le l0
      rw [hR] at l0 l1 ⊢
      have HQ := Lib.hid hR
      clear hR M hb
      go_wp2_with fail
      refine (HS.out _ MH.out BH.out).mono ?_
      rintro e w2 ⟨rfl, ⟨os, ho, m2⟩, b2⟩
      have HO := Lib.hid ho
      have M2 := Lib.hid m2
      have B2 := Lib.hid b2
      clear ho m2 b2
      have hos : os.length = k := by rw [HO.out.len]; simp
      go_wp2
      have hn0 : k = ws.length := HN.out
      have HBA := Lib.hid (fun h : left A W ws ws.length = R => bump_all A W ws os (by rw [← hn0]; exact HO.out) R h)
      have hqb : ∀ i, i < k → 0 ≤ quo A W ws i ∧ quo A W ws i ≤ 1099511627776 := fun i hi => quo_in HV.out i (by omega)
      have HQB := Lib.hid hqb
      clear hqb
      have BS := bump_zero k (quo A W ws) os
      have HBS := Lib.hid BS
      clear BS
      have HN2 := Lib.hid hn0
      clear hn0
      obtain ⟨w0, hw0⟩ : ∃ w0, w0 = w2 := ⟨_, rfl⟩
      go_loopw [76] (fun i wr => ∃ j : Nat, j ≤ R ∧ i = .int .i64 j ∧ Mem wr w.heap.size k (bump k (quo A W ws) os j) ((List.range k).map (rem A W ws)) os ∧ Below w.heap.size w wr) (fun i _ => R - (intOf i).toNat)
      case atStart => exact ⟨0, Nat.zero_le _, rfl, by rw [HBS.out]; exact M2.out, B2.out⟩
      case round =>
        obtain ⟨j, hj, rfl, M3, B3⟩ := hrel
        have MH3 := Lib.hid M3
        have BH3 := Lib.hid B3
        clear M3 B3
        by_cases hlt : j < R
        · have hjo : j < os.length := by omega
          obtain ⟨i, e1, hi, e2, e3⟩ := bump_at k (quo A W ws) _ os HO.out (by simp) j hjo
          have c1 := MH3.out.2.2.2.get j hjo
          rw [e1] at c1
          have c2 := MH3.out.1.get i (by rw [bump_len]; exact hi)
          have e4 : (bump k (quo A W ws) os j)[i]'(by rw [bump_len]; exact hi) = quo A W ws i := by
            rw [List.getElem?_eq_getElem (by rw [bump_len]; exact hi)] at e2
            injection e2
          rw [e4] at c2
          have c3 := MH3.out.1.free i
          obtain ⟨q0, q1⟩ := HQB.out i hi
          have M4 := Lib.hid (MH3.out.one i (quo A W ws i + 1))
          rw [e3] at M4
          have B4 := Lib.hid (BH3.out.setCell (p := ⟨w.heap.size, i, none⟩) (Nat.le_refl _) (.int .i64 (quo A W ws i + 1)))
          obtain ⟨q, hq⟩ : ∃ q, q = quo A W ws i := ⟨_, rfl⟩
          rw [← hq] at c2 q0 q1 M4 B4
          clear e1 e2 e3 e4 hq hos
          go_wp2
          go_roundw
          case rel => exact ⟨j + 1, by omega, by go_num, M4.out, B4.out⟩
          case measure => simp [intOf]; omega
        · obtain rfl : j = R := by omega
          have E := HBA.out (by rw [← HN2.out]; exact HQ.out)
          have M5 := MH3.out.1
          have e5 : bump k (quo A W ws) os j = shares A W ws := by rw [← E, HN2.out]
          rw [e5] at M5
          have HM5 := Lib.hid M5
          clear M5 E e5
          go_wp2
          go_ret
          exact ⟨rfl, HM5.out, BH3.out⟩
end Go.Proofs.YtjjhdbodjcffaaaDoor
