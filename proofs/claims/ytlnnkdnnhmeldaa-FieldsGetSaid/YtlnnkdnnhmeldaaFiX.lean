/-
  The reference's TakeInt and readBytes.
-/
import Derived.Test.YtlnnkdnnhmeldaaFiW
namespace Go.Proofs.Ytlnnkdnnhmeldaa
open Go.RowKit
open IntWalk
set_option linter.unusedVariables false

set_option maxHeartbeats 4000000 in
theorem rtakeInt_run (v : Value) (l : List UInt8) (w : World) (h : RdB w v l) (hl : l.length ≤ 200000) :
    Calls Try.prog 17 #[v] w fun e w' => e = .returned (.tuple #[.int .i64 (intR l).1, .int .i64 (intR l).2]) ∧ w' = w := by
  have C := Lib.hid (rint_run v l 0 w h (Nat.zero_le _) hl)
  unfold RIntG rintR at C
  rw [List.drop_zero] at C
  obtain ⟨p, c, rfl, _, _, _⟩ := h
  unfold intR
  rcases hi : readI l with k | ⟨n, r⟩
  · rw [hi] at C
    have hk : (k != 0) = true := by have := readI_err l k hi; rw [bne_iff_ne]; omega
    clear hi
    go_enter Try.func17, Try.ntmps17
    go_wp2_with fail
    refine C.out.mono ?_
    rintro e w2 ⟨rfl, hw⟩
    rw [hw]
    clear hw w2 C
    go_wp2_with fail
    go_ret2
    exact ⟨rfl, rfl⟩
  · rw [hi] at C
    have hlen := readI_len l n r hi
    dsimp only at C ⊢
    by_cases h0 : r = []
    · subst h0
      rw [if_pos rfl]
      have hz : (((l.length : Int) - (([] : List UInt8).length : Nat)) != (l.length : Nat)) = false := by simp
      obtain ⟨D, hD⟩ : ∃ D, D = (l.length : Int) - (([] : List UInt8).length : Nat) := ⟨_, rfl⟩
      rw [← hD] at C hz
      clear hi hD
      go_enter Try.func17, Try.ntmps17
      go_wp2_with fail
      refine C.out.mono ?_
      rintro e w2 ⟨rfl, hw⟩
      rw [hw]
      clear hw w2 C
      go_wp2_with fail
      go_ret2
      exact ⟨rfl, rfl⟩
    · rw [if_neg h0]
      have hpos := List.length_pos_iff.2 h0
      have hz : (((l.length : Int) - (r.length : Nat)) != (l.length : Nat)) = true := by rw [bne_iff_ne]; omega
      obtain ⟨D, hD⟩ : ∃ D, D = (l.length : Int) - (r.length : Nat) := ⟨_, rfl⟩
      rw [← hD] at C hz
      clear hi hD
      go_enter Try.func17, Try.ntmps17
      go_wp2_with fail
      refine C.out.mono ?_
      rintro e w2 ⟨rfl, hw⟩
      rw [hw]
      clear hw w2 C
      go_wp2_with fail
      go_ret2
      exact ⟨rfl, rfl⟩
theorem rd_empty (w : World) (P : Option Addr) (c : Nat) (h : c ≤ maxLen) : RdB w (.slice P 0 c) [] := ⟨P, c, rfl, Nat.zero_le _, h, fun h => absurd rfl h⟩
/-- What the reference reads: bytes and the place behind them. -/
def RByG (w : World) (l : List UInt8) (a : Nat) (e : Ending) (w' : World) : Prop :=
  (∃ k, readD (l.drop a) = .error k ∧ e = .returned (.tuple #[.slice none 0 0, .int .i64 0, .int .i64 k]) ∧ w' = w) ∨
  (∃ d r u, readD (l.drop a) = .ok (d, r) ∧ e = .returned (.tuple #[u, .int .i64 ((l.length - r.length : Nat) : Int), .int .i64 0]) ∧ Fr w' w.heap.size u d ∧ Below w.heap.size w w')
theorem drop_of_len {l r : List UInt8} {a : Nat} (h : ∃ x, l.drop a = x ++ r) : r = l.drop (l.length - r.length) := by
  obtain ⟨x, h⟩ := h
  have e : l = (l.take a ++ x) ++ r := by rw [List.append_assoc, ← h, List.take_append_drop]
  have hl := congrArg List.length e
  rw [List.length_append] at hl
  conv => rhs; rw [e]
  rw [List.drop_left' (by rw [List.length_append (bs := r)]; omega)]
set_option maxHeartbeats 4000000 in
set_option maxRecDepth 10000 in
theorem rbytes_run (v : Value) (l : List UInt8) (a : Nat) (w : World) (h : RdB w v l) (ha : a ≤ l.length) (hl : l.length ≤ 200000) :
    Calls Try.prog 42 #[v, .int .i64 a] w (RByG w l a) := by
  have C := Lib.hid (rint_run v l a w h ha hl)
  unfold RIntG rintR at C
  have R0 := Lib.hid h
  obtain ⟨p, c, rfl, hcl, hcm, hat⟩ := h
  rcases hi : readI (l.drop a) with k | ⟨n, r⟩
  · rw [hi] at C
    have hk : (k != 0) = true := by have := readI_err _ k hi; rw [bne_iff_ne]; omega
    have HR := Lib.hid (show readD (l.drop a) = .error k by unfold readD; rw [hi])
    clear hi hat
    go_enter Try.func42, Try.ntmps42
    go_wp2_with fail
    refine C.out.mono ?_
    rintro e w2 ⟨rfl, hw⟩
    rw [hw]
    clear hw w2 C
    go_wp2_with fail
    go_ret3
    exact Or.inl ⟨k, HR.out, rfl, rfl⟩
  · rw [hi] at C
    have hlen := readI_len _ n r hi
    rw [List.length_drop] at hlen
    have hbk := readI_back _ n r hi
    have HDR := Lib.hid (drop_of_len ⟨_, hbk.2.2⟩)
    dsimp only at C
    obtain ⟨A, hA⟩ : ∃ A, A = l.length - r.length := ⟨_, rfl⟩
    have hAi : (l.length : Int) - (r.length : Nat) = (A : Nat) := by omega
    rw [hAi] at C
    have hn1 := hbk.1
    have hn2 := hbk.2.1
    clear hbk hAi
    by_cases h0 : n < 0
    · have HR := Lib.hid (show readD (l.drop a) = .error 5 by unfold readD; rw [hi]; dsimp only; rw [if_pos h0])
      clear hi hat
      go_enter Try.func42, Try.ntmps42
      go_wp2_with fail
      refine C.out.mono ?_
      rintro e w2 ⟨rfl, hw⟩
      rw [hw]
      clear hw w2 C
      go_wp2_with fail
      go_ret3
      exact Or.inl ⟨5, HR.out, rfl, rfl⟩
    · by_cases h1 : (r.length : Int) < n
      · have HR := Lib.hid (show readD (l.drop a) = .error 6 by unfold readD; rw [hi]; dsimp only; rw [if_neg h0, if_pos h1])
        have hx : (l.length : Int) - A < n := by omega
        clear hi hat
        go_enter Try.func42, Try.ntmps42
        go_wp2_with fail
        refine C.out.mono ?_
        rintro e w2 ⟨rfl, hw⟩
        rw [hw]
        clear hw w2 C
        go_wp2_with fail
        go_ret3
        exact Or.inl ⟨6, HR.out, rfl, rfl⟩
      · obtain ⟨m, rfl⟩ := Int.eq_ofNat_of_zero_le (show 0 ≤ n by omega)
        have HR := Lib.hid (show readD (l.drop a) = .ok (r.take m, r.drop m) by unfold readD; rw [hi]; dsimp only; rw [if_neg h0, if_neg h1, Int.toNat_natCast])
        have hx : ¬ (l.length : Int) - A < (m : Int) := by omega
        have hAm : A + m ≤ l.length := by omega
        obtain ⟨b, o, rfl, _⟩ := hat (fun e => by rw [e] at hlen; simp at hlen)
        have HLA := Lib.hid (show ((l.length - (r.drop m).length : Nat) : Int) = (A : Int) + m by rw [List.length_drop]; omega)
        have e1 : ((A : Int) + (m : Int)).toNat = A + m := by omega
        have hAc : A + m ≤ c := by omega
        have O1 := Lib.hid (OwnB.new w w.heap.size 0 [] w.heap.size rfl rfl (Nat.le_refl _) (by decide))
        have hml : m ≤ 200000 := by omega
        have HTL := Lib.hid (show (r.take m).length ≤ 2000000 by rw [List.length_take]; omega)
        have HA := Lib.hid hA
        by_cases hcc : c = A
        · have hm0 : m = 0 := by omega
          subst hm0
          subst hcc
          have RX := Lib.hid (fun W P => rd_empty W P 0 (Nat.zero_le _))
          rw [List.take_zero] at HR
          clear hi hat hlen h0 h1 hA HTL hn1 hn2
          go_enter Try.func42, Try.ntmps42
          go_wp2_with fail
          refine C.out.mono ?_
          rintro e w2 ⟨rfl, hw⟩
          rw [hw]
          clear hw w2 C
          go_wp2_with (at_builtin; refine wp_app rfl _ _ rfl w.heap.size _ _ [] [] rfl rfl O1.out (RX.out _ _) (by simp) (by simp) ?_; intro v1 w1 o1 g1 _; have b1 := (((Below.refl _ w).alloc (Nat.le_refl _) _)).trans (grown_below O1.out g1); rw [List.nil_append] at o1; have X1 := Lib.hid o1.fr; have B1 := Lib.hid b1; clear o1 g1 b1)
          go_ret3
          exact Or.inr ⟨_, _, _, HR.out, by rw [HLA.out]; simp, X1.out, B1.out⟩
        · have RX := Lib.hid (rd_take (rd_drop R0.out A (by omega) (some ⟨b, o + A, none⟩) (fun _ => rfl)) m (by rw [List.length_drop]; omega))
          rw [hA, ← HDR.out, ← hA] at RX
          clear hi hat hlen h0 h1 hA hn1 hn2
          go_enter Try.func42, Try.ntmps42
          go_wp2_with fail
          refine C.out.mono ?_
          rintro e w2 ⟨rfl, hw⟩
          rw [hw]
          clear hw w2 C
          go_wp2_with (at_builtin; refine wp_app rfl _ _ rfl w.heap.size _ _ [] (r.take m) rfl rfl O1.out (RX.out.more _) (by simp) HTL.out ?_; intro v1 w1 o1 g1 _; have b1 := (((Below.refl _ w).alloc (Nat.le_refl _) _)).trans (grown_below O1.out g1); rw [List.nil_append] at o1; have X1 := Lib.hid o1.fr; have B1 := Lib.hid b1; clear o1 g1 b1)
          go_ret3
          exact Or.inr ⟨_, _, _, HR.out, by rw [HLA.out]; rfl, X1.out, B1.out⟩
end Go.Proofs.Ytlnnkdnnhmeldaa
