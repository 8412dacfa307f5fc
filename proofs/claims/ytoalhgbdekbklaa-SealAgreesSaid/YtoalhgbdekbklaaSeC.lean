/-
  The program's hash: words, the state's methods.
-/
import Derived.Test.YtoalhgbdekbklaaSeB
import Derived.Test.YtoalhgbdekbklaaByA
namespace Go.Proofs.Ytoalhgbdekbklaa
open Go.RowKit
open IntWalk
set_option linter.unusedVariables false

def addW (s : St) (m : Int) : St :=
  ⟨xorI (rndN ⟨s.a, s.b, s.c, xorI s.d m⟩ 2).a m, (rndN ⟨s.a, s.b, s.c, xorI s.d m⟩ 2).b, (rndN ⟨s.a, s.b, s.c, xorI s.d m⟩ 2).c, (rndN ⟨s.a, s.b, s.c, xorI s.d m⟩ 2).d⟩
def finW (s : St) : Int :=
  xorI (xorI (xorI (rndN ⟨s.a, s.b, xorI s.c 255, s.d⟩ 4).a (rndN ⟨s.a, s.b, xorI s.c 255, s.d⟩ 4).b) (rndN ⟨s.a, s.b, xorI s.c 255, s.d⟩ 4).c) (rndN ⟨s.a, s.b, xorI s.c 255, s.d⟩ 4).d
def begS (k l : Int) : St := ⟨xorI k 8317987319222330741, xorI l 7237128888997146477, xorI k 7816392313619706465, xorI l 8387220255154660723⟩
def shB (c : UInt8) (i : Nat) : Int := IntKind.u64.wrap ((c.toNat : Int) * 2 ^ (8 * i))
def orI (x y : Int) : Int := bits .or .u64 x y
/-- The word of the first k bytes. -/
def wdK (l : List UInt8) : Nat → Int
  | 0 => 0
  | k + 1 => orI (wdK l k) (shB (l.getD k 0) k)

theorem CeS.low {w : World} {g : Nat} {s : St} (h : CeS w g s) : g < w.heap.size := h.1
theorem CeS.below {w w' : World} {B g : Nat} {s : St} (h : CeS w g s) (hb : Below B w w') (hB : g < B) : CeS w' g s := by
  obtain ⟨hg, ha, hb', hc, hd, hz⟩ := h
  refine ⟨Nat.lt_of_lt_of_le hg hb.size, ?_, ?_, ?_, ?_, fun i => ?_⟩
  · exact (hb.cell (p := ⟨g, 0, none⟩) hB).trans ha
  · exact (hb.cell (p := ⟨g, 1, none⟩) hB).trans hb'
  · exact (hb.cell (p := ⟨g, 2, none⟩) hB).trans hc
  · exact (hb.cell (p := ⟨g, 3, none⟩) hB).trans hd
  · exact (hb.frozen (p := ⟨g, i, none⟩) hB).trans (hz i)

set_option maxHeartbeats 2000000 in
set_option maxRecDepth 10000 in
theorem mix_run (g n : Nat) (s : St) (w : World) (hn : n ≤ 4) (h : CeS w g s) :
    Calls Try.prog 22 #[.pointer (some ⟨g, 0, none⟩), .int .i64 n] w fun e w' => e = .returned (.tuple #[]) ∧ CeS w' g (rndN s n) ∧ Below g w w' := by
  have C0 := Lib.hid h
  clear h
  go_enter Try.func22, Try.ntmps22
  go_wp2
  go_loopw [5] (fun i wr => ∃ k : Nat, k ≤ n ∧ i = .int .i64 k ∧ CeS wr g (rndN s k) ∧ Below g w wr) (fun i _ => n - (intOf i).toNat)
  case atStart => exact ⟨0, Nat.zero_le _, rfl, C0.out, Below.refl _ _⟩
  case round =>
    obtain ⟨k, hk, rfl, cc, bb⟩ := hrel
    by_cases hlt : k < n
    · have R := Lib.hid (round_run g _ _ _ _ wr cc)
      have BB := Lib.hid bb
      have HL := Lib.hid hlt
      clear cc bb C0
      go_wp2_with fail
      refine R.out.mono ?_
      rintro e w1 ⟨rfl, c1, b1⟩
      have C1 := Lib.hid c1
      have B1 := Lib.hid b1
      clear c1 b1 R
      go_wp2_with fail
      refine ⟨⟨k + 1, HL.out, by go_num, C1.out, BB.out.trans B1.out⟩, by have := HL.out; simp [intOf]; omega⟩
    · obtain rfl : k = n := by omega
      have C1 := Lib.hid cc
      have B1 := Lib.hid bb
      clear cc bb C0
      go_wp2
      go_end0
      exact ⟨rfl, C1.out, B1.out⟩

set_option maxHeartbeats 2000000 in
set_option maxRecDepth 10000 in
theorem add_run (g : Nat) (s : St) (m : Int) (w : World) (h : CeS w g s) :
    Calls Try.prog 17 #[.pointer (some ⟨g, 0, none⟩), .int .u64 m] w fun e w' => e = .returned (.tuple #[]) ∧ CeS w' g (addW s m) ∧ Below g w w' := by
  obtain ⟨a, b, c, d⟩ := s
  have C1 := Lib.hid (Ce.put3 h (xorI d m))
  have B1 := Lib.hid ((Below.refl g w).setCell (p := ⟨g, 3, none⟩) (Nat.le_refl _) (Value.int IntKind.u64 (xorI d m)))
  obtain ⟨hg, ha, hb, hc, hd, hz⟩ := h
  have z3 := hz 3
  clear hz
  dsimp only at ha hb hc hd
  go_enter Try.func17, Try.ntmps17
  go_upto_region 1 with fail
  rw [xor_is]
  revert C1 B1
  generalize w.setCell { block := g, off := 3 } (Value.int IntKind.u64 (xorI d m)) = w1
  intro C1 B1
  clear hg ha hb hc hd z3
  have M := Lib.hid (mix_run g 2 ⟨a, b, c, xorI d m⟩ w1 (by omega) C1.out)
  obtain ⟨⟨ta, tb, tc, td⟩, ht⟩ : ∃ t, t = rndN ⟨a, b, c, xorI d m⟩ 2 := ⟨_, rfl⟩
  rw [← ht] at M
  have HT := Lib.hid ht
  clear ht
  go_wp2_with fail
  refine M.out.mono ?_
  rintro e w2 ⟨rfl, c2, b2⟩
  have C3 := Lib.hid (Ce.put0 c2 (xorI ta m))
  have B3 := Lib.hid ((B1.out.trans b2).setCell (p := ⟨g, 0, none⟩) (Nat.le_refl _) (Value.int IntKind.u64 (xorI ta m)))
  obtain ⟨hg, ha, hb, hc, hd, hz⟩ := c2
  dsimp only at ha
  have z0 := hz 0
  clear hz b2 hb hc hd M
  go_wp2
  go_end0
  rw [xor_is]
  have e : addW ⟨a, b, c, d⟩ m = ⟨xorI ta m, tb, tc, td⟩ := by
    unfold addW
    dsimp only
    rw [← HT.out]
  rw [e]
  exact ⟨rfl, C3.out, B3.out⟩

set_option maxHeartbeats 2000000 in
set_option maxRecDepth 10000 in
theorem finish_run (g : Nat) (s : St) (w : World) (h : CeS w g s) :
    Calls Try.prog 19 #[.pointer (some ⟨g, 0, none⟩)] w fun e w' => e = .returned (.int .u64 (finW s)) ∧ Below g w w' := by
  obtain ⟨a, b, c, d⟩ := s
  have C1 := Lib.hid (Ce.put2 h (xorI c 255))
  have B1 := Lib.hid ((Below.refl g w).setCell (p := ⟨g, 2, none⟩) (Nat.le_refl _) (Value.int IntKind.u64 (xorI c 255)))
  obtain ⟨hg, ha, hb, hc, hd, hz⟩ := h
  have z2 := hz 2
  clear hz
  dsimp only at ha hb hc hd
  go_enter Try.func19, Try.ntmps19
  go_upto_region 2 with fail
  rw [xor_is]
  revert C1 B1
  generalize w.setCell { block := g, off := 2 } (Value.int IntKind.u64 (xorI c 255)) = w1
  intro C1 B1
  clear hg ha hb hc hd z2
  have M := Lib.hid (mix_run g 4 ⟨a, b, xorI c 255, d⟩ w1 (by omega) C1.out)
  go_upto_region 3 with fail
  refine M.out.mono ?_
  rintro e w2 ⟨rfl, c2, b2⟩
  have B3 := Lib.hid (B1.out.trans b2)
  obtain ⟨hg, ha, hb, hc, hd, hz⟩ := c2
  clear hz b2 M
  go_upto_region 3 with fail
  go_quiet (fail)
  go_wp2
  go_ret
  exact ⟨rfl, b_draws B3.out _⟩

theorem begin_run (k : Int) (w : World) :
    Calls Try.prog 16 #[.int .u64 k] w fun e w' => e = .returned (stV (begS k (xorI k 6616326155283851669))) ∧ Below w.heap.size w w' := by
  unfold stV begS
  go_enter Try.func16, Try.ntmps16
  go_wp2
  refine bodyPost_ret (v := .agg #[.int .u64 (xorI k 8317987319222330741), .int .u64 (xorI (xorI k 6616326155283851669) 7237128888997146477), .int .u64 (xorI k 7816392313619706465), .int .u64 (xorI (xorI k 6616326155283851669) 8387220255154660723)]) (by simp [results, Try.results16, go_sem, xorI]) rfl ⟨rfl, (Below.refl w.heap.size w).alloc (Nat.le_refl _) _⟩
end Go.Proofs.Ytoalhgbdekbklaa
