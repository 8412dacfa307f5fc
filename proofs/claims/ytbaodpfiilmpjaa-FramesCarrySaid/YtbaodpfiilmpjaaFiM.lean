/-
  Put, PutList, Get.
-/
import Derived.Test.YtbaodpfiilmpjaaFiL
namespace Go.Proofs.Ytbaodpfiilmpjaa
open Go.RowKit
open IntWalk
set_option linter.unusedVariables false

/-- The error of fields behind one with the tag p. -/
def chkF (p : Int) : List Fd → Int
  | [] => 0
  | f :: r => if ¬ (1 ≤ f.1 ∧ f.1 ≤ 1000) then 2 else if f.1 ≤ p then 1 else chkF f.1 r
def putE (fs : List Fd) : Int := if 256 < fs.length then 3 else chkF 0 fs
def encF (fs : List Fd) : List UInt8 := fs.flatMap fun f => encI f.1 ++ encD f.2
def encL (ls : List (List UInt8)) : List UInt8 := encI ls.length ++ ls.flatMap encD
/-- How many bytes lie in all. -/
def total (ls : List (List UInt8)) : Nat := (ls.map List.length).sum
def prevT (fs : List Fd) : Nat → Int
  | 0 => 0
  | i + 1 => (fs.getD i (0, [])).1
theorem chkF_drop (fs : List Fd) (i : Nat) (h : i < fs.length) : chkF (prevT fs i) (fs.drop i) = if ¬ (1 ≤ (fs[i]).1 ∧ (fs[i]).1 ≤ 1000) then 2 else if (fs[i]).1 ≤ prevT fs i then 1 else chkF (prevT fs (i + 1)) (fs.drop (i + 1)) := by
  rw [List.drop_eq_getElem_cons h, chkF, show prevT fs (i + 1) = (fs[i]).1 by show (fs.getD i (0, [])).1 = _; rw [List.getD_eq_getElem?_getD, List.getElem?_eq_getElem h]; rfl]

theorem f_at {w : World} {b o : Nat} {ps : List (Int × Value)} (h : ∀ i (h : i < ps.length), w.cell? ⟨b, o + i * 2, none⟩ = some (.int .i64 (ps[i]'h).1) ∧ w.cell? ⟨b, o + i * 2 + 1, none⟩ = some (ps[i]'h).2) (i : Nat) (hi : i < ps.length) (x : Int) (u : Value) (e1 : (ps[i]).1 = x) (e2 : (ps[i]).2 = u) :
    w.cell? ⟨b, o + i * 2, none⟩ = some (.int .i64 x) ∧ w.cell? ⟨b, o + i * 2 + 1, none⟩ = some u := by
  have := h i hi
  rw [e1, e2] at this
  exact this

set_option maxHeartbeats 8000000 in
set_option maxRecDepth 10000 in
theorem check_run (v : Value) (fs : List Fd) (w : World) (h : RdF w v fs) (hl : fs.length ≤ 200000) :
    Calls Try.prog 11 #[v] w fun e w' => e = .returned (.int .i64 (putE fs)) ∧ Below w.heap.size w w' := by
  obtain ⟨p, c, ps, rfl, hc, hm, hlen, hps, hat⟩ := h
  by_cases hbig : 256 < fs.length
  · have HR := Lib.hid (show putE fs = 3 by unfold putE; rw [if_pos hbig])
    clear hat
    go_enter Try.func11, Try.ntmps11
    go_wp2
    go_ret
    exact ⟨by rw [HR.out]; rfl, Below.refl _ _⟩
  · have HR := Lib.hid (show putE fs = chkF 0 fs by unfold putE; rw [if_neg hbig])
    by_cases h0 : fs = []
    · subst h0
      clear hat hps
      go_enter Try.func11, Try.ntmps11
      go_wp2
      refine wp_loop_rounds 1 ?_
      rw [rounds_succ]
      go_wp2
      go_ret
      exact ⟨by rw [HR.out]; rfl, Below.refl _ _⟩
    · obtain ⟨b, o, rfl, hbl, hcl⟩ := hat h0
      have HCL := Lib.hid hcl
      have HBL := Lib.hid hbl
      have HPS := Lib.hid hps
      have HLEN := Lib.hid hlen
      have hn : fs.length ≤ 256 := by omega
      obtain ⟨E, hE⟩ : ∃ E, E = putE fs := ⟨_, rfl⟩
      have HE := Lib.hid (show E = chkF 0 fs by rw [hE, HR.out])
      rw [← hE]
      clear hat hcl h0 hps hbl hlen hE HR
      go_enter Try.func11, Try.ntmps11
      go_wp2
      go_loopw [10] (fun i wr => ∃ j : Nat, j ≤ fs.length ∧ i = .int .i64 j ∧ Hid (E = chkF (prevT fs j) (fs.drop j)) ∧ Below w.heap.size w wr) (fun i _ => fs.length - (intOf i).toNat)
      case atStart => exact ⟨0, Nat.zero_le _, rfl, HE, Below.refl _ _⟩
      case round =>
        obtain ⟨j, hj, rfl, HEE, bb⟩ := hrel
        clear HE
        by_cases hlt : j < fs.length
        · have hjp : j < ps.length := by have := HLEN.out; omega
          obtain ⟨x, hx⟩ : ∃ x, x = (fs[j]).1 := ⟨_, rfl⟩
          obtain ⟨u, hu⟩ : ∃ u, u = (ps[j]).2 := ⟨_, rfl⟩
          have hxp : (ps[j]).1 = x := by rw [hx]; exact (HPS.out j hjp hlt).1
          have cc := f_at HCL.out j hjp x u hxp hu.symm
          obtain ⟨pu, cu, hue, _, _, _⟩ := (HPS.out j hjp hlt).2
          rw [← hu] at hue
          have c1 := (bb.cell (p := ⟨b, o + j * 2, none⟩) HBL.out).trans cc.1
          have c2 := (bb.cell (p := ⟨b, o + j * 2 + 1, none⟩) HBL.out).trans cc.2
          obtain ⟨L, hL⟩ : ∃ L, L = (fs[j]).2.length := ⟨_, rfl⟩
          rw [← hL] at hue
          subst hue
          have HD := Lib.hid (chkF_drop fs j hlt)
          rw [← hx] at HD
          have BB := Lib.hid bb
          have V := Lib.hid (fun W => valid_run x W)
          clear cc hxp hL hu bb hx
          by_cases hv : 1 ≤ x ∧ x ≤ 1000
          · rw [decide_eq_true hv] at V
            by_cases hj0 : j = 0
            · subst hj0
              rw [Nat.zero_mul, Nat.add_zero] at c1 c2
              have HF := Lib.hid (show E = chkF (prevT fs (0 + 1)) (fs.drop (0 + 1)) by rw [HEE.out, HD.out, if_neg (by intro h; exact h hv), if_neg (by show ¬ x ≤ 0; omega)])
              clear hv
              go_wp2_with fail
              refine (V.out _).mono ?_
              rintro e w3 ⟨rfl, hw⟩
              rw [hw]
              clear hw w3 V
              go_upto_region 8 with fail
              go_quiet (fail)
              go_wp2
              refine ⟨⟨0 + 1, hlt, by go_num, HF, b_draws (BB.out.alloc BB.out.size _) _⟩, by simp [intOf]; omega⟩
            · obtain ⟨m, rfl⟩ : ∃ m, j = m + 1 := ⟨j - 1, by omega⟩
              have hmp : m < ps.length := by omega
              have hml : m < fs.length := by omega
              obtain ⟨y, hy⟩ : ∃ y, y = (fs[m]).1 := ⟨_, rfl⟩
              have hyp : (ps[m]).1 = y := by rw [hy]; exact (HPS.out m hmp hml).1
              have ym := (f_at HCL.out m hmp y _ hyp rfl).1
              have c3 := (BB.out.cell (p := ⟨b, o + m * 2, none⟩) HBL.out).trans ym
              have c4 : (wr.alloc (.cells #[.int .i64 x, .slice pu L cu] 29)).cell? ⟨b, o + m * 2, none⟩ = some (.int .i64 y) := (((Below.refl _ wr).alloc (Nat.le_refl _) _).cell (p := ⟨b, o + m * 2, none⟩) (Nat.lt_of_lt_of_le HBL.out BB.out.size)).trans c3
              have HY := Lib.hid (show prevT fs (m + 1) = y by rw [hy]; show (fs.getD m (0, [])).1 = _; rw [List.getD_eq_getElem?_getD, List.getElem?_eq_getElem hml]; rfl)
              have wm : IntKind.i64.wrap (m : Int) = (m : Int) := i64_in _ (by omega)
              clear hyp ym hy hj0
              by_cases hxy : x ≤ y
              · have HF := Lib.hid (show E = 1 by rw [HEE.out, HD.out, if_neg (by intro h; exact h hv), HY.out, if_pos hxy])
                clear hv
                go_wp2_with fail
                refine (V.out _).mono ?_
                rintro e w3 ⟨rfl, hw⟩
                rw [hw]
                clear hw w3 V
                go_upto_region 8 with fail
                go_quiet (fail)
                go_wp2
                go_ret
                exact ⟨by rw [HF.out]; rfl, b_draws (BB.out.alloc BB.out.size _) _⟩
              · have HF := Lib.hid (show E = chkF (prevT fs (m + 1 + 1)) (fs.drop (m + 1 + 1)) by rw [HEE.out, HD.out, if_neg (by intro h; exact h hv), HY.out, if_neg hxy])
                clear hv
                go_wp2_with fail
                refine (V.out _).mono ?_
                rintro e w3 ⟨rfl, hw⟩
                rw [hw]
                clear hw w3 V
                go_upto_region 8 with fail
                go_quiet (fail)
                go_wp2
                refine ⟨⟨m + 1 + 1, hlt, by go_num, HF, b_draws (BB.out.alloc BB.out.size _) _⟩, by simp [intOf]; omega⟩
          · rw [decide_eq_false hv] at V
            have HF := Lib.hid (show E = 2 by rw [HEE.out, HD.out, if_pos hv])
            clear hv
            go_wp2_with fail
            refine (V.out _).mono ?_
            rintro e w3 ⟨rfl, hw⟩
            rw [hw]
            clear hw w3 V
            go_wp2
            go_ret
            exact ⟨by rw [HF.out]; rfl, BB.out.alloc BB.out.size _⟩
        · obtain rfl : j = fs.length := by omega
          have HF := Lib.hid (show E = 0 by rw [HEE.out, List.drop_length]; rfl)
          have BB := Lib.hid bb
          clear bb
          go_wp2
          go_ret
          exact ⟨by rw [HF.out]; rfl, BB.out⟩
end Go.Proofs.Ytbaodpfiilmpjaa
