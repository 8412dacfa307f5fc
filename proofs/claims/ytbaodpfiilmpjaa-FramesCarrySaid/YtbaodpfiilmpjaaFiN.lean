/-
  Put, PutList, Get: what they return.
-/
import Derived.Test.YtbaodpfiilmpjaaFiM
namespace Go.Proofs.Ytbaodpfiilmpjaa
open Go.RowKit
open IntWalk
set_option linter.unusedVariables false

theorem total_cons (d : List UInt8) (ls : List (List UInt8)) : total (d :: ls) = d.length + total ls := by unfold total; simp
theorem total_take (ls : List (List UInt8)) : ∀ i, total (ls.take i) ≤ total ls := by
  induction ls with
  | nil => intro i; simp [total]
  | cons d ls ih =>
    intro i
    cases i with
    | zero => simp [total]
    | succ i => rw [List.take_succ_cons, total_cons, total_cons]; have := ih i; omega
theorem total_get (ls : List (List UInt8)) : ∀ i (h : i < ls.length), (ls[i]).length ≤ total ls := by
  induction ls with
  | nil => intro i h; exact absurd h (Nat.not_lt_zero _)
  | cons d ls ih =>
    intro i h
    rw [total_cons]
    cases i with
    | zero => simp
    | succ i => have := ih i (by simpa using h); simp only [List.getElem_cons_succ]; omega
/-- The data of fields. -/
def dats (fs : List Fd) : List (List UInt8) := fs.map (·.2)
def okI (n : Int) : Prop := -9223372036854775808 ≤ n ∧ n < 9223372036854775808
theorem encF_snoc (fs : List Fd) (i : Nat) (h : i < fs.length) : encF (fs.take (i + 1)) = encF (fs.take i) ++ encI (fs[i]).1 ++ encD (fs[i]).2 := by
  unfold encF
  rw [List.take_succ_eq_append_getElem h, List.flatMap_append]
  simp [List.append_assoc]
theorem encF_len (fs : List Fd) (hok : ∀ f ∈ fs, okI f.1) (ht : total (dats fs) ≤ 100000) : (encF fs).length ≤ total (dats fs) + 20 * fs.length := by
  induction fs with
  | nil => simp [encF, dats, total]
  | cons f fs ih =>
    have e : encF (f :: fs) = (encI f.1 ++ encD f.2) ++ encF fs := rfl
    have e2 : dats (f :: fs) = f.2 :: dats fs := rfl
    rw [e2, total_cons] at ht ⊢
    have h1 := encI_ten f.1 (hok f (by simp)).1 (hok f (by simp)).2
    have h2 := encD_len f.2 (by omega)
    have h3 := ih (fun x hx => hok x (by simp [hx])) (by omega)
    rw [e, List.length_append, List.length_append, List.length_cons]
    omega
theorem chk_ok (fs : List Fd) : ∀ p, chkF p fs = 0 → ∀ f ∈ fs, 1 ≤ f.1 ∧ f.1 ≤ 1000 := by
  induction fs with
  | nil => intro p _ f hf; cases hf
  | cons a fs ih =>
    intro p h f hf
    rw [chkF] at h
    split at h
    · omega
    · rename_i hv
      split at h
      · omega
      · rcases List.mem_cons.1 hf with rfl | hf
        · exact Decidable.not_not.1 hv
        · exact ih _ h f hf
theorem put_tags {fs : List Fd} (h : putE fs = 0) : fs.length ≤ 256 ∧ ∀ f ∈ fs, 1 ≤ f.1 ∧ f.1 ≤ 1000 := by
  unfold putE at h
  split at h
  · omega
  · exact ⟨by omega, chk_ok fs 0 h⟩
def putB (fs : List Fd) : List UInt8 := if putE fs = 0 then encF fs else []
/-- A slice of bytes and an error. -/
def GivesB (w : World) (k : Int) (l : List UInt8) (e : Ending) (w' : World) : Prop := ∃ u, e = .returned (.tuple #[u, .int .i64 k]) ∧ Fr w' w.heap.size u l ∧ Below w.heap.size w w'

set_option maxHeartbeats 8000000 in
set_option maxRecDepth 10000 in
theorem put_run (v : Value) (fs : List Fd) (w : World) (h : RdF w v fs) (hl : fs.length ≤ 100000) (ht : total (dats fs) ≤ 100000) :
    Calls Try.prog 4 #[v] w (GivesB w (putE fs) (putB fs)) := by
  have CK := Lib.hid (check_run v fs w h (by omega))
  by_cases hE : putE fs = 0
  · have hb : putB fs = encF fs := by unfold putB; rw [if_pos hE]
    have ok := put_tags hE
    rw [hE] at CK ⊢
    rw [hb]
    have h' := h
    obtain ⟨p, c, ps, rfl, hc, hm, hlen, hps, hat⟩ := h
    clear hb
    by_cases h0 : fs = []
    · subst h0
      clear hat hps ok
      go_enter Try.func4, Try.ntmps4
      go_wp2_with fail
      refine CK.out.mono ?_
      rintro e w1 ⟨rfl, b1⟩
      go_wp2_with fail
      refine wp_loop_rounds 1 ?_
      rw [rounds_succ]
      go_wp2
      go_ret2
      exact ⟨_, rfl, fr_nil _ _, b1⟩
    · obtain ⟨b, o, rfl, hbl, hcl⟩ := hat h0
      have HCL := Lib.hid hcl
      have HBL := Lib.hid hbl
      have HPS := Lib.hid hps
      have HLEN := Lib.hid hlen
      have HOK := Lib.hid ok
      have HT := Lib.hid ht
      have hn := ok.1
      clear hat hcl h0 hps hbl hlen ok ht h' hE
      go_enter Try.func4, Try.ntmps4
      go_wp2_with fail
      refine CK.out.mono ?_
      rintro e w1 ⟨rfl, b1⟩
      have B1 := Lib.hid b1
      clear b1 CK
      go_wp2_with fail
      go_loopw [5, 15] (fun bv i wr => ∃ j : Nat, j ≤ fs.length ∧ i = .int .i64 j ∧ Hid (OwnB wr w.heap.size bv (encF (fs.take j))) ∧ Hid (Below w.heap.size w wr)) (fun _ i _ => fs.length - (intOf i).toNat)
      case atStart => exact ⟨0, Nat.zero_le _, rfl, Lib.hid (OwnB.none_ w1 _ B1.out.size), B1⟩
      case round =>
        obtain ⟨j, hj, rfl, HO, HW⟩ := hrel
        clear B1
        by_cases hlt : j < fs.length
        · have hjp : j < ps.length := by have := HLEN.out; omega
          obtain ⟨x, hx⟩ : ∃ x, x = (fs[j]).1 := ⟨_, rfl⟩
          obtain ⟨d, hd⟩ : ∃ d, d = (fs[j]).2 := ⟨_, rfl⟩
          obtain ⟨u, hu⟩ : ∃ u, u = (ps[j]).2 := ⟨_, rfl⟩
          have hxp : (ps[j]).1 = x := by rw [hx]; exact (HPS.out j hjp hlt).1
          have cc := f_at HCL.out j hjp x u hxp hu.symm
          have ru := (HPS.out j hjp hlt).2
          rw [← hu, ← hd] at ru
          have RU := Lib.hid ru
          obtain ⟨pu, cu, rfl, _, _, _⟩ := ru
          have c1 := (HW.out.cell (p := ⟨b, o + j * 2, none⟩) HBL.out).trans cc.1
          have c2 := (HW.out.cell (p := ⟨b, o + j * 2 + 1, none⟩) HBL.out).trans cc.2
          have HS := Lib.hid (encF_snoc fs j hlt)
          rw [← hx, ← hd] at HS
          have hxb : 1 ≤ x ∧ x ≤ 1000 := by rw [hx]; exact HOK.out.2 _ (List.getElem_mem hlt)
          have hdl : d.length ≤ 100000 := by
            have := total_get (dats fs) j (by unfold dats; simpa using hlt)
            have e : (dats fs)[j]'(by unfold dats; simpa using hlt) = d := by rw [hd]; unfold dats; simp
            rw [e] at this
            exact Nat.le_trans this HT.out
          have hxl : (encF (fs.take j)).length ≤ 110000 := by
            have h1 := encF_len (fs.take j) (fun f hf => by have := HOK.out.2 f (List.mem_of_mem_take hf); unfold okI; omega) (by
              have := total_take (dats fs) j
              unfold dats at this ⊢
              rw [List.map_take]
              exact Nat.le_trans this HT.out)
            have h2 := total_take (dats fs) j
            unfold dats at h2 h1
            rw [List.map_take] at h1
            have h3 := HT.out
            unfold dats at h3
            rw [List.length_take] at h1
            omega
          have C1 := Lib.hid (fun (ob : Obj) => appendInt_run w.heap.size _ _ x (wr.alloc ob) (HO.out.more ob) (by omega) (by omega) (by omega))
          have HXL := Lib.hid hxl
          have HDL := Lib.hid hdl
          have HXE := Lib.hid (encI_ten x (by omega) (by omega))
          have HBK := Lib.hid (rd_block RU.out)
          clear cc hxp hx hd hu hxb hdl hxl
          go_wp2_with fail
          refine (C1.out _).mono ?_
          rintro e w3 ⟨v3, rfl, o3, b3, k3⟩
          have O3 := Lib.hid o3
          have W3 := Lib.hid ((HW.out.alloc HW.out.size (.cells #[.int .i64 x, .slice pu d.length cu] 29)).trans b3)
          have c5 : w3.cell? ⟨wr.heap.size, 1, none⟩ = some (.slice pu d.length cu) := by
            have e : w3.heap[wr.heap.size]? = _ := (k3 wr.heap.size (by simp) (own_block_new HO.out (Nat.le_refl _))).trans (heap_alloc_new wr (.cells #[.int .i64 x, .slice pu d.length cu] 29))
            simp [World.cell?, e]
          clear o3 b3 C1 c1 c2 k3
          have C2 := Lib.hid (appendData_run w.heap.size v3 (.slice pu d.length cu) _ d w3 O3.out (RU.out.below W3.out) HBK.out (by have := HXL.out; have := HXE.out; rw [List.length_append]; omega) HDL.out)
          go_wp2_with fail
          refine C2.out.mono ?_
          rintro e w4 ⟨v4, rfl, o4, b4⟩
          rw [← HS.out] at o4
          have O4 := Lib.hid o4
          have W4 := Lib.hid (W3.out.trans b4)
          clear o4 b4 C2 c5
          go_wp2_with fail
          refine ⟨⟨j + 1, hlt, by go_num, O4, W4⟩, by simp [intOf]; omega⟩
        · obtain rfl : j = fs.length := by omega
          have O := HO.out
          rw [List.take_length] at O
          have F := Lib.hid O.fr
          clear O
          go_wp2
          go_ret2
          exact ⟨_, rfl, F.out, HW.out⟩
  · have hb : putB fs = [] := by unfold putB; rw [if_neg hE]
    rw [hb]
    obtain ⟨E, hEE⟩ : ∃ E, E = putE fs := ⟨_, rfl⟩
    rw [← hEE] at CK hE ⊢
    have hne : (E != 0) = true := by simpa using hE
    clear hb hEE h
    go_enter Try.func4, Try.ntmps4
    go_wp2_with fail
    refine CK.out.mono ?_
    rintro e w1 ⟨rfl, b1⟩
    go_wp2_with fail
    go_ret2
    exact ⟨_, rfl, fr_nil _ _, b1⟩
end Go.Proofs.Ytbaodpfiilmpjaa
