/-
  PutList, Get.
-/
import Derived.Test.YtbaodpfiilmpjaaFiO
namespace Go.Proofs.Ytbaodpfiilmpjaa
open Go.RowKit
open IntWalk
set_option linter.unusedVariables false

def putLK (ls : List (List UInt8)) : Int := if 256 < ls.length then 3 else 0
def putLB (ls : List (List UInt8)) : List UInt8 := if 256 < ls.length then [] else encL ls
def encM (ls : List (List UInt8)) : List UInt8 := ls.flatMap encD
theorem encM_snoc (ls : List (List UInt8)) (i : Nat) (h : i < ls.length) : encM (ls.take (i + 1)) = encM (ls.take i) ++ encD (ls[i]) := by
  unfold encM
  rw [List.take_succ_eq_append_getElem h, List.flatMap_append]
  simp
theorem encM_len (ls : List (List UInt8)) (ht : total ls ≤ 100000) : (encM ls).length ≤ total ls + 10 * ls.length := by
  induction ls with
  | nil => simp [encM, total]
  | cons d ls ih =>
    have e : encM (d :: ls) = encD d ++ encM ls := rfl
    rw [total_cons] at ht ⊢
    have h2 := encD_len d (by omega)
    have h3 := ih (by omega)
    rw [e, List.length_append, List.length_cons]
    omega
theorem encL_is (ls : List (List UInt8)) : encL ls = encI ls.length ++ encM ls := rfl

/-- The data of the first field with a tag. -/
def getR (fs : List Fd) (tag : Int) : Option (List UInt8) :=
  match fs with
  | [] => none
  | f :: r => if f.1 = tag then some f.2 else getR r tag
theorem getR_drop (fs : List Fd) (tag : Int) (i : Nat) (h : i < fs.length) : getR (fs.drop i) tag = if (fs[i]).1 = tag then some (fs[i]).2 else getR (fs.drop (i + 1)) tag := by
  rw [List.drop_eq_getElem_cons h, getR]
def GivesGet (w : World) (r : Option (List UInt8)) (e : Ending) (w' : World) : Prop := ∃ u, e = .returned (.tuple #[u, .bool r.isSome]) ∧ Fr w' w.heap.size u (r.getD []) ∧ Below w.heap.size w w'
set_option maxHeartbeats 8000000 in
set_option maxRecDepth 10000 in
theorem get_run (v : Value) (fs : List Fd) (tag : Int) (w : World) (h : RdF w v fs) (hl : fs.length ≤ 100000) (ht : total (dats fs) ≤ 100000) :
    Calls Try.prog 9 #[v, .int .i64 tag] w (GivesGet w (getR fs tag)) := by
  obtain ⟨p, c, ps, rfl, hc, hm, hlen, hps, hat⟩ := h
  obtain ⟨G, hG⟩ : ∃ G, G = getR fs tag := ⟨_, rfl⟩
  have HG := Lib.hid hG
  rw [← hG]
  clear hG
  by_cases h0 : fs = []
  · subst h0
    have HN := Lib.hid (show G = none from HG.out)
    clear hat hps
    go_enter Try.func9, Try.ntmps9
    go_wp2_with fail
    refine wp_loop_rounds 1 ?_
    rw [rounds_succ]
    go_wp2
    go_ret2
    rw [HN.out]
    exact ⟨_, rfl, fr_nil _ _, Below.refl _ _⟩
  · obtain ⟨b, o, rfl, hbl, hcl⟩ := hat h0
    have HCL := Lib.hid hcl
    have HBL := Lib.hid hbl
    have HPS := Lib.hid hps
    have HLEN := Lib.hid hlen
    have HT := Lib.hid ht
    clear hat hcl h0 hps hbl hlen ht
    go_enter Try.func9, Try.ntmps9
    go_wp2_with fail
    go_loopw [10] (fun i wr => ∃ j : Nat, j ≤ fs.length ∧ i = .int .i64 j ∧ Hid (G = getR (fs.drop j) tag) ∧ Hid (Below w.heap.size w wr)) (fun i _ => fs.length - (intOf i).toNat)
    case atStart => exact ⟨0, Nat.zero_le _, rfl, HG, Lib.hid (Below.refl _ _)⟩
    case round =>
      obtain ⟨j, hj, rfl, HGG, HW⟩ := hrel
      clear HG
      by_cases hlt : j < fs.length
      · have hjp : j < ps.length := by have := HLEN.out; omega
        obtain ⟨x, hx⟩ : ∃ x, x = (fs[j]).1 := ⟨_, rfl⟩
        obtain ⟨d, hd⟩ : ∃ d, d = (fs[j]).2 := ⟨_, rfl⟩
        obtain ⟨u, hu⟩ : ∃ u, u = (ps[j]).2 := ⟨_, rfl⟩
        have hxp : (ps[j]).1 = x := by rw [hx]; exact (HPS.out j hjp hlt).1
        have cc := f_at HCL.out j hjp x u hxp hu.symm
        have ru := (HPS.out j hjp hlt).2
        rw [← hu, ← hd] at ru
        have RU := Lib.hid ru
        obtain ⟨pu, cu, rfl, _, _, _⟩ := ru
        have c1 := (HW.out.cell (p := ⟨b, o + j * 2, none⟩) HBL.out).trans cc.1
        have c2 := (HW.out.cell (p := ⟨b, o + j * 2 + 1, none⟩) HBL.out).trans cc.2
        have HD := Lib.hid (getR_drop fs tag j hlt)
        rw [← hx, ← hd] at HD
        have hdl : d.length ≤ 100000 := by
          have := total_get (dats fs) j (by unfold dats; simpa using hlt)
          have e : (dats fs)[j]'(by unfold dats; simpa using hlt) = d := by rw [hd]; unfold dats; simp
          rw [e] at this
          exact Nat.le_trans this HT.out
        have CL := Lib.hid (fun (ob : Obj) => clone_run (.slice pu d.length cu) d (wr.alloc ob) ((RU.out.below HW.out).more ob) (by omega))
        clear cc hxp hx hd hu hdl
        by_cases hxt : x = tag
        · have HF := Lib.hid (show G = some d by rw [HGG.out, HD.out, if_pos hxt])
          have hz : (x == tag) = true := by simpa using hxt
          clear hxt
          go_wp2_with fail
          refine (CL.out _).mono ?_
          rintro e w3 ⟨v3, rfl, f3, b3⟩
          have F3 := Lib.hid (f3.down (base' := w.heap.size) (by simp; have := HW.out.size; omega))
          have B3 := Lib.hid ((HW.out.alloc HW.out.size (.cells #[.int .i64 x, .slice pu d.length cu] 29)).trans (b3.mono (by simp; have := HW.out.size; omega)))
          clear f3 b3
          go_wp2_with fail
          go_ret2
          rw [HF.out]
          exact ⟨_, rfl, F3.out, B3.out⟩
        · have HF := Lib.hid (show G = getR (fs.drop (j + 1)) tag by rw [HGG.out, HD.out, if_neg hxt])
          have hz : (x == tag) = false := by simpa using hxt
          clear hxt CL
          go_wp2_with fail
          refine ⟨⟨j + 1, hlt, by go_num, HF, Lib.hid (HW.out.alloc HW.out.size _)⟩, by simp [intOf]; omega⟩
      · obtain rfl : j = fs.length := by omega
        have HF := Lib.hid (show G = none by rw [HGG.out, List.drop_length]; rfl)
        go_wp2
        go_ret2
        rw [HF.out]
        exact ⟨_, rfl, fr_nil _ _, HW.out⟩
end Go.Proofs.Ytbaodpfiilmpjaa
