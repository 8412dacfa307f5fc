/-
  The reader of records.
-/
import Derived.Test.YtbaodpfiilmpjaaFiH
namespace Go.Proofs.Ytbaodpfiilmpjaa
open Go.RowKit
open IntWalk
set_option linter.unusedVariables false

theorem readD_len (l d r : List UInt8) (h : readD l = .ok (d, r)) : r.length < l.length := by
  unfold readD at h
  rcases hi : readI l with k | ⟨n, s⟩
  · rw [hi] at h; cases h
  · rw [hi] at h
    dsimp only at h
    have := readI_len l n s hi
    split at h
    · cases h
    · split at h
      · cases h
      · injection h with h
        injection h with _ h
        rw [← h, List.length_drop]
        omega
/-- The fields of a record, behind those of acc, the last tag of which is bf. -/
def takR (acc : List Fd) (bf : Int) (l : List UInt8) : Except Int (List Fd) :=
  if l = [] then .ok acc
  else if acc.length = 256 then .error 3
  else match hi : readI l with
    | .error k => .error k
    | .ok (tag, r) =>
      if ¬ (1 ≤ tag ∧ tag ≤ 1000) ∨ tag ≤ bf then .error 5
      else match hd : readD r with
        | .error k => .error k
        | .ok (d, r2) => takR (acc ++ [(tag, d)]) tag r2
termination_by l.length
decreasing_by
  have := readI_len l tag r hi
  have := readD_len r d r2 hd
  omega
theorem takR_nil (acc : List Fd) (bf : Int) : takR acc bf [] = .ok acc := by rw [takR, if_pos rfl]
theorem takR_full (acc : List Fd) (bf : Int) (l : List UInt8) (h : l ≠ []) (ha : acc.length = 256) : takR acc bf l = .error 3 := by rw [takR, if_neg h, if_pos ha]
theorem takR_int (acc : List Fd) (bf : Int) (l : List UInt8) (k : Int) (h : l ≠ []) (ha : acc.length ≠ 256) (hi : readI l = .error k) : takR acc bf l = .error k := by
  rw [takR, if_neg h, if_neg ha]
  split
  · rename_i k2 h2; rw [hi] at h2; injection h2 with h2; rw [h2]
  · rename_i h2; rw [hi] at h2; cases h2
theorem takR_tag (acc : List Fd) (bf : Int) (l : List UInt8) (tag : Int) (r : List UInt8) (h : l ≠ []) (ha : acc.length ≠ 256) (hi : readI l = .ok (tag, r)) (ht : ¬ (1 ≤ tag ∧ tag ≤ 1000) ∨ tag ≤ bf) : takR acc bf l = .error 5 := by
  rw [takR, if_neg h, if_neg ha]
  split
  · rename_i k2 h2; rw [hi] at h2; cases h2
  · rename_i t2 r2 h2; rw [hi] at h2; injection h2 with h2; injection h2 with h3 h4; subst h3 h4; rw [if_pos ht]
theorem takR_data (acc : List Fd) (bf : Int) (l : List UInt8) (tag : Int) (r : List UInt8) (k : Int) (h : l ≠ []) (ha : acc.length ≠ 256) (hi : readI l = .ok (tag, r)) (ht : ¬ (¬ (1 ≤ tag ∧ tag ≤ 1000) ∨ tag ≤ bf)) (hd : readD r = .error k) : takR acc bf l = .error k := by
  rw [takR, if_neg h, if_neg ha]
  split
  · rename_i k2 h2; rw [hi] at h2; cases h2
  · rename_i t2 r2 h2; rw [hi] at h2; injection h2 with h2; injection h2 with h3 h4; subst h3 h4
    rw [if_neg ht]
    split
    · rename_i k2 h2; rw [hd] at h2; injection h2 with h2; rw [h2]
    · rename_i h2; rw [hd] at h2; cases h2
theorem takR_step (acc : List Fd) (bf : Int) (l : List UInt8) (tag : Int) (r d r2 : List UInt8) (h : l ≠ []) (ha : acc.length ≠ 256) (hi : readI l = .ok (tag, r)) (ht : ¬ (¬ (1 ≤ tag ∧ tag ≤ 1000) ∨ tag ≤ bf)) (hd : readD r = .ok (d, r2)) : takR acc bf l = takR (acc ++ [(tag, d)]) tag r2 := by
  rw [takR, if_neg h, if_neg ha]
  split
  · rename_i k2 h2; rw [hi] at h2; cases h2
  · rename_i t2 s2 h2; rw [hi] at h2; injection h2 with h2; injection h2 with h3 h4; subst h3 h4
    rw [if_neg ht]
    split
    · rename_i h2; rw [hd] at h2; cases h2
    · rename_i d3 s3 h2; rw [hd] at h2; injection h2 with h2; injection h2 with h3 h4; subst h3 h4; rfl

theorem Only.then_below {g : Nat} {w w1 w2 : World} (h : Only g w w1) (b : Below w.heap.size w1 w2) : Only g w w2 :=
  ⟨b.os.trans h.os, b.tape.trans h.tape, b.output.trans h.output, Nat.le_trans h.size b.size, fun k hk hn => (b.block k hk).trans (h.block k hk hn)⟩
/-- How the reader of a record ends. -/
def RecG (g : Nat) (w : World) (r : Except Int (List Fd)) (e : Ending) (w' : World) : Prop :=
  (∃ k, r = .error k ∧ e = .panicked [{ v := errV k, recovered := false }] ∧ Only g w w') ∨ (∃ fs u, r = .ok fs ∧ e = .returned u ∧ OwnF w' w.heap.size u fs ∧ Only g w w')
/-- The length of the slice that a cell holds. -/
def lenC (w : World) (g : Nat) : Nat := match w.cell? ⟨g, 0, none⟩ with | some (.slice _ n _) => n | _ => 0
theorem lenC_is {w : World} {g : Nat} {v : Value} {l : List UInt8} (h : w.cell? ⟨g, 0, none⟩ = some v) (hr : RdB w v l) : lenC w g = l.length := by
  obtain ⟨p, c, rfl, _, _, _⟩ := hr
  unfold lenC
  rw [h]
theorem valid_run (t : Int) (w : World) : Calls Try.prog 26 #[.int .i64 t] w fun e w' => e = .returned (.bool (decide (1 ≤ t ∧ t ≤ 1000))) ∧ w' = w := by
  by_cases h1 : 1 ≤ t
  · by_cases h2 : t ≤ 1000
    · rw [decide_eq_true ⟨h1, h2⟩]
      go_enter Try.func26, Try.ntmps26
      go_wp2
      go_ret
      exact ⟨rfl, rfl⟩
    · rw [decide_eq_false (fun h => h2 h.2)]
      go_enter Try.func26, Try.ntmps26
      go_wp2
      go_ret
      exact ⟨rfl, rfl⟩
  · rw [decide_eq_false (fun h => h1 h.1)]
    go_enter Try.func26, Try.ntmps26
    go_wp2
    go_ret
    exact ⟨rfl, rfl⟩
set_option maxHeartbeats 8000000 in
set_option maxRecDepth 10000 in
theorem record_run (g B : Nat) (v : Value) (l : List UInt8) (w : World) (hg : g < w.heap.size) (hc : w.cell? ⟨g, 0, none⟩ = some v) (hz : w.frozen? ⟨g, 0, none⟩ = false) (h : RdB w v l) (hb : blk v B) (hl : l.length ≤ 200000) (hB : B ≤ g) :
    Calls Try.prog 22 #[.pointer (some ⟨g, 0, none⟩)] w (RecG g w (takR [] 0 l)) := by
  have HG := Lib.hid hg
  have HB := Lib.hid hB
  have HL := Lib.hid hl
  have S0 := Lib.hid (And.intro hc (And.intro hz (And.intro h hb)))
  obtain ⟨T, hT⟩ : ∃ T, T = takR [] 0 l := ⟨_, rfl⟩
  have HT := Lib.hid hT
  rw [← hT]
  clear hg hc hz h hb hl hB hT
  go_enter Try.func22, Try.ntmps22
  go_wp2_with fail
  go_loopw [3, 4] (fun lv bv wr => ∃ (fs : List Fd) (bf : Int) (t : List UInt8) (vr : Value), bv = .int .i64 bf ∧ Hid (0 ≤ bf ∧ bf ≤ 1000) ∧ Hid (OwnF wr w.heap.size lv fs) ∧ Hid (fs.length ≤ 256) ∧
      Hid (wr.cell? ⟨g, 0, none⟩ = some vr ∧ wr.frozen? ⟨g, 0, none⟩ = false ∧ RdB wr vr t ∧ blk vr B) ∧ Hid (Only g w wr) ∧ Hid (T = takR fs bf t) ∧ Hid (t.length ≤ l.length)) (fun _ _ wr => lenC wr g)
  case atStart => exact ⟨[], 0, l, v, rfl, Lib.hid (by omega), Lib.hid (OwnF.none_ w _ (Nat.le_refl _)), Lib.hid (by simp), S0, Lib.hid (Only.refl _ _), HT, Lib.hid (Nat.le_refl _)⟩
  case round =>
    obtain ⟨fs, bf, t, vr, rfl, Hbf, HO, HF, HS, HN, HTT, HTL⟩ := hrel
    clear S0 HT
    obtain ⟨hc, hz, hr, hb⟩ := HS.out
    by_cases ht : t = []
    · subst ht
      obtain ⟨p2, c2, rfl, _, _, _⟩ := hr
      have HR := Lib.hid (takR_nil fs bf)
      have F := HO
      go_wp2
      go_ret
      exact Or.inr ⟨fs, _, by rw [HTT.out, HR.out], rfl, F.out, HN.out⟩
    · have HNE := Lib.hid ht
      have hpos : 0 < t.length := List.length_pos_iff.2 ht
      have htl : t.length ≤ 200000 := Nat.le_trans HTL.out HL.out
      obtain ⟨p3, c3, ps, rfl, _, _, _, _, _⟩ := HO.out.rd
      have hr0 := hr
      obtain ⟨p2, c2, rfl, _, _, _⟩ := hr
      by_cases hf : fs.length = 256
      · have HR := Lib.hid (takR_full fs bf t ht hf)
        have hfi : ((fs.length : Nat) : Int) = 256 := by omega
        clear ht hr0
        go_wp2
        exact ⟨rfl, Or.inl ⟨3, by rw [HTT.out, HR.out], rfl, HN.out⟩⟩
      · have hfi : (((fs.length : Nat) : Int) == 256) = false := by rw [beq_eq_false_iff_ne]; omega
        have hfl : fs.length < 256 := by have := HF.out; omega
        rcases hi : readI t with k | ⟨tag, r⟩
        · have HR := Lib.hid (takR_int fs bf t k ht hf hi)
          have C := Lib.hid (int_err g _ t k wr hi hc hr0 htl)
          clear ht hr0 hf hi
          go_wp2_with fail
          refine C.out.mono ?_
          rintro e w2 ⟨rfl, hw⟩
          rw [hw]
          exact ⟨rfl, Or.inl ⟨k, by rw [HTT.out, HR.out], rfl, HN.out⟩⟩
        · have C := Lib.hid (int_ok g B _ t r tag wr hi hc hz hr0 hb htl)
          have HRL := Lib.hid (readI_len t tag r hi)
          have HI := Lib.hid hi
          have HF2 := Lib.hid hf
          have HC := Lib.hid hc
          have HZ := Lib.hid hz
          have HLN := Lib.hid (lenC_is hc hr0)
          clear ht hr0 hf hi hb
          go_wp2_with fail
          refine C.out.mono ?_
          rintro e w2 ⟨rfl, v2, hw, r2, k2⟩
          rw [hw]
          have hgw : g < wr.heap.size := Nat.lt_of_lt_of_le HG.out HN.out.size
          have S1 := Lib.hid (Only.set g 0 v2 wr)
          have S2 := Lib.hid (And.intro (cell_set wr g v2 _ HC.out) (And.intro (show (wr.setCell ⟨g, 0, none⟩ v2).frozen? ⟨g, 0, none⟩ = false by rw [World.frozen?_setCell]; exact HZ.out) (And.intro (r2.below2 k2 ((S1.out.below hgw).mono HB.out)) k2)))
          have HGW := Lib.hid (show g < (wr.setCell ⟨g, 0, none⟩ v2).heap.size by rw [set_size]; exact hgw)
          clear hw w2 C r2 k2 hgw hc hz
          revert S1 S2 HGW
          generalize wr.setCell { block := g, off := 0 } v2 = w2
          intro S1 S2 HGW
          have V := Lib.hid (valid_run tag w2)
          by_cases hv : 1 ≤ tag ∧ tag ≤ 1000
          · rw [decide_eq_true hv] at V
            by_cases htb : tag ≤ bf
            · have HR := Lib.hid (takR_tag fs bf t tag r HNE.out HF2.out HI.out (Or.inr htb))
              go_wp2_with fail
              refine V.out.mono ?_
              rintro e w3 ⟨rfl, hw⟩
              rw [hw]
              clear hw w3 V
              go_wp2
              exact ⟨rfl, Or.inl ⟨5, by rw [HTT.out, HR.out], rfl, HN.out.trans S1.out⟩⟩
            · have htb2 : ¬ (¬ (1 ≤ tag ∧ tag ≤ 1000) ∨ tag ≤ bf) := fun h => by rcases h with h | h; exact h hv; exact htb h
              rcases hd : readD r with k | ⟨d, r3⟩
              · have HR := Lib.hid (takR_data fs bf t tag r k HNE.out HF2.out HI.out htb2 hd)
                have D := Lib.hid (data_err g B v2 r k w2 hd S2.out.1 S2.out.2.1 S2.out.2.2.1 S2.out.2.2.2 (by have := HRL.out; omega) HB.out)
                clear htb2 hd
                go_wp2_with fail
                refine V.out.mono ?_
                rintro e w3 ⟨rfl, hw⟩
                rw [hw]
                clear hw w3 V
                go_wp2_with fail
                refine D.out.mono ?_
                rintro e w3 ⟨rfl, o3⟩
                exact ⟨rfl, Or.inl ⟨k, by rw [HTT.out, HR.out], rfl, (HN.out.trans S1.out).trans o3⟩⟩
              · have HR := Lib.hid (takR_step fs bf t tag r d r3 HNE.out HF2.out HI.out htb2 hd)
                have D := Lib.hid (data_ok g B v2 r d r3 w2 hd HGW.out S2.out.1 S2.out.2.1 S2.out.2.2.1 S2.out.2.2.2 (by have := HRL.out; omega) HB.out)
                have HDL := Lib.hid (readD_len r d r3 hd)
                have HV := Lib.hid hv
                clear htb2 hd
                go_wp2_with fail
                refine V.out.mono ?_
                rintro e w3 ⟨rfl, hw⟩
                rw [hw]
                clear hw w3 V
                go_wp2_with fail
                refine D.out.mono ?_
                rintro e w3 ⟨u, rfl, f3, o3, z3, v3, c3', r3', k3'⟩
                have O3 := Lib.hid ((HO.out.only S1.out HG.out).only o3 HG.out)
                have F3 := Lib.hid (f3.down (base' := w.heap.size) (Nat.le_trans HN.out.size S1.out.size))
                have N3 := Lib.hid ((HN.out.trans S1.out).trans o3)
                have S3 := Lib.hid (And.intro c3' (And.intro z3 (And.intro r3' k3')))
                clear f3 o3 z3 c3' r3' k3' D
                obtain ⟨pu, cu, rfl, _, _, _⟩ := F3.out
                have HF5 := Lib.hid (show fs.length ≤ 100000 from Nat.le_trans HF.out (by decide))
                go_wp2_with (at_builtin; refine wp_appF (w := w3) rfl _ _ rfl w.heap.size (.slice p3 fs.length c3) (.slice pu d.length cu) fs tag d rfl rfl O3.out F3.out HF5.out ?_; intro v4 w4 o4 b4; have O4 := Lib.hid o4; have B4 := Lib.hid b4; clear o4 b4)
                have hg3 : g < w3.heap.size := Nat.lt_of_lt_of_le HG.out N3.out.size
                have C4 := Lib.hid ((B4.out.cell (p := ⟨g, 0, none⟩) HG.out).trans S3.out.1)
                have R4 := Lib.hid (S3.out.2.2.1.below2 S3.out.2.2.2 (B4.out.mono (Nat.le_trans HB.out (Nat.le_of_lt HG.out))))
                have N4 := Lib.hid (N3.out.then_below B4.out)
                refine ⟨⟨fs ++ [(tag, d)], tag, r3, v3, rfl, Lib.hid (by have := HV.out; omega), O4, Lib.hid (by rw [List.length_append]; have := hfl; simp; omega), Lib.hid ⟨C4.out, (B4.out.frozen (p := ⟨g, 0, none⟩) HG.out).trans S3.out.2.1, R4.out, S3.out.2.2.2⟩, N4, Lib.hid (by rw [HTT.out, HR.out]), Lib.hid (by have := HRL.out; have := HDL.out; have := HTL.out; omega)⟩, ?_⟩
                rw [lenC_is C4.out R4.out, HLN.out]
                have := HRL.out
                have := HDL.out
                omega
          · rw [decide_eq_false hv] at V
            have HR := Lib.hid (takR_tag fs bf t tag r HNE.out HF2.out HI.out (Or.inl hv))
            clear hv
            go_wp2_with fail
            refine V.out.mono ?_
            rintro e w3 ⟨rfl, hw⟩
            rw [hw]
            clear hw w3 V
            go_wp2
            exact ⟨rfl, Or.inl ⟨5, by rw [HTT.out, HR.out], rfl, HN.out.trans S1.out⟩⟩
end Go.Proofs.Ytbaodpfiilmpjaa
