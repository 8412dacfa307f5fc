/-
  TakeList.
-/
import Derived.Test.YtlnnkdnnhmeldaaFiJ
namespace Go.Proofs.Ytlnnkdnnhmeldaa
open Go.RowKit
open IntWalk
set_option linter.unusedVariables false

def lstN : Nat → List (List UInt8) → List UInt8 → Except Int (List (List UInt8) × List UInt8)
  | 0, acc, l => .ok (acc, l)
  | n + 1, acc, l => match readD l with
    | .error k => .error k
    | .ok (d, r) => lstN n (acc ++ [d]) r
def lstA (l : List UInt8) : Except Int (List (List UInt8) × List UInt8) :=
  match readI l with
  | .error k => .error k
  | .ok (n, r) => if n < 0 then .error 5 else if 256 < n then .error 3 else lstN n.toNat [] r
/-- What TakeList returns. -/
def lstR (l : List UInt8) : Except Int (List (List UInt8)) :=
  match lstA l with
  | .error k => .error k
  | .ok (ls, r) => if r = [] then .ok ls else .error 5
theorem lstN_err (n : Nat) (acc : List (List UInt8)) (l : List UInt8) (k : Int) (h : readD l = .error k) : lstN (n + 1) acc l = .error k := by rw [lstN, h]
theorem lstN_ok (n : Nat) (acc : List (List UInt8)) (l d r : List UInt8) (h : readD l = .ok (d, r)) : lstN (n + 1) acc l = lstN n (acc ++ [d]) r := by rw [lstN, h]
theorem news_1 (W : World) (x : Value) (T : TypeId) : ∀ (j : Nat) (u : Value), ([x] : List Value)[j]? = some u → (W.alloc (.cells #[x] T)).cell? ((⟨W.heap.size, 0, none⟩ : Addr).add j) = some u := by
  intro j u hj
  rw [Addr.add_lit, World.cell?_alloc_at _ _ _ _ rfl]
  match j, hj with
  | 0, hj => simpa using hj
theorem wp_app1 {w : World} {ops : Array Oper} {rest : List Oper} {o : Oper} {a : Act} {Q : Exit → Act → World → Prop} (hgd : o.guard = none) (s x : Operand)
    (ho : o.op = .call { callee := .builtin .append, args := #[s, x], argTypes := #[33, 33] }) (base : Nat) (v u : Value) (ls : List (List UInt8)) (d : List UInt8) (hs : a.eval s = v) (hx : a.eval x = .slice (some ⟨w.heap.size, 0, none⟩) 1 1)
    (hv : OwnP w base v ls) (hu : Fr w base u d) (hxl : ls.length ≤ 100000)
    (h : ∀ v' w', OwnP w' base v' (ls ++ [d]) → Below base w w' → wpList Try.prog ops Q rest (a.put o.dst v') w') : wpList Try.prog ops Q (o :: rest) a (w.alloc (.cells #[u] 22)) := by
  obtain ⟨i0, hi, hz0, hz1, hz2⟩ := info_parts Try.sliceInfo
  obtain ⟨vs, hr, hl, hbs, h1c, hf⟩ := hv
  refine wpList_append_own _ hgd s x 33 ho base 22 i0 (.slice none 0 0) 1 24 Try.underlying33 hi hz0 hz1 hz2 rfl (by decide) v vs.length vs hs (hr.alloc _) ⟨w.heap.size, 0, none⟩ 1 1 [u] hx rfl (news_1 w _ _) ?_ ?_ ?_ (le_alloc hbs _) ?_
  · intro z hz
    simp only [List.mem_cons, List.mem_nil_iff, or_false] at hz
    subst hz
    exact fr_one hu
  · unfold maxLen; omega
  · omega
  · intro v' w' h1 h2 _
    have := OwnP.more hr hl hbs h1c hf hu h1 h2
    exact h v' w' this.1 this.2
/-- How the reader of a list ends. -/
def LstG (g B : Nat) (w : World) (r : Except Int (List (List UInt8) × List UInt8)) (e : Ending) (w' : World) : Prop :=
  (∃ k, r = .error k ∧ e = .panicked [{ v := errV k, recovered := false }] ∧ Only g w w') ∨
  (∃ ls t u v', r = .ok (ls, t) ∧ e = .returned u ∧ OwnP w' w.heap.size u ls ∧ Only g w w' ∧ w'.cell? ⟨g, 0, none⟩ = some v' ∧ RdB w' v' t ∧ blk v' B)

set_option maxHeartbeats 8000000 in
set_option maxRecDepth 10000 in
theorem list_run (g B : Nat) (v : Value) (l : List UInt8) (w : World) (hg : g < w.heap.size) (hc : w.cell? ⟨g, 0, none⟩ = some v) (hz : w.frozen? ⟨g, 0, none⟩ = false) (h : RdB w v l) (hb : blk v B) (hl : l.length ≤ 200000) (hB : B ≤ g) :
    Calls Try.prog 45 #[.pointer (some ⟨g, 0, none⟩)] w (LstG g B w (lstA l)) := by
  rcases hi : readI l with k | ⟨n, r⟩
  · have C := Lib.hid (int_err g _ l k w hi hc h hl)
    have HR := Lib.hid (show lstA l = .error k by unfold lstA; rw [hi])
    clear hi
    go_enter Try.func45, Try.ntmps45
    go_wp2_with fail
    refine C.out.mono ?_
    rintro e w2 ⟨rfl, hw⟩
    rw [hw]
    exact ⟨rfl, Or.inl ⟨k, HR.out, rfl, Only.refl _ _⟩⟩
  · have C := Lib.hid (int_ok g B _ l r n w hi hc hz h hb hl)
    have HRL := Lib.hid (readI_len l n r hi)
    by_cases h0 : n < 0
    · have HR := Lib.hid (show lstA l = .error 5 by unfold lstA; rw [hi]; dsimp only; rw [if_pos h0])
      clear hi
      go_enter Try.func45, Try.ntmps45
      go_wp2_with fail
      refine C.out.mono ?_
      rintro e w2 ⟨rfl, v2, hw, r2, k2⟩
      rw [hw]
      clear hw w2 C
      go_wp2
      exact ⟨rfl, Or.inl ⟨5, HR.out, rfl, Only.set _ _ _ _⟩⟩
    · by_cases h1 : 256 < n
      · have HR := Lib.hid (show lstA l = .error 3 by unfold lstA; rw [hi]; dsimp only; rw [if_neg h0, if_pos h1])
        clear hi
        go_enter Try.func45, Try.ntmps45
        go_wp2_with fail
        refine C.out.mono ?_
        rintro e w2 ⟨rfl, v2, hw, r2, k2⟩
        rw [hw]
        clear hw w2 C
        go_wp2
        exact ⟨rfl, Or.inl ⟨3, HR.out, rfl, Only.set _ _ _ _⟩⟩
      · obtain ⟨N, rfl⟩ := Int.eq_ofNat_of_zero_le (show 0 ≤ n by omega)
        have hN : N ≤ 256 := by omega
        obtain ⟨T, hT⟩ : ∃ T, T = lstA l := ⟨_, rfl⟩
        have HT := Lib.hid (show T = lstN N [] r by rw [hT]; unfold lstA; rw [hi]; dsimp only; rw [if_neg h0, if_neg h1, Int.toNat_natCast])
        rw [← hT]
        have HC := Lib.hid hc
        have HZ := Lib.hid hz
        have HG := Lib.hid hg
        have HB := Lib.hid hB
        have HL := Lib.hid hl
        clear hi hT h0 h1 hl hg hB hb h
        go_enter Try.func45, Try.ntmps45
        go_wp2_with fail
        refine C.out.mono ?_
        rintro e w2 ⟨rfl, v2, hw, r2, k2⟩
        rw [hw]
        have S1 := Lib.hid (Only.set g 0 v2 w)
        have S2 := Lib.hid (And.intro (cell_set w g v2 _ HC.out) (And.intro (show (w.setCell ⟨g, 0, none⟩ v2).frozen? ⟨g, 0, none⟩ = false by rw [World.frozen?_setCell]; exact HZ.out) (And.intro (r2.below2 k2 ((S1.out.below HG.out).mono HB.out)) k2)))
        have HSZ := Lib.hid (set_size w g v2)
        clear hw w2 C r2 k2 hc hz
        revert S1 S2 HSZ
        generalize w.setCell { block := g, off := 0 } v2 = w2
        intro S1 S2 HSZ
        go_wp2_with fail
        go_loopw [4, 14] (fun lv iv wr => ∃ (j : Nat) (ls : List (List UInt8)) (t : List UInt8) (vr : Value), iv = .int .i64 j ∧ j ≤ N ∧ Hid (OwnP wr w.heap.size lv ls) ∧ Hid (ls.length = j) ∧
            Hid (wr.cell? ⟨g, 0, none⟩ = some vr ∧ wr.frozen? ⟨g, 0, none⟩ = false ∧ RdB wr vr t ∧ blk vr B) ∧ Hid (Only g w wr) ∧ Hid (T = lstN (N - j) ls t) ∧ Hid (t.length ≤ l.length)) (fun _ i _ => N - (intOf i).toNat)
        case atStart => exact ⟨0, [], r, v2, rfl, Nat.zero_le _, Lib.hid (OwnP.none_ w2 _ (by rw [HSZ.out]; exact Nat.le_refl _)), Lib.hid rfl, S2, S1, HT, Lib.hid (Nat.le_of_lt HRL.out)⟩
        case round =>
          obtain ⟨j, ls, t, vr, rfl, hj, HO, HF, HS, HN, HTT, HTL⟩ := hrel
          clear S1 S2 HT HSZ
          by_cases hlt : j < N
          · obtain ⟨m, hm⟩ : ∃ m, N - j = m + 1 := ⟨N - j - 1, by omega⟩
            have HM := Lib.hid hm
            have HTN := Lib.hid (show T = lstN (m + 1) ls t by rw [← hm]; exact HTT.out)
            have HGW := Lib.hid (show g < wr.heap.size from Nat.lt_of_lt_of_le HG.out HN.out.size)
            obtain ⟨p3, c3, vs3, rfl, _, _, _, _, _⟩ := HO.out.rd
            rcases hd : readD t with k | ⟨d, r3⟩
            · have HR := Lib.hid (lstN_err m ls t k hd)
              have D := Lib.hid (data_err g B vr t k wr hd HS.out.1 HS.out.2.1 HS.out.2.2.1 HS.out.2.2.2 (by have := HTL.out; have := HL.out; omega) HB.out)
              clear hd hm
              go_wp2_with fail
              refine D.out.mono ?_
              rintro e w3 ⟨rfl, o3⟩
              exact ⟨rfl, Or.inl ⟨k, by rw [HTN.out, HR.out], rfl, HN.out.trans o3⟩⟩
            · have HR := Lib.hid (lstN_ok m ls t d r3 hd)
              have HDL := Lib.hid (readD_len t d r3 hd)
              have D := Lib.hid (data_ok g B vr t d r3 wr hd HGW.out HS.out.1 HS.out.2.1 HS.out.2.2.1 HS.out.2.2.2 (by have := HTL.out; have := HL.out; omega) HB.out)
              clear hd hm
              go_wp2_with fail
              refine D.out.mono ?_
              rintro e w3 ⟨u, rfl, f3, o3, z3, v3, c3', r3', k3'⟩
              have O3 := Lib.hid (HO.out.only o3 HG.out)
              have F3 := Lib.hid (f3.down (base' := w.heap.size) HN.out.size)
              have N3 := Lib.hid (HN.out.trans o3)
              have S3 := Lib.hid (And.intro c3' (And.intro z3 (And.intro r3' k3')))
              clear f3 o3 z3 c3' r3' k3' D
              obtain ⟨pu, cu, rfl, _, _, _⟩ := F3.out
              have HF5 := Lib.hid (show ls.length ≤ 100000 by have := HF.out; omega)
              go_wp2_with (at_builtin; refine wp_app1 (w := w3) rfl _ _ rfl w.heap.size (.slice p3 ls.length c3) (.slice pu d.length cu) ls d rfl rfl O3.out F3.out HF5.out ?_; intro v4 w4 o4 b4; have O4 := Lib.hid o4; have B4 := Lib.hid b4; clear o4 b4)
              have C4 := Lib.hid ((B4.out.cell (p := ⟨g, 0, none⟩) HG.out).trans S3.out.1)
              have R4 := Lib.hid (S3.out.2.2.1.below2 S3.out.2.2.2 (B4.out.mono (Nat.le_trans HB.out (Nat.le_of_lt HG.out))))
              have N4 := Lib.hid (N3.out.then_below B4.out)
              refine ⟨⟨j + 1, ls ++ [d], r3, v3, by go_num, hlt, O4, Lib.hid (by rw [List.length_append, HF.out]; rfl), Lib.hid ⟨C4.out, (B4.out.frozen (p := ⟨g, 0, none⟩) HG.out).trans S3.out.2.1, R4.out, S3.out.2.2.2⟩, N4, Lib.hid (by rw [HTN.out, HR.out, show N - (j + 1) = m by have := HM.out; omega]), Lib.hid (by have := HDL.out; have := HTL.out; omega)⟩, by simp [intOf]; omega⟩
          · obtain rfl : j = N := by omega
            have HE := Lib.hid (show T = .ok (ls, t) by rw [HTT.out, Nat.sub_self]; rfl)
            go_wp2
            go_ret
            exact Or.inr ⟨ls, t, _, vr, HE.out, rfl, HO.out, HN.out, HS.out.1, HS.out.2.2.1, HS.out.2.2.2⟩
end Go.Proofs.Ytlnnkdnnhmeldaa
