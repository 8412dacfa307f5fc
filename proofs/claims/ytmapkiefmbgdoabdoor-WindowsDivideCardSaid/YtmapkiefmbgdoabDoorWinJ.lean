/-
  What edges yields where days are looked at.
-/
import Derived.Test.YtmapkiefmbgdoabDoorWinI
namespace Go.Proofs.YtmapkiefmbgdoabDoor
open Go.RowKit Go.Shelf
set_option linter.unusedVariables false
attribute [local go_sem] Oper.semAt_some

/-- The times of a day. -/
def dayI (s e o : Int) (sm : Bool) (F T : Int) (i : Fin (nD F T)) : List Int := inn F T (dE s e o sm (F / 1440 + (i.1 : Int)))
theorem edL_days {d s e o : Int} {sm : Bool} {F T : Int} (h : ¬ T < F) (ha : alwB d s e = false) : edL d s e o sm F T = (F :: (List.finRange (nD F T)).flatMap (dayI s e o sm F T)) ++ (if F < T then [T] else []) := by
  unfold edL midL dayI
  rw [if_neg h, ha]; simp
theorem flat_prefix {α : Type} (E : α → List Int) {p l : List α} (h : p <+: l) : p.flatMap E <+: l.flatMap E := by
  obtain ⟨q, rfl⟩ := h
  rw [List.flatMap_append]; exact List.prefix_append _ _
/-- What the loop over the days keeps. -/
def DayI {α : Type} (J : List Int → (Nat → Prop) → World → Prop) (F : Int) (E : α → List Int) (M : List Nat) (A0 : World) (pre : List α) (A : World) : Prop :=
  ∃ C : Nat → Prop, J (F :: pre.flatMap E) C A ∧ KeepM M A0 C A
def DayX {α : Type} (Jx : List Int → (Nat → Prop) → World → Prop) (F : Int) (E : α → List Int) (A0 : World) (c : Code) (pre : List α) (A : World) : Prop :=
  c = .ret ∧ A0.heap.size ≤ A.heap.size ∧ ∃ (C : Nat → Prop) (p : List Int), p <+: F :: pre.flatMap E ∧ Jx p C A
theorem not_in {h r : Nat} {C : Nat → Prop} {A : World} {o : Obj} (hw : CWf h C A) (hr : h ≤ r) (ho : A.heap[r]? = some o) (hc : o.isCells = false) : ¬ C r := fun hk => by
  rcases hw _ hk with h1 | ⟨o', h1, h2⟩
  · omega
  · rw [ho] at h1; cases h1; rw [hc] at h2; cases h2
theorem dayI_own {α : Type} {J : List Int → (Nat → Prop) → World → Prop} {h : Nat} (wf : ∀ pre C A, J pre C A → CWf h C A) (ab : ∀ pre C A B, J pre C A → KeepsC h C A B → J pre C B)
    (F : Int) (E : α → List Int) (M : List Nat) (A0 : World) (hA : h ≤ A0.heap.size) : OwnFrom A0.heap.size (DayI J F E M A0) := by
  rintro pre A B row ⟨C, hJ, hM⟩ hg hr
  refine ⟨C, ab _ _ _ _ hJ (KeepsC.of_grown hg fun r e => ?_), hM.grown hg fun r e => (hr r e).1⟩
  obtain ⟨h1, o, h2, h3⟩ := hr r e
  exact ⟨by omega, not_in (wf _ _ _ hJ) (by omega) h2 h3⟩
theorem dayX_own {α : Type} {Jx : List Int → (Nat → Prop) → World → Prop} {h : Nat} (wf : ∀ pre C A, Jx pre C A → CWf h C A) (ab : ∀ pre C A B, Jx pre C A → KeepsC h C A B → Jx pre C B)
    (F : Int) (E : α → List Int) (A0 : World) (hA : h ≤ A0.heap.size) (c : Code) : OwnFrom A0.heap.size (DayX Jx F E A0 c) := by
  rintro pre A B row ⟨hc, hs, C, p, hp, hJ⟩ hg hr
  refine ⟨hc, Nat.le_trans hs hg.size, C, p, hp, ab _ _ _ _ hJ (KeepsC.of_grown hg fun r e => ?_)⟩
  obtain ⟨h1, o, h2, h3⟩ := hr r e
  exact ⟨by omega, not_in (wf _ _ _ hJ) (by omega) h2 h3⟩
/-- Of a round: what is no cells at or beyond B lies as it lay. -/
theorem keepsFrom_of {h B : Nat} {C : Nat → Prop} {A A' : World} (hw : CWf h C A) (hB : h ≤ B) (hk : KeepsO C A A') : KeepsFrom B A A' :=
  ⟨hk.size, fun k o hk1 ho hc => (hk.same k (Array.getElem?_eq_some_iff.1 ho).1 (not_in hw (by omega) ho hc)).trans ho⟩
theorem keepsFrom_below {B : Nat} {A A' : World} (hb : Below A.heap.size A A') : KeepsFrom B A A' :=
  ⟨hb.size, fun k o _ ho _ => (hb.block k (Array.getElem?_eq_some_iff.1 ho).1).trans ho⟩

theorem inn_snoc (F T : Int) (l : List Int) (j : Nat) (h : j < l.length) : inn F T (l.take (j + 1)) = inn F T (l.take j) ++ (if F < l[j] ∧ l[j] < T then [l[j]] else []) := by
  unfold inn
  rw [List.take_succ_eq_append_getElem h, List.filter_append]
  congr 1
  by_cases h1 : F < l[j] ∧ l[j] < T
  · rw [if_pos h1]; simp [h1.1, h1.2]
  · rw [if_neg h1]
    rw [List.filter_eq_nil_iff]
    intro a ha
    obtain rfl : a = l[j] := by simpa using ha
    simp only [Bool.and_eq_true, decide_eq_true_eq]
    exact h1
theorem KeepM.join {M M' : List Nat} {A0 A1 A : World} {C C' : Nat → Prop} (h0 : KeepM M A0 C A1) (h1 : KeepM M' A1 C' A) (hs : ∀ k ∈ M, k ∈ M') : KeepM M A0 C' A :=
  ⟨fun k hk => ⟨(h0.1 k hk).1, (h1.1 k (hs k hk)).2.1, (h1.1 k (hs k hk)).2.2.trans (h0.1 k hk).2.2⟩, Nat.le_trans h0.2 h1.2⟩

theorem RoundIn.inR {F : Fence} {m l l2 : Nat} {P : Program} {f : FuncId} {tmps : Array Value} {assign body : Code} {w : World} {R : Ending → World → Prop}
    (h : RoundIn F m P l f tmps assign body w R) : RoundIn (F.inRound l2) m P l f tmps assign body w R := h
theorem inn_prefix (F T : Int) (l : List Int) (j : Nat) : inn F T (l.take j) <+: inn F T l := by
  unfold inn
  have h : l.filter (fun t => decide (F < t) && decide (t < T)) = (l.take j ++ l.drop j).filter (fun t => decide (F < t) && decide (t < T)) := by rw [List.take_append_drop]
  rw [h, List.filter_append]
  exact List.prefix_append _ _

set_option maxRecDepth 100000 in
set_option maxHeartbeats 8000000 in
theorem edges1_days (d s e f u o F T : Int) (sm : Bool) (hs hw hz : Nat) (w : World)
    (c0 : w.cell? ⟨hs, 0, none⟩ = some (.int .i64 F)) (c1 : w.cell? ⟨hs, 1, none⟩ = some (.int .i64 T)) (bs : hs < w.heap.size) (bw : hw < w.heap.size) (bz : hz < w.heap.size)
    (w0 : w.cell? ⟨hw, 0, none⟩ = some (.int .i64 d)) (w1 : w.cell? ⟨hw, 1, none⟩ = some (.int .i64 s)) (w2 : w.cell? ⟨hw, 2, none⟩ = some (.int .i64 e)) (w3 : w.cell? ⟨hw, 3, none⟩ = some (.int .i64 f)) (w4 : w.cell? ⟨hw, 4, none⟩ = some (.int .i64 u))
    (z0 : w.cell? ⟨hz, 0, none⟩ = some (.int .i64 o)) (z1 : w.cell? ⟨hz, 1, none⟩ = some (.bool sm))
    (vs : 0 ≤ s ∧ s ≤ 1439) (ve : 0 ≤ e ∧ e ≤ 1439) (vo : -840 ≤ o ∧ o ≤ 840) (f0 : 0 ≤ F) (t1 : T ≤ 268435456)
    (hFT : F ≤ T) (ha : alwB d s e = false) :
    SeqC Tryd.prog 42 #[.pointer (some ⟨hs, 0, none⟩), .pointer (some ⟨hw, 0, none⟩), .pointer (some ⟨hz, 0, none⟩)] (fun k => k = hs ∨ k = hw ∨ k = hz)
      (fun xs => xs = edL d s e o sm F T) (fun pre => pre <+: edL d s e o sm F T) w := by
  intro l J Jx W C0 hW hl wfJ wfX abJ abX hY h0 hC0
  have HE := Lib.hid (edL_days (d := d) (s := s) (e := e) (o := o) (sm := sm) (F := F) (T := T) (by omega) ha)
  obtain ⟨W1, hW1⟩ : ∃ W1, W.alloc (.cells #[.func (.yield l) #[] #[]] 59) = W1 := ⟨_, rfl⟩
  have hb1 : Below W.heap.size W W1 := by rw [← hW1]; exact b_new _ _
  have hs1 : W1.heap.size = W.heap.size + 1 := by rw [← hW1]; simp
  have hbw : Below w.heap.size w W1 := hW.trans (hb1.mono hW.size)
  have C1 := (hbw.cell (p := ⟨hs, 0, none⟩) bs).trans c0
  have C2 := (hbw.cell (p := ⟨hs, 1, none⟩) bs).trans c1
  have D0 := (hbw.cell (p := ⟨hw, 0, none⟩) bw).trans w0
  have D1 := (hbw.cell (p := ⟨hw, 1, none⟩) bw).trans w1
  have D2 := (hbw.cell (p := ⟨hw, 2, none⟩) bw).trans w2
  have D3 := (hbw.cell (p := ⟨hw, 3, none⟩) bw).trans w3
  have D4 := (hbw.cell (p := ⟨hw, 4, none⟩) bw).trans w4
  have E0 := (hbw.cell (p := ⟨hz, 0, none⟩) bz).trans z0
  have E1 := (hbw.cell (p := ⟨hz, 1, none⟩) bz).trans z1
  have CY : W1.cell? ⟨W.heap.size, 0, none⟩ = some (.func (.yield l) #[] #[]) := by rw [← hW1]; simp [go_sem]
  have hsz := hW.size
  have M1 : KeepM [hs, hw, hz, W.heap.size] W1 C0 W1 := KeepM.start _ _ _ (by
    intro k hk
    simp only [List.mem_cons, List.not_mem_nil, or_false] at hk
    rcases hk with rfl | rfl | rfl | rfl
    · exact ⟨by omega, fun h => (hC0 _ h).2 (.inl rfl)⟩
    · exact ⟨by omega, fun h => (hC0 _ h).2 (.inr (.inl rfl))⟩
    · exact ⟨by omega, fun h => (hC0 _ h).2 (.inr (.inr rfl))⟩
    · exact ⟨by omega, fun h => by have := (hC0 _ h).1; omega⟩)
  have J1 := abJ _ _ _ _ h0 (KeepsC.of_below hb1)
  refine (callsIn_wide (n := 5)).1 (callsIn_of_wp_marks Tryd.func42 rfl trivial ?_ rfl)
  simp only [Tryd.ntmps42, List.size_toArray, List.length_cons, List.length_nil, Nat.reduceAdd, Nat.reduceSub, Array.replicate_succ, Array.replicate_zero, List.push_toArray, List.append_toArray, List.nil_append, List.cons_append]
  obtain ⟨fn1, tm1, as1, bo1, hy1, hR1⟩ := hY 4 [] C0 F W1 J1
  have HS := Lib.hid hs1
  have HCELLS := Lib.hid (And.intro (And.intro C1 (And.intro C2 CY)) (And.intro (And.intro D0 (And.intro D1 (And.intro D2 (And.intro D3 D4)))) (And.intro E0 E1)))
  clear hb1 hbw c0 c1 w0 w1 w2 w3 w4 z0 z1 hW hC0 h0 hs1
  gi_wp2
  refine hR1.mono ?_
  rintro e5 W2 ⟨C', hc', hk', (⟨rfl, hJ'⟩ | ⟨rfl, hX'⟩)⟩
  · have M2 := M1.round hc' hk'
    obtain ⟨⟨x1, x2, x3⟩, ⟨x4, x5, x6, x7, x8⟩, x9, x10⟩ := HCELLS.out
    clear C1 C2 CY D0 D1 D2 D3 D4 E0 E1
    have C1 := M2.cell (b := hs) (by simp) x1
    have C2 := M2.cell (b := hs) (by simp) x2
    have D0 := M2.cell (b := hw) (by simp) x4
    have D1 := M2.cell (b := hw) (by simp) x5
    have D2 := M2.cell (b := hw) (by simp) x6
    have D3 := M2.cell (b := hw) (by simp) x7
    have D4 := M2.cell (b := hw) (by simp) x8
    have AA := Lib.hid (always_any d s e f u W2)
    rw [ha] at AA
    clear x1 x2 x3 x4 x5 x6 x7 x8 x9 x10 hk' hc' hR1 hy1 hW1
    gi_wp2_with fail
    refine ⟨trivial, ?_⟩
    refine (callsIn_wide.2 AA.out).mono ?_
    rintro e6 W3 ⟨rfl, b3⟩
    have M3 := M2.below b3
    have J3 := abJ _ _ _ _ hJ' (KeepsC.of_below b3)
    obtain ⟨⟨x1, x2, x3⟩, _⟩ := HCELLS.out
    clear C1 C2 D0 D1 D2 D3 D4
    have C1 := M3.cell (b := hs) (by simp) x1
    have C2 := M3.cell (b := hs) (by simp) x2
    clear x1 x2 x3 b3 AA
    gi_wp2_with fail
    refine ⟨trivial, ?_⟩
    refine (callsIn_wide.2 (days_any F T W3)).mono ?_
    rintro e7 W4 ⟨rfl, h4⟩
    have b4 : Below W3.heap.size W3 W4 := by rw [h4]; exact b_new _ _
    have s4 : W4.heap.size = W3.heap.size + 1 := by rw [h4]; simp
    have G0 : W4.cell? ⟨W3.heap.size, 0, none⟩ = some (.int .i64 F) := by rw [h4]; simp [go_sem]
    have G1 : W4.cell? ⟨W3.heap.size, 1, none⟩ = some (.int .i64 T) := by rw [h4]; simp [go_sem]
    have J4 := abJ _ _ _ _ J3 (KeepsC.of_below b4)
    have hWs : W.heap.size + 1 ≤ W3.heap.size := by have := M3.2; have := HS.out; omega
    have M4 := M3.below b4
    have M5 : KeepM [hs, hw, hz, W.heap.size, W3.heap.size] W4 C' W4 := KeepM.start _ _ _ (by
      intro k hk
      by_cases e : k = W3.heap.size
      · subst e
        refine ⟨by omega, fun h => ?_⟩
        rcases wfJ _ _ _ J3 _ h with h | ⟨o', h, _⟩
        · omega
        · rw [Array.getElem?_eq_none (Nat.le_refl _)] at h; cases h
      · have hm : k ∈ [hs, hw, hz, W.heap.size] := by simp only [List.mem_cons, List.not_mem_nil, or_false] at hk ⊢; omega
        obtain ⟨q1, q2, _⟩ := M3.1 k hm
        exact ⟨by have := M3.2; omega, q2⟩)
    obtain ⟨⟨x1, x2, x3⟩, ⟨x4, x5, x6, x7, x8⟩, x9, x10⟩ := HCELLS.out
    have HC4 := Lib.hid (And.intro (And.intro (M4.cell (b := hs) (by simp) x1) (And.intro (M4.cell (b := hs) (by simp) x2) (M4.cell (b := W.heap.size) (by simp) x3))) (And.intro (And.intro (M4.cell (b := hw) (by simp) x4) (And.intro (M4.cell (b := hw) (by simp) x5) (And.intro (M4.cell (b := hw) (by simp) x6) (And.intro (M4.cell (b := hw) (by simp) x7) (M4.cell (b := hw) (by simp) x8))))) (And.intro (M4.cell (b := hz) (by simp) x9) (M4.cell (b := hz) (by simp) x10))))
    have HS4 := Lib.hid s4
    have DS := days1_stops 4 (by decide) W3.heap.size F T W4 (by omega) G0 G1 f0 (by omega) (by omega) t1
    clear x1 x2 x3 x4 x5 x6 x7 x8 x9 x10 h4 b4 s4 M4 M3 M2 M1 C1 C2 G0 G1 HCELLS
    gi_wp2_with fail
    refine wpIn_rangeFunc_ownG rfl (by decide) (gf := 56) (lb := #[.pointer (some ⟨W3.heap.size, 0, none⟩)]) rfl trivial (enters_of Tryd.func56 (by kernel_rfl) rfl)
      DS (fun h k => k.trans h) (fun X l o o' hl' _ _ _ => World.putObj_heap_other (by have := HS4.out; omega)) (Below.refl _ _) (fun _ => rfl)
      (DayI J F (dayI s e o sm F T) [hs, hw, hz, W.heap.size, W3.heap.size] W4) (DayX Jx F (dayI s e o sm F T) W4)
      (dayI_own wfJ abJ F _ _ _ (by have := HS4.out; omega)) (fun c => dayX_own wfX abX F _ _ (by have := HS4.out; omega) c)
      ⟨C', by simpa using J4, M5⟩ ?act ?assign ?body ?done ?stop
    case assign =>
      intro l2 x X K hK
      gi_wp2
      exact hK
    case body =>
      rintro l2 pre x X ⟨C, hJ, hM⟩ hlen
      obtain ⟨⟨y1, y2, y3⟩, ⟨y4, y5, y6, y7, y8⟩, y9, y10⟩ := HC4.out
      have D0 := hM.cell (b := hw) (by simp) y4
      have D1 := hM.cell (b := hw) (by simp) y5
      have D2 := hM.cell (b := hw) (by simp) y6
      have D3 := hM.cell (b := hw) (by simp) y7
      have D4 := hM.cell (b := hw) (by simp) y8
      have E0 := hM.cell (b := hz) (by simp) y9
      have E1 := hM.cell (b := hz) (by simp) y10
      have C1 := hM.cell (b := hs) (by simp) y1
      have C2 := hM.cell (b := hs) (by simp) y2
      have CY := hM.cell (b := W.heap.size) (by simp) y3
      have hxl := nD_lt x.2
      obtain ⟨D, hD⟩ : ∃ D, D = F / 1440 + ((x.1 : Nat) : Int) := ⟨_, rfl⟩
      have hEx : dayI s e o sm F T x = inn F T (dE s e o sm D) := by rw [hD]; rfl
      have DE := dayEdges_any d s e f u o sm D X vs ve vo (by omega)
      have dne := dE_ne s e o sm D
      obtain ⟨lD, hlD⟩ : ∃ lD, dE s e o sm D = lD := ⟨_, rfl⟩
      rw [hlD] at DE dne hEx
      have DE := Lib.hid DE
      have HEx := Lib.hid hEx
      rw [← hD]
      clear y1 y2 y3 y4 y5 y6 y7 y8 y9 y10 hlD hEx hD hxl hlen
      gi_wp2_with fail
      refine ⟨trivial, ?_⟩
      refine (CallsIn.inRound l2 (callsIn_wide.2 DE.out)).mono ?_
      rintro e8 X6 ⟨⟨v, rfl, hv⟩, b6⟩
      obtain ⟨g, cap, rfl, gb, gl, gn, gm⟩ := hv.form dne
      have hln : lD.length ≤ 9223372036854775807 := by unfold maxLen at gm; omega
      have hX64 : W4.heap.size ≤ X6.heap.size := Nat.le_trans hM.2 b6.size
      have J6 := abJ _ _ _ _ hJ (KeepsC.of_below b6)
      have nG : ¬ C g := fun h => by
        rcases wfJ _ _ _ hJ _ h with h | ⟨o', h, _⟩
        · have := hM.2; have := HS4.out; omega
        · have := (Array.getElem?_eq_some_iff.1 h).1; omega
      have M6 := hM.below b6
      have M7 : KeepM [g, hs, hw, hz, W.heap.size, W3.heap.size] X6 C X6 := KeepM.start _ _ _ (by
        intro k hk
        by_cases e : k = g
        · subst e; exact ⟨gl, nG⟩
        · have hm : k ∈ [hs, hw, hz, W.heap.size, W3.heap.size] := by simp only [List.mem_cons, List.not_mem_nil, or_false] at hk ⊢; omega
          obtain ⟨q1, q2, _⟩ := M6.1 k hm
          exact ⟨by have := M6.2; omega, q2⟩)
      obtain ⟨hc6, _⟩ := bcell b6
      have lM : ∀ k ∈ [hs, hw, hz, W.heap.size, W3.heap.size], k < X.heap.size := fun k hk => Nat.lt_of_lt_of_le (hM.1 k hk).1 hM.2
      have HC6 : Hid (X6.cell? ⟨hs, 0, none⟩ = some (.int .i64 F) ∧ X6.cell? ⟨hs, 1, none⟩ = some (.int .i64 T) ∧ X6.cell? ⟨W.heap.size, 0, none⟩ = some (.func (.yield l) #[] #[])) :=
        Lib.hid ⟨by rw [hc6 _ _ (lM hs (by simp))]; exact C1, by rw [hc6 _ _ (lM hs (by simp))]; exact C2, by rw [hc6 _ _ (lM W.heap.size (by simp))]; exact CY⟩
      have K6 := Lib.hid (keepsFrom_below (B := W4.heap.size) b6)
      have HV := Lib.hid hv
      have HM6 := Lib.hid M6
      have hXW : W.heap.size ≤ W4.heap.size := by have := HS4.out; omega
      have HMX := Lib.hid (And.intro hM M6)
      clear C1 C2 CY D0 D1 D2 D3 D4 E0 E1 hc6 lM b6 nG gb gl gn gm dne DE hJ hM hv M6
      gi_wp2_with fail
      gi_loopw [31] (fun i wr => ∃ (j : Nat) (C : Nat → Prop), j ≤ lD.length ∧ i = .int .i64 j ∧ J (F :: (pre.flatMap (dayI s e o sm F T) ++ inn F T (lD.take j))) C wr ∧ KeepM [g, hs, hw, hz, W.heap.size, W3.heap.size] X6 C wr ∧ KeepsFrom W4.heap.size X wr)
        (fun i _ => lD.length - (intOf i).toNat)
      case atStart => exact ⟨0, C, Nat.zero_le _, rfl, by simpa [inn] using J6, M7, K6.out⟩
      case round =>
        clear J6 M7
        obtain ⟨j, Cj, hj, rfl, hJ, hM, hK⟩ := hrel
        obtain ⟨p1, p2, p3⟩ := HC6.out
        have C1 := hM.cell (b := hs) (by simp) p1
        have C2 := hM.cell (b := hs) (by simp) p2
        have CY := hM.cell (b := W.heap.size) (by simp) p3
        clear p1 p2 p3
        by_cases hlt : j < lD.length
        · have ct := hM.cell (b := g) (by simp) (HV.out.at j hlt)
          have hsn := inn_snoc F T lD j hlt
          obtain ⟨t, ht⟩ : ∃ t, lD[j] = t := ⟨_, rfl⟩
          rw [ht] at ct hsn
          clear ht
          by_cases q1 : F < t
          · by_cases q2 : t < T
            · rw [if_pos ⟨q1, q2⟩] at hsn
              have HSN := Lib.hid hsn
              have HK := Lib.hid hK
              obtain ⟨fn2, tm2, as2, bo2, hy2, hR2⟩ := hY 2 _ Cj t wr hJ
              have WF := Lib.hid (wfJ _ _ _ hJ)
              clear hsn hK hJ
              gi_wp2_with fail
              refine (RoundIn.inR hR2).mono ?_
              rintro e9 W9 ⟨C9, hc9, hk9, (⟨rfl, hJ9⟩ | ⟨rfl, hX9⟩)⟩
              · have M9 := hM.round hc9 hk9
                have K9 := Lib.hid (HK.out.trans (keepsFrom_of WF.out hXW hk9))
                clear hk9 hc9 hR2 hy2 C1 C2 CY ct hM
                gi_wp2_with fail
                go_roundw
                case rel => exact ⟨j + 1, C9, by omega, by go_num, by rw [HSN.out]; simpa using hJ9, M9, K9.out⟩
                case measure => simp [intOf]; omega
              · have K9 := Lib.hid (HK.out.trans (keepsFrom_of WF.out hXW hk9))
                have hsz9 : W4.heap.size ≤ W9.heap.size := Nat.le_trans (Nat.le_trans hX64 hM.2) hk9.size
                clear hk9 hc9 hR2 hy2 C1 C2 CY ct
                gi_wp2_with fail
                refine ⟨K9.out, rfl, ?_, C9, _, ?_, hX9⟩
                · exact hsz9
                · rw [List.flatMap_append]
                  simp only [List.flatMap_cons, List.flatMap_nil, List.append_nil]
                  rw [HEx.out]
                  have := inn_prefix F T lD (j + 1)
                  rw [HSN.out] at this
                  simpa using this
            · rw [if_neg (fun h => q2 h.2), List.append_nil] at hsn
              have HSN := Lib.hid hsn
              have HK := Lib.hid hK
              have HJ := Lib.hid hJ
              have q3 : decide (t < T) = false := decide_eq_false q2
              clear hsn hK hJ
              gi_wp2_with fail
              refine ⟨fun _ h => (by cases h), ?_⟩
              gi_wp2_with fail
              go_roundw
              case rel => exact ⟨j + 1, Cj, by omega, by go_num, by rw [HSN.out]; exact HJ.out, hM, HK.out⟩
              case measure => simp [intOf]; omega
          · rw [if_neg (fun h => q1 h.1), List.append_nil] at hsn
            have HSN := Lib.hid hsn
            have HK := Lib.hid hK
            have HJ := Lib.hid hJ
            have q3 : decide (F < t) = false := decide_eq_false q1
            clear hsn hK hJ
            gi_wp2_with fail
            refine ⟨fun _ h => (by cases h), ?_⟩
            gi_wp2_with fail
            go_roundw
            case rel => exact ⟨j + 1, Cj, by omega, by go_num, by rw [HSN.out]; exact HJ.out, hM, HK.out⟩
            case measure => simp [intOf]; omega
        · have hjl : lD.take j = lD := List.take_of_length_le (by omega)
          rw [hjl, ← HEx.out] at hJ
          have HJ := Lib.hid hJ
          have HK := Lib.hid hK
          clear hjl hJ hK
          gi_wp2_with fail
          refine ⟨HK.out, ?_, Cj, ?_, ?_⟩
          · exact (hM.1 _ (by simp)).2.2.trans ((HMX.out.2.1 _ (by simp)).2.2.trans (HMX.out.1.1 _ (by simp)).2.2.symm)
          · rw [List.flatMap_append]
            simpa using HJ.out
          · exact KeepM.join HMX.out.2 hM (by simp)
    case done =>
      rintro D xs X hD rfl ⟨C, hJ, hM⟩ hK
      obtain ⟨⟨y1, y2, y3⟩, _⟩ := HC4.out
      have C1 := hM.cell (b := hs) (by simp) y1
      have C2 := hM.cell (b := hs) (by simp) y2
      have CY := hM.cell (b := W.heap.size) (by simp) y3
      have hWD : W.heap.size ≤ D := by have := HS4.out; omega
      have nD := not_in (wfJ _ _ _ hJ) hWD hK rfl
      have HKD := Lib.hid hK
      clear y1 y2 y3 hK
      by_cases hlt : F < T
      · rw [if_pos hlt] at HE
        obtain ⟨fn2, tm2, as2, bo2, hy2, hR2⟩ := hY 4 _ C T X hJ
        gi_wp2_with fail
        refine hR2.mono ?_
        rintro e9 W9 ⟨C9, hc9, hk9, (⟨rfl, hJ9⟩ | ⟨rfl, hX9⟩)⟩
        · have hKD := HKD.out
          have lD := (Array.getElem?_eq_some_iff.1 hKD).1
          have hK9 : W9.heap[D]? = some (.deferred (some [])) := (hk9.same D lD nD).trans hKD
          have nD9 : ¬ C9 D := fun h => (hc9 D h).elim nD (fun h => by omega)
          gi_wp2_with fail
          refine ⟨by simp, .inl ⟨_, _, rfl, run_takeDeferred hK9, ?_⟩⟩
          refine ⟨_, results_none rfl _ _ _, ⟨_, rfl⟩, .inl ⟨_, C9, HE.out.symm, ?_⟩⟩
          exact abJ _ _ _ _ hJ9 (KeepsC.put W9 _ hWD nD9)
        · have hKD := HKD.out
          have lD := (Array.getElem?_eq_some_iff.1 hKD).1
          have hK9 : W9.heap[D]? = some (.deferred (some [])) := (hk9.same D lD nD).trans hKD
          have nD9 : ¬ C9 D := fun h => (hc9 D h).elim nD (fun h => by omega)
          gi_wp2_with fail
          refine ⟨by simp, .inl ⟨_, _, rfl, run_takeDeferred hK9, ?_⟩⟩
          refine ⟨_, results_none rfl _ _ _, ⟨_, rfl⟩, .inr ⟨_, C9, by rw [HE.out]; exact List.prefix_refl _, ?_⟩⟩
          exact abX _ _ _ _ hX9 (KeepsC.put W9 _ hWD nD9)
      · rw [if_neg hlt, List.append_nil] at HE
        gi_wp2_with fail
        refine ⟨by simp, .inl ⟨_, _, rfl, run_takeDeferred HKD.out, ?_⟩⟩
        refine ⟨_, results_none rfl _ _ _, ⟨_, rfl⟩, .inl ?_⟩
        have hfin := abJ _ _ _ _ hJ (KeepsC.put X (.deferred none) hWD nD)
        rw [← HE.out] at hfin
        first | exact ⟨_, C, rfl, hfin⟩ | exact ⟨C, hfin⟩
    case stop =>
      rintro D c pre X hD hpre ⟨rfl, hsz, C, p, hp, hX⟩ hK
      have hWD : W.heap.size ≤ D := by have := HS4.out; omega
      have nD := not_in (wfX _ _ _ hX) hWD hK rfl
      gi_wp2_with fail
      refine ⟨by simp, .inl ⟨_, _, rfl, run_takeDeferred hK, ?_⟩⟩
      refine ⟨_, results_none rfl _ _ _, ⟨_, rfl⟩, .inr ⟨p, C, ?_, ?_⟩⟩
      · rw [HE.out]
        refine hp.trans (List.IsPrefix.trans ?_ (List.prefix_append _ _))
        obtain ⟨q, hq⟩ := flat_prefix (dayI s e o sm F T) hpre
        exact ⟨q, by rw [← hq]; rfl⟩
      · exact abX _ _ _ _ hX (KeepsC.put X _ hWD nD)
  · gi_wp2
    refine ⟨_, results_none rfl _ _ _, ⟨_, rfl⟩, .inr ⟨_, C', ?_, hX'⟩⟩
    rw [HE.out]
    exact List.prefix_append [F] _
end Go.Proofs.YtmapkiefmbgdoabDoor
