/-
  The times at which a window may change, one after another: what edges yields.
-/
import Derived.Test.YtmapkiefmbgdoabDoorWinK
import Derived.RangeFuncBox
namespace Go.Proofs.YtmapkiefmbgdoabDoor
open Go.RowKit Go.Shelf
set_option linter.unusedVariables false
attribute [local go_sem] Oper.semAt_some

theorem RoundIn.wide {m m' : Nat} {P : Program} {l : Nat} {f : FuncId} {tmps : Array Value} {assign body : Code} {w : World} {R : Ending → World → Prop}
    (h : RoundIn Fence.wide m P l f tmps assign body w R) : RoundIn Fence.wide m' P l f tmps assign body w R := ⟨h.1, fun c cs _ => h.2 c cs (room_wide _)⟩
/-- Blocks of M lie as they lay in A0, and C has none of them. -/
def KeepM (M : List Nat) (A0 : World) (C : Nat → Prop) (A : World) : Prop := (∀ k ∈ M, k < A0.heap.size ∧ ¬ C k ∧ A.heap[k]? = A0.heap[k]?) ∧ A0.heap.size ≤ A.heap.size
theorem KeepM.round {M : List Nat} {A0 A B : World} {C C' : Nat → Prop} (h : KeepM M A0 C A) (hc : ∀ k, C' k → C k ∨ A.heap.size ≤ k) (hk : KeepsO C A B) : KeepM M A0 C' B :=
  ⟨fun k hm => by
    obtain ⟨h1, h2, h3⟩ := h.1 k hm
    refine ⟨h1, fun hk' => ?_, (hk.same k (by have := h.2; omega) h2).trans h3⟩
    rcases hc k hk' with h4 | h4
    · exact h2 h4
    · have := h.2; omega, Nat.le_trans h.2 hk.size⟩
theorem KeepM.below {M : List Nat} {A0 A B : World} {C : Nat → Prop} (h : KeepM M A0 C A) (hb : Below A.heap.size A B) : KeepM M A0 C B :=
  ⟨fun k hm => by obtain ⟨h1, h2, h3⟩ := h.1 k hm; exact ⟨h1, h2, (hb.block k (by have := h.2; omega)).trans h3⟩, Nat.le_trans h.2 hb.size⟩
theorem KeepM.cell {M : List Nat} {A0 A : World} {C : Nat → Prop} (h : KeepM M A0 C A) {b i : Nat} (hb : b ∈ M) {v : Value} (hv : A0.cell? ⟨b, i, none⟩ = some v) : A.cell? ⟨b, i, none⟩ = some v :=
  (World.cell?_of_block (h.1 b hb).2.2).trans hv
theorem KeepM.grown {M : List Nat} {A0 A B : World} {C : Nat → Prop} {row : Option Nat} (h : KeepM M A0 C A) (hg : A.grownBy B row) (hr : ∀ r, row = some r → A0.heap.size ≤ r) : KeepM M A0 C B :=
  ⟨fun k hm => by
    obtain ⟨h1, h2, h3⟩ := h.1 k hm
    exact ⟨h1, h2, (hg.block k (by have := h.2; omega) (fun e => by have := hr k e.symm; omega)).trans h3⟩, Nat.le_trans h.2 hg.size⟩

set_option maxRecDepth 100000 in
set_option maxHeartbeats 4000000 in
theorem edges1_none (d s e f u o F T : Int) (sm : Bool) (hs hw hz : Nat) (w : World)
    (c0 : w.cell? ⟨hs, 0, none⟩ = some (.int .i64 F)) (c1 : w.cell? ⟨hs, 1, none⟩ = some (.int .i64 T)) (bs : hs < w.heap.size) (hFT : T < F) :
    SeqC Tryd.prog 42 #[.pointer (some ⟨hs, 0, none⟩), .pointer (some ⟨hw, 0, none⟩), .pointer (some ⟨hz, 0, none⟩)] (fun k => k = hs ∨ k = hw ∨ k = hz)
      (fun xs => xs = edL d s e o sm F T) (fun pre => pre <+: edL d s e o sm F T) w := by
  intro l J Jx W C0 hW hl wfJ wfX abJ abX hY h0 hC0
  have C1 := (hW.cell (p := ⟨hs, 0, none⟩) bs).trans c0
  have C2 := (hW.cell (p := ⟨hs, 1, none⟩) bs).trans c1
  have hsW : hs < W.heap.size := Nat.lt_of_lt_of_le bs hW.size
  have HE : Hid ([] = edL d s e o sm F T) := Lib.hid (by unfold edL; rw [if_pos hFT])
  have HJ := Lib.hid (abJ _ _ _ _ h0 (KeepsC.of_below (b_new W (.cells #[.func (.yield l) #[] #[]] 59))))
  refine (callsIn_wide (n := 5)).1 (callsIn_of_wp_marks Tryd.func42 rfl trivial ?_ rfl)
  simp only [Tryd.ntmps42, List.size_toArray, List.length_cons, List.length_nil, Nat.reduceAdd, Nat.reduceSub, Array.replicate_succ, Array.replicate_zero, List.push_toArray, List.append_toArray, List.nil_append, List.cons_append]
  clear hY abJ abX wfJ wfX hC0 h0 c0 c1 hW
  gi_wp2
  refine ⟨fun _ h => (by cases h), ?_⟩
  gi_wp2
  refine ⟨_, results_none rfl _ _ _, ⟨_, rfl⟩, .inl ⟨_, C0, rfl, ?_⟩⟩
  rw [← HE.out]
  exact HJ.out

theorem KeepM.start (M : List Nat) (W : World) (C : Nat → Prop) (h : ∀ k ∈ M, k < W.heap.size ∧ ¬ C k) : KeepM M W C W := ⟨fun k hk => ⟨(h k hk).1, (h k hk).2, rfl⟩, Nat.le_refl _⟩

set_option maxRecDepth 100000 in
set_option maxHeartbeats 4000000 in
theorem edges1_alw (d s e f u o F T : Int) (sm : Bool) (hs hw hz : Nat) (w : World)
    (c0 : w.cell? ⟨hs, 0, none⟩ = some (.int .i64 F)) (c1 : w.cell? ⟨hs, 1, none⟩ = some (.int .i64 T)) (bs : hs < w.heap.size) (bw : hw < w.heap.size)
    (w0 : w.cell? ⟨hw, 0, none⟩ = some (.int .i64 d)) (w1 : w.cell? ⟨hw, 1, none⟩ = some (.int .i64 s)) (w2 : w.cell? ⟨hw, 2, none⟩ = some (.int .i64 e)) (w3 : w.cell? ⟨hw, 3, none⟩ = some (.int .i64 f)) (w4 : w.cell? ⟨hw, 4, none⟩ = some (.int .i64 u))
    (hFT : F ≤ T) (ha : alwB d s e = true) :
    SeqC Tryd.prog 42 #[.pointer (some ⟨hs, 0, none⟩), .pointer (some ⟨hw, 0, none⟩), .pointer (some ⟨hz, 0, none⟩)] (fun k => k = hs ∨ k = hw ∨ k = hz)
      (fun xs => xs = edL d s e o sm F T) (fun pre => pre <+: edL d s e o sm F T) w := by
  intro l J Jx W C0 hW hl wfJ wfX abJ abX hY h0 hC0
  have HE : Hid (edL d s e o sm F T = F :: (if F < T then [T] else [])) := Lib.hid (by unfold edL; rw [if_neg (by omega), if_pos ha]; rfl)
  obtain ⟨W1, hW1⟩ : ∃ W1, W.alloc (.cells #[.func (.yield l) #[] #[]] 59) = W1 := ⟨_, rfl⟩
  have hb1 : Below W.heap.size W W1 := by rw [← hW1]; exact b_new _ _
  have hs1 : W1.heap.size = W.heap.size + 1 := by rw [← hW1]; simp
  have hbw : Below w.heap.size w W1 := hW.trans (hb1.mono hW.size)
  have C1 := (hbw.cell (p := ⟨hs, 0, none⟩) bs).trans c0
  have C2 := (hbw.cell (p := ⟨hs, 1, none⟩) bs).trans c1
  have D0 := (hbw.cell (p := ⟨hw, 0, none⟩) bw).trans w0
  have D1 := (hbw.cell (p := ⟨hw, 1, none⟩) bw).trans w1
  have D2 := (hbw.cell (p := ⟨hw, 2, none⟩) bw).trans w2
  have D3 := (hbw.cell (p := ⟨hw, 3, none⟩) bw).trans w3
  have D4 := (hbw.cell (p := ⟨hw, 4, none⟩) bw).trans w4
  have CY : W1.cell? ⟨W.heap.size, 0, none⟩ = some (.func (.yield l) #[] #[]) := by rw [← hW1]; simp [go_sem]
  have hsz := hW.size
  have M1 : KeepM [hs, hw, W.heap.size] W1 C0 W1 := KeepM.start _ _ _ (by
    intro k hk
    simp only [List.mem_cons, List.not_mem_nil, or_false] at hk
    rcases hk with rfl | rfl | rfl
    · exact ⟨by omega, fun h => (hC0 _ h).2 (.inl rfl)⟩
    · exact ⟨by omega, fun h => (hC0 _ h).2 (.inr (.inl rfl))⟩
    · exact ⟨by omega, fun h => by have := (hC0 _ h).1; omega⟩)
  have J1 := abJ _ _ _ _ h0 (KeepsC.of_below hb1)
  refine (callsIn_wide (n := 5)).1 (callsIn_of_wp_marks Tryd.func42 rfl trivial ?_ rfl)
  simp only [Tryd.ntmps42, List.size_toArray, List.length_cons, List.length_nil, Nat.reduceAdd, Nat.reduceSub, Array.replicate_succ, Array.replicate_zero, List.push_toArray, List.append_toArray, List.nil_append, List.cons_append]
  obtain ⟨fn1, tm1, as1, bo1, hy1, hR1⟩ := hY 4 [] C0 F W1 J1
  have HS := Lib.hid hs1
  have HCELLS := Lib.hid (And.intro C1 (And.intro C2 (And.intro CY (And.intro D0 (And.intro D1 (And.intro D2 (And.intro D3 D4)))))))
  clear hb1 hbw c0 c1 w0 w1 w2 w3 w4 hW hC0 h0 hs1
  gi_wp2
  refine hR1.mono ?_
  rintro e5 W2 ⟨C', hc', hk', (⟨rfl, hJ'⟩ | ⟨rfl, hX'⟩)⟩
  · have M2 := M1.round hc' hk'
    obtain ⟨x1, x2, x3, x4, x5, x6, x7, x8⟩ := HCELLS.out
    clear C1 C2 CY D0 D1 D2 D3 D4
    have C1 := M2.cell (b := hs) (by simp) x1
    have C2 := M2.cell (b := hs) (by simp) x2
    have CY := M2.cell (b := W.heap.size) (by simp) x3
    have D0 := M2.cell (b := hw) (by simp) x4
    have D1 := M2.cell (b := hw) (by simp) x5
    have D2 := M2.cell (b := hw) (by simp) x6
    have D3 := M2.cell (b := hw) (by simp) x7
    have D4 := M2.cell (b := hw) (by simp) x8
    have AA := Lib.hid (always_any d s e f u W2)
    rw [ha] at AA
    clear x1 x2 x3 x4 x5 x6 x7 x8 hk' hc' hR1 hy1 hW1
    gi_wp2_with fail
    refine ⟨trivial, ?_⟩
    refine (callsIn_wide.2 AA.out).mono ?_
    rintro e6 W3 ⟨rfl, b3⟩
    have M3 := M2.below b3
    have J3 := abJ _ _ _ _ hJ' (KeepsC.of_below b3)
    obtain ⟨x1, x2, x3, _⟩ := HCELLS.out
    clear C1 C2 CY
    have C1 := M3.cell (b := hs) (by simp) x1
    have C2 := M3.cell (b := hs) (by simp) x2
    have CY := M3.cell (b := W.heap.size) (by simp) x3
    clear x1 x2 x3 b3 AA D0 D1 D2 D3 D4
    by_cases hlt : F < T
    · have HE2 : Hid (edL d s e o sm F T = [F] ++ [T]) := Lib.hid (by rw [HE.out, if_pos hlt]; rfl)
      obtain ⟨fn2, tm2, as2, bo2, hy2, hR2⟩ := hY 4 _ C' T W3 J3
      gi_wp2
      refine hR2.mono ?_
      rintro e7 W4 ⟨C4, hc4, hk4, (⟨rfl, hJ4⟩ | ⟨rfl, hX4⟩)⟩
      · clear hk4 hc4 hR2 hy2
        gi_wp2
        exact ⟨_, results_none rfl _ _ _, ⟨_, rfl⟩, .inl ⟨_, C4, HE2.out.symm, hJ4⟩⟩
      · gi_wp2
        exact ⟨_, results_none rfl _ _ _, ⟨_, rfl⟩, .inr ⟨_, C4, by rw [HE2.out]; exact List.prefix_refl _, hX4⟩⟩
    · have HE2 : Hid (edL d s e o sm F T = [F]) := Lib.hid (by rw [HE.out, if_neg hlt])
      gi_wp2
      exact ⟨_, results_none rfl _ _ _, ⟨_, rfl⟩, .inl ⟨_, C', HE2.out.symm, J3⟩⟩
  · gi_wp2
    refine ⟨_, results_none rfl _ _ _, ⟨_, rfl⟩, .inr ⟨_, C', ?_, hX'⟩⟩
    rw [HE.out]
    exact List.prefix_append [F] _
end Go.Proofs.YtmapkiefmbgdoabDoor
