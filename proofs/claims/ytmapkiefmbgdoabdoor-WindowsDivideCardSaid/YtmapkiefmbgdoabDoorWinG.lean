/-
  A loop over an iterator that itself loops over an iterator: what the two sides promise each other, by the blocks that a round may write.
-/
import Derived.Test.YtmapkiefmbgdoabDoorWinF
import Derived.RangeFuncNested
import Derived.RangeFuncBound
import Derived.RangeFuncCalls
import Derived.RangeFuncLeaves
import Derived.Shelf.Abstract
import Derived.Shelf.RegionOpen
import Derived.OwnWalkIn
import Derived.TacticsInMore
import Derived.LoopNIn
import Derived.LoopIn
namespace Go.Proofs.YtmapkiefmbgdoabDoor
open Go.RowKit

/-- A round wrote blocks of C alone, and new ones. -/
structure KeepsO (C : Nat → Prop) (A B : World) : Prop where
  os : B.os = A.os
  tape : B.tape = A.tape
  output : B.output = A.output
  size : A.heap.size ≤ B.heap.size
  same : ∀ k, k < A.heap.size → ¬ C k → B.heap[k]? = A.heap[k]?
/-- A step of the iterator wrote neither blocks below h nor blocks of C. -/
structure KeepsC (h : Nat) (C : Nat → Prop) (A B : World) : Prop where
  os : B.os = A.os
  tape : B.tape = A.tape
  output : B.output = A.output
  size : A.heap.size ≤ B.heap.size
  same : ∀ k, k < A.heap.size → (k < h ∨ C k) → B.heap[k]? = A.heap[k]?
theorem KeepsC.refl (h : Nat) (C : Nat → Prop) (A : World) : KeepsC h C A A := ⟨rfl, rfl, rfl, Nat.le_refl _, fun _ _ _ => rfl⟩
theorem KeepsC.trans {h : Nat} {C : Nat → Prop} {X Y Z : World} (a : KeepsC h C X Y) (b : KeepsC h C Y Z) : KeepsC h C X Z :=
  ⟨b.os.trans a.os, b.tape.trans a.tape, b.output.trans a.output, Nat.le_trans a.size b.size, fun k hk hc => (b.same k (Nat.lt_of_lt_of_le hk a.size) hc).trans (a.same k hk hc)⟩
theorem KeepsO.refl (C : Nat → Prop) (A : World) : KeepsO C A A := ⟨rfl, rfl, rfl, Nat.le_refl _, fun _ _ _ => rfl⟩
theorem KeepsO.of_below {C : Nat → Prop} {A B : World} (h : Below A.heap.size A B) : KeepsO C A B := ⟨h.os, h.tape, h.output, h.size, fun k hk _ => h.block k hk⟩
theorem KeepsC.of_below {n : Nat} {C : Nat → Prop} {A B : World} (h : Below A.heap.size A B) : KeepsC n C A B := ⟨h.os, h.tape, h.output, h.size, fun k hk _ => h.block k hk⟩
theorem KeepsC.of_grown {n : Nat} {C : Nat → Prop} {A B : World} {row : Option Nat} (h : A.grownBy B row) (hr : ∀ r, row = some r → n ≤ r ∧ ¬ C r) : KeepsC n C A B :=
  ⟨h.os, h.tape, h.output, h.size, fun k hk hc => h.block k hk (fun e => by obtain ⟨h1, h2⟩ := hr k e.symm; exact hc.elim (fun hc => by omega) h2)⟩
/-- What can be said of blocks that hold no cells and lie at or beyond h: C has none. -/
def CWf (h : Nat) (C : Nat → Prop) (A : World) : Prop := ∀ k, C k → k < h ∨ ∃ o : Obj, A.heap[k]? = some o ∧ o.isCells = true

/-- The contract of an iterator over integers whose captured blocks are Cap. -/
def SeqC (P : Program) (g : Nat) (lb : Array Value) (Cap : Nat → Prop) (S Sp : List Int → Prop) (w : World) : Prop :=
  ∀ (l : Nat) (J Jx : List Int → (Nat → Prop) → World → Prop) (W : World) (C0 : Nat → Prop), Below w.heap.size w W → l < W.heap.size →
    (∀ pre C A, J pre C A → CWf W.heap.size C A) → (∀ pre C A, Jx pre C A → CWf W.heap.size C A) →
    (∀ pre C A B, J pre C A → KeepsC W.heap.size C A B → J pre C B) → (∀ pre C A B, Jx pre C A → KeepsC W.heap.size C A B → Jx pre C B) →
    (∀ m pre C x W1, J pre C W1 → YieldAt Fence.wide m P l #[.int .i64 x] W1 fun e W' => ∃ C' : Nat → Prop, (∀ k, C' k → C k ∨ W1.heap.size ≤ k) ∧ KeepsO C W1 W' ∧
      ((e = .returned (.bool true) ∧ J (pre ++ [x]) C' W') ∨ (e = .returned (.bool false) ∧ Jx (pre ++ [x]) C' W'))) →
    J [] C0 W → (∀ k, C0 k → k < W.heap.size ∧ ¬ Cap k) →
    Calls P g (#[.func (.yield l) #[] #[]] ++ lb) W fun e W' => (∃ v, e = .returned v) ∧ ((∃ xs C, S xs ∧ J xs C W') ∨ (∃ pre C, Sp pre ∧ Jx pre C W'))

/-- How the body of a round may be left. -/
def postC (I : List Int → (Nat → Prop) → World → Prop) (Ix : Code → List Int → (Nat → Prop) → World → Prop) (xs : List Int) (C : Nat → Prop) (W : World) : Exit → Act → World → Prop
  | .normal, _, W' => ∃ C' : Nat → Prop, (∀ k, C' k → C k ∨ W.heap.size ≤ k) ∧ KeepsO C W W' ∧ I xs C' W'
  | .ret, _, W' => ∃ C' : Nat → Prop, (∀ k, C' k → C k ∨ W.heap.size ≤ k) ∧ KeepsO C W W' ∧ Ix .ret xs C' W'
  | .exit id, _, W' => ∃ C' : Nat → Prop, (∀ k, C' k → C k ∨ W.heap.size ≤ k) ∧ KeepsO C W W' ∧ Ix (.exit id) xs C' W'
  | .goto t, _, W' => ∃ C' : Nat → Prop, (∀ k, C' k → C k ∨ W.heap.size ≤ k) ∧ KeepsO C W W' ∧ Ix (.goto t) xs C' W'
  | .panic _, _, _ => False
  | .outgrown, _, _ => False

variable {n : Nat} {P : Program}

theorem put_os (W : World) (l : Nat) (o : Obj) : (W.putObj l o).os = W.os ∧ (W.putObj l o).tape = W.tape ∧ (W.putObj l o).output = W.output := ⟨rfl, rfl, rfl⟩
theorem KeepsC.put {h l : Nat} {C : Nat → Prop} (W : World) (o : Obj) (hl : h ≤ l) (hc : ¬ C l) : KeepsC h C W (W.putObj l o) :=
  ⟨rfl, rfl, rfl, by simp, fun k _ hk => World.putObj_heap_other (fun e => by subst e; exact hk.elim (fun hk => by omega) hc)⟩

/-- The loop of a caller. -/
theorem rangeFunc_C {g : Operand} {ps : Array Tmp} {assign body : Code} {Q : Exit → Act → World → Prop} {a : Act} {w : World} {gf : Nat} {lb : Array Value}
    (h1 : 1 ≤ n) (hg : a.eval g = .func (.func gf) #[] lb) (eg : ∀ args w, (callFunc gf args).run P w = .ok (.enter gf args) w) {Cap : Nat → Prop} {S Sp : List Int → Prop} {w0 : World}
    (hseq : SeqC P gf lb Cap S Sp w0) (hb0 : Below w0.heap.size w0 w) (hps : ps.size = 1)
    (I : List Int → (Nat → Prop) → World → Prop) (Ix : Code → List Int → (Nat → Prop) → World → Prop) (C0 : Nat → Prop)
    (hcap : ∀ k, Cap k → k < w.heap.size)
    (hwf : ∀ pre C A, I pre C A → CWf w.heap.size C A) (hwfx : ∀ c pre C A, Ix c pre C A → CWf w.heap.size C A)
    (hI : ∀ pre C A B, I pre C A → KeepsC w.heap.size C A B → I pre C B) (hIx : ∀ c pre C A B, Ix c pre C A → KeepsC w.heap.size C A B → Ix c pre C B)
    (h0 : I [] C0 w) (hC0 : ∀ k, C0 k → k < w.heap.size ∧ ¬ Cap k) (a₁ : Int → Act)
    (hassign : ∀ (m l : Nat) (x : Int) (W : World) (K : Act → World → Prop), K (a₁ x) W →
      assign.wpIn (Fence.wide.inRound l) m P (Exit.then K (fun _ _ _ => False)) { tmps := (ps.zip #[.int .i64 x]).foldl (fun t (p, v) => t.setIfInBounds p v) a.tmps, defers := [] } W)
    (hbody : ∀ (m l : Nat) (pre : List Int) (C : Nat → Prop) (x : Int) (W : World), I pre C W → body.wpIn (Fence.wide.inRound l) m P (postC I Ix (pre ++ [x]) C W) (a₁ x) W)
    (hdone : ∀ (D : Nat) (xs : List Int) (C : Nat → Prop) (W : World), w.heap.size ≤ D → ¬ C D → S xs → I xs C W → W.heap[D]? = some (.deferred (some [])) → Q .normal { a with defers := { target := .collected D, args := #[] } :: a.defers } W)
    (hstop : ∀ (D : Nat) (c : Code) (pre : List Int) (C : Nat → Prop) (W : World), w.heap.size ≤ D → ¬ C D → Sp pre → Ix c pre C W → W.heap[D]? = some (.deferred (some [])) → c.wpIn Fence.wide n P Q { a with defers := { target := .collected D, args := #[] } :: a.defers } W) :
    (Code.rangeFunc g ps assign body).wpIn Fence.wide n P Q a w := by
  refine wpIn_rangeFunc ?_
  intro fn hfn
  obtain ⟨rec, hrec⟩ : ∃ rec : LoopState → Option Code → Loop, rec = fun st pe => { state := st, pending := pe, fn, tmps := a.tmps, params := ps, assign, body, defers := w.heap.size } := ⟨_, rfl⟩
  obtain ⟨W1, hW1⟩ : ∃ W1, (w.alloc (.deferred (some []))).alloc (.loop (rec .ready none)) = W1 := ⟨_, rfl⟩
  have hL1 : W1.heap[w.heap.size + 1]? = some (.loop (rec .ready none)) := by
    rw [← hW1]; have := World.alloc_heap_new (w.alloc (.deferred (some []))) (.loop (rec .ready none)); rwa [World.size_alloc] at this
  have hK1 : W1.heap[w.heap.size]? = some (.deferred (some [])) := by
    rw [← hW1]; exact (Below.heap_alloc _ _ _ (by simp)).trans (World.alloc_heap_new w _)
  have hbw : Below w.heap.size w W1 := by rw [← hW1]; exact ((Below.refl _ w).alloc (Nat.le_refl _) _).alloc (by simp) _
  have hs1 : W1.heap.size = w.heap.size + 2 := by rw [← hW1]; simp
  -- no block of C lies where the record or the other block lies
  have away : ∀ {C : Nat → Prop} {A : World} {k : Nat} {o : Obj}, CWf w.heap.size C A → w.heap.size ≤ k → A.heap[k]? = some o → o.isCells = false → ¬ C k := fun hw hk ho hc h => by
    rcases hw _ h with h | ⟨o', ho', hc'⟩
    · omega
    · rw [ho] at ho'; cases ho'; rw [hc] at hc'; cases hc'
  refine ⟨w.heap.size + 1, [{ target := .collected w.heap.size, args := #[] }], W1, { target := .fn (.func gf) lb, args := #[.func (.yield (w.heap.size + 1)) #[] #[]] }, W1, gf,
    #[.func (.yield (w.heap.size + 1)) #[] #[]] ++ lb, W1, ?_, ?_, ?_, ?_, fun _ => h1, callsIn_wide.2 ?_⟩
  · rw [← hW1, hrec]; exact run_enterLoop_outer _ _ _ _ _
  · simp only [resolve, hg]
    simp [go_sem]
  · intro f' _; trivial
  · simp [invoke, go_sem, eg]
  · refine (hseq (w.heap.size + 1)
      (fun pre C A => ∃ Cu, (∀ k, C k ↔ Cu k ∨ k = w.heap.size + 1) ∧ I pre Cu A ∧ A.heap[w.heap.size + 1]? = some (.loop (rec .ready none)) ∧ A.heap[w.heap.size]? = some (.deferred (some [])))
      (fun pre C A => ∃ Cu c, (∀ k, C k ↔ Cu k ∨ k = w.heap.size + 1) ∧ Ix c pre Cu A ∧ A.heap[w.heap.size + 1]? = some (.loop (rec .done (some c))) ∧ A.heap[w.heap.size]? = some (.deferred (some [])))
      W1 (fun k => C0 k ∨ k = w.heap.size + 1) (hb0.trans (hbw.mono hb0.size)) (by omega) ?_ ?_ ?_ ?_ ?_ ?_ ?_).mono ?_
    · rintro pre C A ⟨Cu, hC, hi, _, _⟩ k hk
      rcases (hC k).1 hk with hk | rfl
      · rcases hwf _ _ _ hi k hk with h | h
        · exact .inl (by omega)
        · exact .inr h
      · exact .inl (by omega)
    · rintro pre C A ⟨Cu, c, hC, hi, _, _⟩ k hk
      rcases (hC k).1 hk with hk | rfl
      · rcases hwfx _ _ _ _ hi k hk with h | h
        · exact .inl (by omega)
        · exact .inr h
      · exact .inl (by omega)
    · rintro pre C A B ⟨Cu, hC, hi, hl, hd⟩ hk
      refine ⟨Cu, hC, hI _ _ _ _ hi ⟨hk.os, hk.tape, hk.output, hk.size, fun k h1 h2 => hk.same k h1 ?_⟩, (hk.same _ (Array.getElem?_eq_some_iff.1 hl).1 (.inl (by omega))).trans hl, (hk.same _ (Array.getElem?_eq_some_iff.1 hd).1 (.inl (by omega))).trans hd⟩
      rcases h2 with h2 | h2
      · exact .inl (by omega)
      · exact .inr ((hC k).2 (.inl h2))
    · rintro pre C A B ⟨Cu, c, hC, hi, hl, hd⟩ hk
      refine ⟨Cu, c, hC, hIx _ _ _ _ _ hi ⟨hk.os, hk.tape, hk.output, hk.size, fun k h1 h2 => hk.same k h1 ?_⟩, (hk.same _ (Array.getElem?_eq_some_iff.1 hl).1 (.inl (by omega))).trans hl, (hk.same _ (Array.getElem?_eq_some_iff.1 hd).1 (.inl (by omega))).trans hd⟩
      rcases h2 with h2 | h2
      · exact .inl (by omega)
      · exact .inr ((hC k).2 (.inl h2))
    · -- one round
      rintro m pre C x W ⟨Cu, hC, hi, hl, hd⟩
      have hlt : w.heap.size + 1 < W.heap.size := (Array.getElem?_eq_some_iff.1 hl).1
      have hy := run_yield (P := P) (args := #[.int .i64 x]) hl (by rw [hrec]; simp [hps])
      rw [hrec] at hy
      refine ⟨fn, _, assign, body, hy, roundIn_of_wpIn hfn (hassign _ _ x W _ ⟨_, run_beginRound hl (by rw [hrec]), ?_⟩)⟩
      have nl : ¬ Cu (w.heap.size + 1) := away (hwf _ _ _ hi) (by omega) hl rfl
      have nd : ¬ Cu w.heap.size := away (hwf _ _ _ hi) (Nat.le_refl _) hd rfl
      obtain ⟨W2, hW2⟩ : ∃ W2, W.putObj (w.heap.size + 1) (.loop { rec .ready none with state := .busy }) = W2 := ⟨_, rfl⟩
      have hl2 : W2.heap[w.heap.size + 1]? = some (.loop { rec .ready none with state := .busy }) := by rw [← hW2]; exact World.putObj_heap_same hlt
      have hd2 : W2.heap[w.heap.size]? = some (.deferred (some [])) := by rw [← hW2]; exact (World.putObj_heap_other (by omega)).trans hd
      have hs2 : W2.heap.size = W.heap.size := by rw [← hW2]; simp
      have hk2 : KeepsC w.heap.size Cu W W2 := by rw [← hW2]; exact KeepsC.put W _ (by omega) nl
      have hi2 := hI _ _ _ _ hi hk2
      rw [hW2]
      refine wpIn_mono (hbody m _ pre Cu x W2 hi2) ?_
      have fin : ∀ (jump : Option Code) (C' : Nat → Prop) (W3 : World), (∀ k, C' k → Cu k ∨ W2.heap.size ≤ k) → KeepsO Cu W2 W3 →
          ∃ W4, (Instr.endRound (w.heap.size + 1) jump).run P W3 = .ok (.bool jump.isNone) W4 ∧ KeepsC w.heap.size C' W3 W4 ∧ (∀ k, (C' k ∨ k = w.heap.size + 1) → C k ∨ W.heap.size ≤ k) ∧ KeepsO C W W4 ∧
          W4.heap[w.heap.size + 1]? = some (.loop (rec (if jump.isNone then .ready else .done) jump)) ∧ W4.heap[w.heap.size]? = some (.deferred (some [])) := fun jump C' W3 hc' hk3 => by
        have hl3 := (hk3.same _ (by omega) nl).trans hl2
        have hd3 := (hk3.same _ (by omega) nd).trans hd2
        have he := run_endRound (P := P) jump hl3
        refine ⟨W3.putObj (w.heap.size + 1) (.loop (rec (if jump.isNone then .ready else .done) jump)), ?_, KeepsC.put W3 _ (by omega) (fun h => ?_), ?_, ?_, World.putObj_heap_same (Array.getElem?_eq_some_iff.1 hl3).1, (World.putObj_heap_other (by omega)).trans hd3⟩
        · rw [hrec] at he ⊢; exact he
        · rcases hc' _ h with h | h
          · exact nl h
          · omega
        · rintro k (h | rfl)
          · rcases hc' k h with h | h
            · exact .inl ((hC k).2 (.inl h))
            · exact .inr (by omega)
          · exact .inl ((hC _).2 (.inr rfl))
        · refine ⟨?_, ?_, ?_, ?_, fun k hk hn => ?_⟩
          · rw [(put_os _ _ _).1, hk3.os, hk2.os]
          · rw [(put_os _ _ _).2.1, hk3.tape, hk2.tape]
          · rw [(put_os _ _ _).2.2, hk3.output, hk2.output]
          · have := hk3.size; simp; omega
          · have n1 : ¬ Cu k := fun h => hn ((hC k).2 (.inl h))
            have n2 : k ≠ w.heap.size + 1 := fun h => hn ((hC k).2 (.inr h))
            rw [World.putObj_heap_other n2, hk3.same k (by omega) n1, ← hW2, World.putObj_heap_other n2]
      rintro e a3 W3 hp
      cases e with
      | normal =>
        obtain ⟨C', hc', hk3, hi3⟩ := hp
        obtain ⟨W4, q1, q2, q3, q4, q5, q6⟩ := fin none C' W3 hc' hk3
        exact ⟨_, W4, q1, fun k => C' k ∨ k = w.heap.size + 1, q3, q4, .inl ⟨rfl, C', fun k => Iff.rfl, hI _ _ _ _ hi3 q2, q5, q6⟩⟩
      | ret =>
        obtain ⟨C', hc', hk3, hi3⟩ := hp
        obtain ⟨W4, q1, q2, q3, q4, q5, q6⟩ := fin (some .ret) C' W3 hc' hk3
        exact ⟨_, W4, q1, fun k => C' k ∨ k = w.heap.size + 1, q3, q4, .inr ⟨rfl, C', .ret, fun k => Iff.rfl, hIx _ _ _ _ _ hi3 q2, q5, q6⟩⟩
      | exit id =>
        obtain ⟨C', hc', hk3, hi3⟩ := hp
        obtain ⟨W4, q1, q2, q3, q4, q5, q6⟩ := fin (some (.exit id)) C' W3 hc' hk3
        exact ⟨_, W4, q1, fun k => C' k ∨ k = w.heap.size + 1, q3, q4, .inr ⟨rfl, C', .exit id, fun k => Iff.rfl, hIx _ _ _ _ _ hi3 q2, q5, q6⟩⟩
      | goto t =>
        obtain ⟨C', hc', hk3, hi3⟩ := hp
        obtain ⟨W4, q1, q2, q3, q4, q5, q6⟩ := fin (some (.goto t)) C' W3 hc' hk3
        exact ⟨_, W4, q1, fun k => C' k ∨ k = w.heap.size + 1, q3, q4, .inr ⟨rfl, C', .goto t, fun k => Iff.rfl, hIx _ _ _ _ _ hi3 q2, q5, q6⟩⟩
      | panic ch => exact hp.elim
      | outgrown => exact hp.elim
    · exact ⟨C0, fun k => Iff.rfl, hI _ _ _ _ h0 (KeepsC.of_below hbw), hL1, hK1⟩
    · rintro k (h | rfl)
      · exact ⟨by have := (hC0 k h).1; omega, (hC0 k h).2⟩
      · exact ⟨by omega, fun h => by have := hcap _ h; omega⟩
    · rintro e W2 ⟨⟨v, rfl⟩, ⟨xs, C, hS, Cu, hC, hi, hl, hd⟩ | ⟨pre, C, hSp, Cu, c, hC, hi, hl, hd⟩⟩
      · have nl : ¬ Cu (w.heap.size + 1) := away (hwf _ _ _ hi) (by omega) hl rfl
        have nd : ¬ Cu w.heap.size := away (hwf _ _ _ hi) (Nat.le_refl _) hd rfl
        exact ⟨none, _, by have := run_endLoop (P := P) hl (by rw [hrec]; simp); rw [hrec] at this; exact this, hdone _ xs Cu _ (Nat.le_refl _) nd hS (hI _ _ _ _ hi (KeepsC.put W2 _ (by omega) nl)) ((World.putObj_heap_other (by omega)).trans hd)⟩
      · have nl : ¬ Cu (w.heap.size + 1) := away (hwfx _ _ _ _ hi) (by omega) hl rfl
        have nd : ¬ Cu w.heap.size := away (hwfx _ _ _ _ hi) (Nat.le_refl _) hd rfl
        exact ⟨some c, _, by have := run_endLoop (P := P) hl (by rw [hrec]; simp); rw [hrec] at this; exact this, hstop _ c pre Cu _ (Nat.le_refl _) nd hSp (hIx _ _ _ _ _ hi (KeepsC.put W2 _ (by omega) nl)) ((World.putObj_heap_other (by omega)).trans hd)⟩
end Go.Proofs.YtmapkiefmbgdoabDoor
