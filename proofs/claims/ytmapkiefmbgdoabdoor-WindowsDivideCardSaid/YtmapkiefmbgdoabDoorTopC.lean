/-
  Spans appended to a row of the call's own, in a region that draws its order.
-/
import Derived.Test.YtmapkiefmbgdoabDoorTopB
import Derived.Deep.AppendLies
import Derived.Laws.OwnMore
import Derived.OwnWalk
import Derived.Deep.Onto
namespace Go.Proofs.YtmapkiefmbgdoabDoor
namespace Top
open Go.RowKit
set_option linter.unusedVariables false

section
variable {P : Program}
theorem app_some (w : World) (base : Nat) (t ty e : TypeId) (i : TypeInfo) (z : Value) (size bytes : Nat) (ht : P.underlying t = some (.slice e)) (hi : P.info? e = some i) (hz : i.zero = some z)
    (hsize : i.size = size) (hby : i.bytes = bytes) (hzs : z.cells.size = size) (hsz : 0 < size)
    (v : Value) (n : Nat) (xs : List Value) (hown : w.ownsRow base e size v n xs) (hv : v ≠ .slice none 0 0)
    (sv : Value) (m : Nat) (news : List Value) (hsrc : (sv = .slice none 0 0 ∧ m = 0) ∨ ∃ ad c, sv = .slice (some ad) m c ∧ ∀ j u, news[j]? = some u → w.cell? (ad.add j) = some u)
    (hl : news.length = m * size) (h1 : ∀ u ∈ news, u.oneCell' = true) (h63 : n + m ≤ maxLen) (hbytes : (n + m) * bytes ≤ 140737488355328) (hbase : base ≤ w.heap.size) (H : Nat) (hH : w.heap.size = H) :
    ∃ g cap w', (Builtin.append_ #[t, t] ty #[v, sv]).run P w = .ok (.slice (some ⟨g, 0, none⟩) (n + m) cap) w' ∧ w'.ownsRow base e size (.slice (some ⟨g, 0, none⟩) (n + m) cap) (n + m) (xs ++ news) ∧ w.grownBy w' v.ownBlock ∧ (v.ownBlock = some g ∨ g = H) ∧ g < w'.heap.size := by
  have form : ∀ (X : World) (y : Value) (k : Nat) (ys : List Value), X.ownsRow base e size y k ys → y ≠ .slice none 0 0 → ∃ g cap, y = .slice (some ⟨g, 0, none⟩) k cap ∧ g < X.heap.size := by
    intro X y k ys hy hne
    rcases hy.2 with ⟨h, _⟩ | ⟨g, cap, cur, hv, hb, hg, _⟩
    · exact absurd h hne
    · exact ⟨g, cap, hv, (Array.getElem?_eq_some_iff.1 hg).1⟩
  rcases hsrc with ⟨rfl, rfl⟩ | ⟨ad, c, rfl, hn⟩
  · have : news = [] := List.length_eq_zero_iff.1 (by rw [hl, Nat.zero_mul])
    subst this
    obtain ⟨g, cap, rfl, hg⟩ := form w v n xs hown hv
    refine ⟨g, cap, w, run_append_owned_none w base t ty e i size ht hi _ n xs hown, ?_, ⟨rfl, rfl, rfl, Nat.le_refl _, fun _ _ _ => rfl⟩, .inl rfl, hg⟩
    rw [List.append_nil, Nat.add_zero]; exact hown
  · obtain ⟨v', w', hr, h2, h3, h4, h5⟩ := run_append_own_at (P := P) w base t ty e i z size bytes ht hi hz hsize hby hzs hsz v n xs hown ad m c news hl hn h1 h63 hbytes hbase
    obtain ⟨g, cap, rfl, hg⟩ := form w' v' (n + m) (xs ++ news) h2 (fun h => hv (h4.1 h).1)
    refine ⟨g, cap, w', hr, h2, h3, ?_, hg⟩
    rcases h5 with h5 | h5
    · exact .inl (by rw [← h5]; rfl)
    · right
      have : g = w.heap.size := by simpa [Value.ownBlock] using h5
      rw [this, hH]
theorem wp_app (w : World) {o : Oper} {a : Act} {K : Act → World → Prop} {Q : Exit → Act → World → Prop} (s x : Operand) (t : TypeId)
    (ho : o.op = .call { callee := .builtin .append, args := #[s, x], argTypes := #[t, t] })
    (base : Nat) (e : TypeId) (i : TypeInfo) (z : Value) (size bytes : Nat) (ht : P.underlying t = some (.slice e)) (hi : P.info? e = some i) (hz : i.zero = some z)
    (hsize : i.size = size) (hby : i.bytes = bytes) (hzs : z.cells.size = size) (hsz : 0 < size)
    (v : Value) (hs : a.eval s = v) (n : Nat) (xs : List Value) (hown : w.ownsRow base e size v n xs) (hv : v ≠ .slice none 0 0)
    (sv : Value) (hx : a.eval x = sv) (m : Nat) (news : List Value) (hsrc : (sv = .slice none 0 0 ∧ m = 0) ∨ ∃ ad c, sv = .slice (some ad) m c ∧ ∀ j u, news[j]? = some u → w.cell? (ad.add j) = some u)
    (hl : news.length = m * size) (h1 : ∀ u ∈ news, u.oneCell' = true) (h63 : n + m ≤ maxLen) (hbytes : (n + m) * bytes ≤ 140737488355328) (hbase : base ≤ w.heap.size) (H : Nat) (hH : w.heap.size = H) (k : Nat) (hk : n + m = k)
    (h : ∀ g cap w', w'.ownsRow base e size (.slice (some ⟨g, 0, none⟩) k cap) k (xs ++ news) → w.grownBy w' v.ownBlock → (v.ownBlock = some g ∨ g = H) → g < w'.heap.size → K (a.put o.dst (.slice (some ⟨g, 0, none⟩) k cap)) w') : o.wp P a w K Q := by
  obtain ⟨g, cap, w', hr, h2, h3, h4, h5⟩ := app_some (P := P) w base t o.type e i z size bytes ht hi hz hsize hby hzs hsz v n xs hown hv sv m news hsrc hl h1 h63 hbytes hbase H hH
  subst hk
  unfold Oper.wp execOp
  simp only [ho, resolve, invoke, builtin, Sem.run_bind, Sem.run_pure, Result.andThen_ok, List.map_toArray, List.map_cons, List.map_nil, hs, hx, hr]
  exact h g cap w' h2 h3 h4 h5
theorem step_app (w : World) {ops : Array Oper} {o : Oper} {a : Act} {K : Act → World → Prop} {Q : Exit → Act → World → Prop} {E : Prop} (hgd : o.guard = none) (s x : Operand) (t : TypeId)
    (ho : o.op = .call { callee := .builtin .append, args := #[s, x], argTypes := #[t, t] })
    (base : Nat) (e : TypeId) (i : TypeInfo) (z : Value) (size bytes : Nat) (ht : P.underlying t = some (.slice e)) (hi : P.info? e = some i) (hz : i.zero = some z)
    (hsize : i.size = size) (hby : i.bytes = bytes) (hzs : z.cells.size = size) (hsz : 0 < size)
    (v : Value) (hs : a.eval s = v) (n : Nat) (xs : List Value) (hown : w.ownsRow base e size v n xs) (hv : v ≠ .slice none 0 0)
    (sv : Value) (hx : a.eval x = sv) (m : Nat) (news : List Value) (hsrc : (sv = .slice none 0 0 ∧ m = 0) ∨ ∃ ad c, sv = .slice (some ad) m c ∧ ∀ j u, news[j]? = some u → w.cell? (ad.add j) = some u)
    (hl : news.length = m * size) (h1 : ∀ u ∈ news, u.oneCell' = true) (h63 : n + m ≤ maxLen) (hbytes : (n + m) * bytes ≤ 140737488355328) (hbase : base ≤ w.heap.size) (H : Nat) (hH : w.heap.size = H) (k : Nat) (hk : n + m = k)
    (h : ∀ g cap w', w'.ownsRow base e size (.slice (some ⟨g, 0, none⟩) k cap) k (xs ++ news) → w.grownBy w' v.ownBlock → (v.ownBlock = some g ∨ g = H) → g < w'.heap.size → K (a.put o.dst (.slice (some ⟨g, 0, none⟩) k cap)) w') :
    if Region.wanted o (yielded ops a.tmps) = true then Oper.wp P o a w K Q else E := by
  have hw : Region.wanted o (yielded ops a.tmps) = true := by simp [Region.wanted, hgd]
  rw [if_pos hw]
  exact wp_app w s x t ho base e i z size bytes ht hi hz hsize hby hzs hsz v hs n xs hown hv sv hx m news hsrc hl h1 h63 hbytes hbase H hH k hk h
end

/-- What the region keeps: the value that came in, and the spans. -/
structure TS (w : World) (a0 a1 a2 a3 a4 a5 a6 a7 a8 a9 : Value) (n0 : Nat) (sv : Value) (l : List (Int × Int)) (X : World) : Prop where
  kv : KV w a0 a1 a2 a3 a4 a5 a6 a7 a8 a9 X
  own : OwnP X w.heap.size sv l
  lo : n0 ≤ X.heap.size
  blk : ∀ g, sv.ownBlock = some g → g < n0
  kl : w.heap.size < n0
theorem TS.of {w : World} {a0 a1 a2 a3 a4 a5 a6 a7 a8 a9 : Value} {sv : Value} {l : List (Int × Int)} {X : World} (h : KV w a0 a1 a2 a3 a4 a5 a6 a7 a8 a9 X) (o : OwnP X w.heap.size sv l) : TS w a0 a1 a2 a3 a4 a5 a6 a7 a8 a9 X.heap.size sv l X :=
  ⟨h, o, Nat.le_refl _, fun g hg => (o.1.lt g hg).2, h.l⟩
theorem KV.blocks {w X X' : World} {a0 a1 a2 a3 a4 a5 a6 a7 a8 a9 : Value} (g : KV w a0 a1 a2 a3 a4 a5 a6 a7 a8 a9 X) (hb : Below w.heap.size w X') (hs : X.heap.size ≤ X'.heap.size) (h0 : X'.heap[w.heap.size]? = X.heap[w.heap.size]?) : KV w a0 a1 a2 a3 a4 a5 a6 a7 a8 a9 X' := by
  obtain ⟨h, l0, c0, c1, c2, c3, c4, c5, c6, c7, c8, c9⟩ := g
  have hc : ∀ k, X'.cell? ⟨w.heap.size, k, none⟩ = X.cell? ⟨w.heap.size, k, none⟩ := fun k => World.cell?_of_block h0
  exact ⟨hb, by omega, by rw [hc]; exact c0, by rw [hc]; exact c1, by rw [hc]; exact c2, by rw [hc]; exact c3, by rw [hc]; exact c4, by rw [hc]; exact c5, by rw [hc]; exact c6, by rw [hc]; exact c7, by rw [hc]; exact c8, by rw [hc]; exact c9⟩
theorem TS.below {w X X' : World} {a0 a1 a2 a3 a4 a5 a6 a7 a8 a9 : Value} {n0 : Nat} {sv : Value} {l : List (Int × Int)} (h : TS w a0 a1 a2 a3 a4 a5 a6 a7 a8 a9 n0 sv l X) (b : Below X.heap.size X X') : TS w a0 a1 a2 a3 a4 a5 a6 a7 a8 a9 n0 sv l X' :=
  ⟨h.kv.below b, h.own.below b, Nat.le_trans h.lo b.size, h.blk, h.kl⟩
theorem TS.alloc {w X : World} {a0 a1 a2 a3 a4 a5 a6 a7 a8 a9 : Value} {n0 : Nat} {sv : Value} {l : List (Int × Int)} (h : TS w a0 a1 a2 a3 a4 a5 a6 a7 a8 a9 n0 sv l X) (o : Obj) : TS w a0 a1 a2 a3 a4 a5 a6 a7 a8 a9 n0 sv l (X.alloc o) := h.below (b_new _ _)
theorem TS.drew {w X : World} {a0 a1 a2 a3 a4 a5 a6 a7 a8 a9 : Value} {n0 : Nat} {sv : Value} {l : List (Int × Int)} (h : TS w a0 a1 a2 a3 a4 a5 a6 a7 a8 a9 n0 sv l X) : TS w a0 a1 a2 a3 a4 a5 a6 a7 a8 a9 n0 sv l X.drew := h.below (Below.refl _ _).drew
theorem TS.grown {w X X' : World} {a0 a1 a2 a3 a4 a5 a6 a7 a8 a9 : Value} {n0 : Nat} {sv : Value} {l : List (Int × Int)} (h : TS w a0 a1 a2 a3 a4 a5 a6 a7 a8 a9 n0 sv l X) {B : Nat} (hB : n0 ≤ B) (hg : X.grownBy X' (some B)) : TS w a0 a1 a2 a3 a4 a5 a6 a7 a8 a9 n0 sv l X' := by
  have hlo := h.lo
  have hkl := h.kl
  have hne : ∀ k, k < n0 → X'.heap[k]? = X.heap[k]? := fun k hk => hg.block k (by omega) (fun e => by have := Option.some.inj e; omega)
  refine ⟨h.kv.blocks ⟨hg.os.trans h.kv.b.os, hg.tape.trans h.kv.b.tape, hg.output.trans h.kv.b.output, Nat.le_trans h.kv.b.size hg.size, fun k hk => (hne k (by omega)).trans (h.kv.b.block k hk)⟩ hg.size (hne _ hkl), h.own.block hg.size (fun g e => hne g (h.blk g e)), Nat.le_trans hlo hg.size, h.blk, hkl⟩
theorem TS.pair {w X : World} {a0 a1 a2 a3 a4 a5 a6 a7 a8 a9 : Value} {n0 : Nat} {sv : Value} {l : List (Int × Int)} (h : TS w a0 a1 a2 a3 a4 a5 a6 a7 a8 a9 n0 sv l X) : TS w a0 a1 a2 a3 a4 a5 a6 a7 a8 a9 n0 sv l X ∧ X.cell? ⟨w.heap.size, 9, none⟩ = some a9 := ⟨h, h.kv.c9⟩
/-- The spans, as what is appended. -/
theorem TS.src {w X : World} {a0 a1 a2 a3 a4 a5 a6 a7 a8 a9 : Value} {n0 : Nat} {sv : Value} {l : List (Int × Int)} (h : TS w a0 a1 a2 a3 a4 a5 a6 a7 a8 a9 n0 sv l X) :
    (sv = .slice none 0 0 ∧ l.length = 0) ∨ ∃ ad c, sv = .slice (some ad) l.length c ∧ ∀ j u, (spV l)[j]? = some u → X.cell? (ad.add j) = some u := by
  rcases h.own.forms with ⟨e, e2⟩ | ⟨g, cap, e⟩
  · exact .inl ⟨e, by rw [e2]; rfl⟩
  · subst e
    exact .inr ⟨_, _, rfl, h.own.1.cells (g := g) rfl⟩
theorem made_at (X : World) (B base : Nat) (T : TypeId) (h : X.heap.size = B) (hb : base ≤ X.heap.size) : (X.alloc (.cells #[] T)).ownsRow base T 2 (.slice (some ⟨B, 0, none⟩) 0 0) 0 [] := by
  subst h
  exact World.ownsRow_made X #[] 0 hb (by unfold maxLen; omega) (by simp)
theorem b_q {n : Nat} {w X : World} (q : Nat) (h : Below n w X) : Below n w (X.drewN q) := by
  induction q with
  | zero => exact h
  | succ q ih => exact ih.drew
theorem spV_len (l : List (Int × Int)) : (spV l).length = l.length * 2 := by
  induction l with
  | nil => rfl
  | cons a l ih => rw [show spV (a :: l) = [.int .i64 a.1, .int .i64 a.2] ++ spV l from rfl, List.length_append, ih]; simp; omega
theorem spV_one (l : List (Int × Int)) : ∀ u ∈ spV l, u.oneCell' = true := by
  induction l with
  | nil => intro u hu; cases hu
  | cons a l ih =>
    intro u hu
    rw [show spV (a :: l) = [.int .i64 a.1, .int .i64 a.2] ++ spV l from rfl] at hu
    rcases List.mem_append.1 hu with h | h
    · rcases List.mem_cons.1 h with rfl | h
      · rfl
      · rcases List.mem_cons.1 h with rfl | h
        · rfl
        · cases h
    · exact ih u h
theorem TS.grow {w X X' : World} {a0 a1 a2 a3 a4 a5 a6 a7 a8 a9 : Value} {n0 : Nat} {sv : Value} {l : List (Int × Int)} {B n c : Nat} (hg : X.grownBy X' (Value.slice (some ⟨B, 0, none⟩) n c).ownBlock) (h : TS w a0 a1 a2 a3 a4 a5 a6 a7 a8 a9 n0 sv l X) (hB : n0 ≤ B) : TS w a0 a1 a2 a3 a4 a5 a6 a7 a8 a9 n0 sv l X' := h.grown hB hg
theorem at_tl {X : World} {base g cap : Nat} {m : List (Int × Int)} {T : Int} (h : X.ownsRow base 34 2 (.slice (some ⟨g, 0, none⟩) (m.length + 1) cap) (m.length + 1) ([] ++ spV m ++ [.int .i64 T, .int .i64 T])) (hb : base ≤ X.heap.size) : AtP X g (tl T m) := by
  have o : OwnP X base (.slice (some ⟨g, 0, none⟩) (m.length + 1) cap) (tl T m) := by
    refine ⟨?_, hb⟩
    have e1 : (tl T m).length = m.length + 1 := tl_len T m
    have e2 : spV (tl T m) = [] ++ spV m ++ [.int .i64 T, .int .i64 T] := by unfold tl; rw [spV_snoc]; rfl
    rw [e1, e2]
    exact h
  obtain ⟨p, c, e, _, _, hr⟩ := o.rd
  obtain ⟨b, e2, ha⟩ := hr (by unfold tl; simp)
  injection e with e1 _ _
  rw [e2] at e1
  injection e1 with e1
  injection e1 with e1
  subst e1
  exact ha
theorem c_new (X : World) (o : Obj) (h : Nat) (hh : X.heap.size = h) : (X.alloc o).heap[h]? = some o := by subst hh; exact heap_alloc_new X o
theorem c_old (X : World) (o o' : Obj) (h : Nat) (hh : X.heap[h]? = some o') : (X.alloc o).heap[h]? = some o' := by
  have hl : h < X.heap.size := (Array.getElem?_eq_some_iff.1 hh).1
  rw [(b_new X o).block h hl]
  exact hh
end Top
end Go.Proofs.YtmapkiefmbgdoabDoor
