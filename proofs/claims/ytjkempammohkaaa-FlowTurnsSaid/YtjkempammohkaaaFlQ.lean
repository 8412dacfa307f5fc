/-
  A queue: a slice of the call's own that is cut at its front and appended to at its end.
-/
import Derived.Test.YtjkempammohkaaaFlD
import Derived.Deep.AppendLies
import Derived.Laws.CopyRow
namespace Go.Proofs.Ytjkempammohkaaa
open Go.RowKit
open IntWalk
set_option linter.unusedVariables false

/-- A queue that lies from a block on. -/
def QueV (w : World) (base : Nat) (e : TypeId) (v : Value) (xs : List Value) : Prop :=
  ∃ (g off cap : Nat) (cur : Array Value), v = .slice (some ⟨g, off, none⟩) xs.length cap ∧ base ≤ g ∧ w.heap[g]? = some (.cells cur e (0, 0)) ∧ xs.length ≤ cap ∧ cap ≤ maxLen ∧ off + cap ≤ cur.size ∧ ∀ i u, xs[i]? = some u → cur[off + i]? = some u
theorem QueV.new (w : World) (base : Nat) (e : TypeId) (x : Value) (hb : base ≤ w.heap.size) (H : Nat) (hH : w.heap.size = H) : QueV (w.alloc (.cells #[x] e)) base e (.slice (some ⟨H, 0, none⟩) 1 1) [x] := by
  subst hH
  refine ⟨w.heap.size, 0, 1, #[x], rfl, hb, heap_alloc_new w _, Nat.le_refl _, by unfold maxLen; omega, by simp, fun i u hi => ?_⟩
  cases i with
  | zero => simpa using hi
  | succ i => simp at hi
theorem QueV.kept {w w' : World} {base : Nat} {e : TypeId} {v : Value} {xs : List Value} (h : QueV w base e v xs) (k : ∀ b, base ≤ b → b < w.heap.size → w'.heap[b]? = w.heap[b]?) : QueV w' base e v xs := by
  obtain ⟨g, off, cap, cur, h1, h2, h3, h4⟩ := h
  exact ⟨g, off, cap, cur, h1, h2, (k g h2 (Array.getElem?_eq_some_iff.1 h3).1).trans h3, h4⟩
theorem QueV.cut {w : World} {base : Nat} {e : TypeId} {g off cap n : Nat} {x : Value} {xs : List Value} (h : QueV w base e (.slice (some ⟨g, off, none⟩) n cap) (x :: xs)) (off' : Nat) (ho : off' = off + 1 ∨ (cap = 1 ∧ off' = off)) (n' c' : Nat) (hn : n' = xs.length) (hc : c' = cap - 1) :
    QueV w base e (.slice (some ⟨g, off', none⟩) n' c') xs := by
  obtain ⟨g0, o0, c0, cur, h1, h2, h3, h4, h5, h6, h7⟩ := h
  injection h1 with h1 h8 h9
  injection h1 with h1
  injection h1 with a1 a2
  subst a1; subst a2; subst h9; subst hn; subst hc
  simp only [List.length_cons] at h4
  refine ⟨g, off', cap - 1, cur, rfl, h2, h3, by omega, by omega, by omega, fun i u hi => ?_⟩
  rcases ho with rfl | ⟨rfl, rfl⟩
  · have := h7 (i + 1) u (by simpa using hi)
    rwa [show off + 1 + i = off + (i + 1) by omega]
  · have := (List.getElem?_eq_some_iff.1 hi).1
    omega
theorem QueV.head {w : World} {base : Nat} {e : TypeId} {g off cap n : Nat} {x : Value} {xs : List Value} (h : QueV w base e (.slice (some ⟨g, off, none⟩) n cap) (x :: xs)) : w.cell? ⟨g, off, none⟩ = some x := by
  obtain ⟨g0, o0, c0, cur, h1, h2, h3, h4, h5, h6, h7⟩ := h
  injection h1 with h1 h8 h9
  injection h1 with h1
  injection h1 with a1 a2
  subst a1; subst a2
  have h8 : cur[off]? = some x := h7 0 x rfl
  simp [World.cell?, h3, h8]
theorem QueV.form {w : World} {base : Nat} {e : TypeId} {v : Value} {xs : List Value} (h : QueV w base e v xs) : ∃ g off cap, v = .slice (some ⟨g, off, none⟩) xs.length cap ∧ xs.length ≤ cap ∧ cap ≤ maxLen ∧ base ≤ g := by
  obtain ⟨g, off, cap, cur, h1, h2, h3, h4, h5, h6, h7⟩ := h
  exact ⟨g, off, cap, h1, h4, h5, h2⟩

theorem run_append_que {P : Program} (w : World) (t ty : TypeId) (base : Nat) (e : TypeId) (i : TypeInfo) (z : Value) (bytes : Nat) (ht : P.underlying t = some (.slice e)) (hi : P.info? e = some i) (hz : i.zero = some z)
    (hsize : i.size = 1) (hby : i.bytes = bytes) (hzs : z.cells.size = 1)
    (v : Value) (xs : List Value) (hq : QueV w base e v xs) (hx1 : ∀ u ∈ xs, u.oneCell' = true)
    (ad : Addr) (c : Nat) (x : Value) (hnew : w.cell? ad = some x) (h1 : x.oneCell' = true)
    (hbytes : (xs.length + 1) * bytes ≤ 140737488355328) (h63 : xs.length + 1 ≤ maxLen) (hbase : base ≤ w.heap.size) :
    ∃ g off cap w', (Builtin.append_ #[t, t] ty #[v, .slice (some ad) 1 c]).run P w = .ok (.slice (some ⟨g, off, none⟩) (xs.length + 1) cap) w' ∧ QueV w' base e (.slice (some ⟨g, off, none⟩) (xs.length + 1) cap) (xs ++ [x]) ∧ w.grownBy w' v.ownBlock ∧ (v.ownBlock = some g ∨ g = w.heap.size) := by
  subst hby
  obtain ⟨g, off, cap, cur, rfl, h2, h3, h4, h5, h6, h7⟩ := hq
  have hnews : ∀ j u, [x][j]? = some u → w.cell? (ad.add j) = some u := fun j u hj => by
    cases j with
    | zero =>
      have e0 : ad.add 0 = ad := by
        cases ad with
        | mk b o p => cases p <;> simp [Addr.add]
      rw [e0, hnew]; simpa using hj
    | succ j => simp at hj
  by_cases hroom : xs.length + 1 ≤ cap
  · have hf := run_firstCells_some (P := P) w i.size 1 ad 1 c [x] (by rw [hsize]; rfl) hnews
    have hst := run_storeCells_at P g (off + xs.length) e [x] 0 cur w h3 (by simp; omega) (by simpa using h1)
    simp only [Nat.add_zero] at hst
    have hr : (Builtin.append_ #[t, t] ty #[.slice (some ⟨g, off, none⟩) xs.length cap, .slice (some ad) 1 c]).run P w = .ok (.slice (some ⟨g, off, none⟩) (xs.length + 1) cap) (w.setRow g (cur.toList.take (off + xs.length) ++ [x] ++ cur.toList.drop (off + xs.length + 1)).toArray) := by
      have ea : ∀ k, (⟨g, off, none⟩ : Addr).add k = ⟨g, off + k, none⟩ := fun k => by unfold Addr.add; split <;> simp_all
      rw [hsize] at hf
      simp only [List.length_singleton] at hst
      simp [Builtin.append_, run_underlying ht, sizeOf, typeInfo, hi, Builtin.lenOf, hroom, hf, ea, hsize, hst]
    refine ⟨g, off, cap, _, hr, ⟨g, off, cap, _, by simp, h2, setRow_heap w g cur _ e _ h3, by simpa using hroom, h5, by simp; omega, fun j u hj => ?_⟩, ⟨rfl, rfl, rfl, by simp, fun k _ hk => setRow_other w g k _ (fun e => hk (by simp [Value.ownBlock, e]))⟩, .inl rfl⟩
    have hc : off + xs.length < cur.size := by omega
    rw [List.getElem?_append] at hj
    simp only [List.append_assoc, List.getElem?_toArray]
    split at hj
    · rename_i hlt
      have := h7 j u hj
      rw [List.getElem?_append_left (by simp; omega), List.getElem?_take_of_lt (by omega), Array.getElem?_toList]
      exact this
    · rename_i hlt
      have hjl : j = xs.length := by
        have := (List.getElem?_eq_some_iff.1 hj).1
        simp at this
        omega
      subst hjl
      rw [List.getElem?_append_right (by simp; omega)]
      simp only [List.length_take, Array.length_toList, Nat.min_eq_left (Nat.le_of_lt hc), Nat.sub_self, List.singleton_append, List.getElem?_cons_zero]
      simpa using hj
  · have holds : ∀ j u, xs[j]? = some u → w.cell? ((⟨g, off, none⟩ : Addr).add j) = some u := fun j u hj => by
      have ea : (⟨g, off, none⟩ : Addr).add j = ⟨g, off + j, none⟩ := by unfold Addr.add; split <;> simp_all
      rw [ea]
      simp [World.cell?, h3, h7 j u hj]
    have hcap : cap = xs.length := by omega
    have hr := run_append_grow (P := P) w t ty e i z ht hi hz ⟨g, off, none⟩ xs.length cap xs (by rw [hsize]; omega) holds ad 1 c [x] (by rw [hsize]; rfl) hnews (by omega) (by unfold maxLen at h63; omega) (growslice_fits (by omega) hbytes)
    have hge := grownCap_ge w (xs.length + 1) cap e
    refine ⟨w.heap.size, 0, _, _, hr, ⟨w.heap.size, 0, _, _, by rw [List.length_append]; rfl, hbase, heap_alloc_new w.drew _, by simpa using hge, grownCap_le_maxLen w _ _ e h63, ?_, fun j u hj => ?_⟩, ⟨rfl, rfl, rfl, by simp, fun k hk _ => Below.heap_alloc w.drew _ k hk⟩, .inr rfl⟩
    · simp only [Array.size_append, List.size_toArray, List.length_singleton, size_zeroCells, hzs]; omega
    · rw [Array.getElem?_append_left (by have := (List.getElem?_eq_some_iff.1 hj).1; simp at this ⊢; omega)]
      simpa using hj
theorem wpList_append_que {P : Program} (w : World) {ops : Array Oper} {rest : List Oper} {o : Oper} {a : Act} {Q : Exit → Act → World → Prop} (hgd : o.guard = none) (s y : Operand) (t : TypeId)
    (ho : o.op = .call { callee := .builtin .append, args := #[s, y], argTypes := #[t, t] })
    (base : Nat) (e : TypeId) (i : TypeInfo) (z : Value) (bytes : Nat) (ht : P.underlying t = some (.slice e)) (hi : P.info? e = some i) (hz : i.zero = some z)
    (hsize : i.size = 1) (hby : i.bytes = bytes) (hzs : z.cells.size = 1)
    (v : Value) (xs : List Value) (hs : a.eval s = v) (hq : QueV w base e v xs) (hx1 : ∀ u ∈ xs, u.oneCell' = true)
    (ad : Addr) (c : Nat) (x : Value) (hy : a.eval y = .slice (some ad) 1 c) (hnew : w.cell? ad = some x) (h1 : x.oneCell' = true)
    (hbytes : (xs.length + 1) * bytes ≤ 140737488355328) (h63 : xs.length + 1 ≤ maxLen) (hbase : base ≤ w.heap.size)
    (h : ∀ g off cap w', QueV w' base e (.slice (some ⟨g, off, none⟩) (xs.length + 1) cap) (xs ++ [x]) → w.grownBy w' v.ownBlock → wpList P ops Q rest (a.put o.dst (.slice (some ⟨g, off, none⟩) (xs.length + 1) cap)) w') : wpList P ops Q (o :: rest) a w := by
  refine wpList_plain hgd fun K hK => ?_
  obtain ⟨g, off, cap, w', hr, h2, h3, h4⟩ := run_append_que (P := P) w t o.type base e i z bytes ht hi hz hsize hby hzs v xs hq hx1 ad c x hnew h1 hbytes h63 hbase
  unfold Oper.wp execOp
  simp only [ho, resolve, invoke, builtin, Sem.run_bind, Sem.run_pure, Result.andThen_ok, List.map_toArray, List.map_cons, List.map_nil, hs, hy, hr]
  exact hK _ _ (h g off cap w' h2 h3)
end Go.Proofs.Ytjkempammohkaaa
