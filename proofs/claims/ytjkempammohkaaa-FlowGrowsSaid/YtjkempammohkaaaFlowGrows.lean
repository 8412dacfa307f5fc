/-
  The law FlowGrows holds: for every input it returns true and leaves its arguments as they were.
-/
import Derived.Test.YtjkempammohkaaaRows
import Derived.Test.YtjkempammohkaaaFlU
import Derived.Test.YtjkempammohkaaaFlV
import Derived.Test.YtjkempammohkaaaFlW
namespace Go.Proofs.Ytjkempammohkaaa
namespace flowGrows
open Go.ChangeShapes Go.WideShapes Go.ChangeAt Go.RowKit
open IntWalk
open Fl
set_option linter.unusedVariables false

theorem kn_drew {w X : World} {N : Int} {p : Option Addr} {n c : Nat} (h : Below w.heap.size w X ∧ w.heap.size < X.heap.size ∧ X.cell? ⟨w.heap.size, 0, none⟩ = some (.int .i64 N) ∧ X.cell? ⟨w.heap.size, 1, none⟩ = some (.slice p n c)) : Below w.heap.size w X.drew ∧ w.heap.size < X.drew.heap.size ∧ X.drew.cell? ⟨w.heap.size, 0, none⟩ = some (.int .i64 N) ∧ X.drew.cell? ⟨w.heap.size, 1, none⟩ = some (.slice p n c) :=
  ⟨h.1.drew, h.2⟩
theorem kn_below {w X Y : World} {N : Int} {p : Option Addr} {n c : Nat} (h : Below w.heap.size w X ∧ w.heap.size < X.heap.size ∧ X.cell? ⟨w.heap.size, 0, none⟩ = some (.int .i64 N) ∧ X.cell? ⟨w.heap.size, 1, none⟩ = some (.slice p n c)) (b : Below (w.heap.size + 1) X Y) : Below w.heap.size w Y ∧ w.heap.size < Y.heap.size ∧ Y.cell? ⟨w.heap.size, 0, none⟩ = some (.int .i64 N) ∧ Y.cell? ⟨w.heap.size, 1, none⟩ = some (.slice p n c) :=
  ⟨h.1.trans (b.mono (by omega)), Nat.lt_of_lt_of_le h.2.1 b.size, (b.cell (p := ⟨w.heap.size, 0, none⟩) (by simp only; omega)).trans h.2.2.1, (b.cell (p := ⟨w.heap.size, 1, none⟩) (by simp only; omega)).trans h.2.2.2⟩
theorem kn_alloc {w X : World} {N : Int} {p : Option Addr} {n c : Nat} (h : Below w.heap.size w X ∧ w.heap.size < X.heap.size ∧ X.cell? ⟨w.heap.size, 0, none⟩ = some (.int .i64 N) ∧ X.cell? ⟨w.heap.size, 1, none⟩ = some (.slice p n c)) (o : Obj) : Below w.heap.size w (X.alloc o) ∧ w.heap.size < (X.alloc o).heap.size ∧ (X.alloc o).cell? ⟨w.heap.size, 0, none⟩ = some (.int .i64 N) ∧ (X.alloc o).cell? ⟨w.heap.size, 1, none⟩ = some (.slice p n c) :=
  kn_below h ((Below.refl _ _).alloc (by have := h.2.1; omega) o)
theorem kn_grow {w X Y : World} {N : Int} {p : Option Addr} {n c b o1 n1 c1 : Nat} (h : Below w.heap.size w X ∧ w.heap.size < X.heap.size ∧ X.cell? ⟨w.heap.size, 0, none⟩ = some (.int .i64 N) ∧ X.cell? ⟨w.heap.size, 1, none⟩ = some (.slice p n c)) (hb : w.heap.size < b) (g : X.grownBy Y (Value.ownBlock (.slice (some ⟨b, o1, none⟩) n1 c1))) : Below w.heap.size w Y ∧ w.heap.size < Y.heap.size ∧ Y.cell? ⟨w.heap.size, 0, none⟩ = some (.int .i64 N) ∧ Y.cell? ⟨w.heap.size, 1, none⟩ = some (.slice p n c) :=
  kn_below h ((Below.refl _ _).grown g (by have := h.2.1; omega) (fun k hk => by
    have e' : b = k := by simpa [Value.ownBlock] using hk
    omega))
theorem kn_set {w X : World} {N : Int} {p : Option Addr} {n c : Nat} (h : Below w.heap.size w X ∧ w.heap.size < X.heap.size ∧ X.cell? ⟨w.heap.size, 0, none⟩ = some (.int .i64 N) ∧ X.cell? ⟨w.heap.size, 1, none⟩ = some (.slice p n c)) (a : Addr) (ha : w.heap.size < a.block) (v : Value) : Below w.heap.size w (X.setCell a v) ∧ w.heap.size < (X.setCell a v).heap.size ∧ (X.setCell a v).cell? ⟨w.heap.size, 0, none⟩ = some (.int .i64 N) ∧ (X.setCell a v).cell? ⟨w.heap.size, 1, none⟩ = some (.slice p n c) :=
  kn_below h ((Below.refl _ _).setCell (p := a) ha v)
theorem far_net {X w3 : World} {b A : Nat} {o : Obj} (g : X.grownBy w3 (Value.ownBlock (.slice (some ⟨b, 0, none⟩) 0 0))) (h : X.heap[A]? = some o) (hne : A ≠ b) : w3.heap[A]? = some o :=
  (g.block A (Array.getElem?_eq_some_iff.1 h).1 (by simp [Value.ownBlock]; exact hne)).trans h
theorem net_setAt {X : World} {A : Nat} {T : TypeId} (h : X.heap[A]? = some (.cells #[.int .i64 0, .slice none 0 0] T (0, 0))) (u v : Value) : ((X.setCell ⟨A, 0, none⟩ u).setCell ⟨A, 1, none⟩ v).heap[A]? = some (.cells #[u, v] T (0, 0)) :=
  heap_setCell_same _ A 1 _ T v (heap_setCell_same X A 0 _ T u h)
theorem own_setOther {X : World} {base size g n cap : Nat} {e : TypeId} {xs : List Value} (h : X.ownsRow base e size (.slice (some ⟨g, 0, none⟩) n cap) n xs) (a : Addr) (ha : a.block ≠ g) (v : Value) : (X.setCell a v).ownsRow base e size (.slice (some ⟨g, 0, none⟩) n cap) n xs :=
  h.kept (row := some a.block) ⟨rfl, rfl, rfl, by simp, fun k _ hk => heap_setCell_other X a k v (fun e => hk (by rw [e]))⟩ (.inr (by intro e; injection e with e; exact ha e.symm))
theorem acv_set (l : List Ac) (i : Nat) (h : i < l.length) (x : Int) : (acv l).set (i * 3 + 2) (.int .i64 x) = acv (l.set i ⟨(l.getD i ⟨0, 0, 0⟩).f, (l.getD i ⟨0, 0, 0⟩).t, x⟩) := by
  induction l generalizing i with
  | nil => simp at h
  | cons a l ih =>
    have e : acv (a :: l) = [.int .i64 a.f, .int .i64 a.t, .int .i64 a.c] ++ acv l := rfl
    cases i with
    | zero => rfl
    | succ i =>
      have h' : i < l.length := by simpa using h
      have e2 : (a :: l).set (i + 1) ⟨((a :: l).getD (i + 1) ⟨0, 0, 0⟩).f, ((a :: l).getD (i + 1) ⟨0, 0, 0⟩).t, x⟩ = a :: l.set i ⟨(l.getD i ⟨0, 0, 0⟩).f, (l.getD i ⟨0, 0, 0⟩).t, x⟩ := by simp
      rw [e2]
      show _ = [.int .i64 a.f, .int .i64 a.t, .int .i64 a.c] ++ acv (l.set i ⟨(l.getD i ⟨0, 0, 0⟩).f, (l.getD i ⟨0, 0, 0⟩).t, x⟩)
      rw [← ih i h', e, List.set_append_right _ _ (by simp; omega)]
      congr 2
      simp; omega
theorem grown_at {wc : World} {B g cap i : Nat} {l : List Ac} {z x : Int} (h : wc.ownsRow B 50 3 (.slice (some ⟨g, 0, none⟩) l.length cap) l.length (acv l)) (hi : i < l.length) (hz : z = (l[i]'hi).c) : NetAt (wc.setCell ⟨g, i * 3 + 2, none⟩ (.int .i64 (z + x))) (some ⟨g, 0, none⟩) (moreAt l i x) := by
  have a := (h.stored (i * 3 + 2) (.int .i64 (z + x))).1
  have e : l.getD i ⟨0, 0, 0⟩ = l[i] := by simp [hi]
  rw [acv_set l i hi] at a
  have m : moreAt l i x = l.set i ⟨(l.getD i ⟨0, 0, 0⟩).f, (l.getD i ⟨0, 0, 0⟩).t, z + x⟩ := by unfold moreAt; rw [e, hz]
  rw [m]
  exact net_own a (by simp)
theorem more_ok {N : Int} {l : List Ac} {i : Nat} {x : Int} (NK : NetOk N l) (h0 : 0 ≤ x) (hi : i < l.length) (hx : (l[i]'hi).c + x ≤ 1099511627776) : NetOk N (moreAt l i x) := by
  have g : ∀ a ∈ moreAt l i x, ∃ b ∈ l, a.f = b.f ∧ a.t = b.t ∧ 0 ≤ a.c ∧ a.c ≤ 1099511627776 := fun a ha => by
    obtain ⟨j, hj, rfl⟩ := List.mem_iff_getElem.1 ha
    have hj' : j < l.length := by rw [moreAt_len] at hj; exact hj
    have c := NK.c0 l[j] (List.getElem_mem hj')
    refine ⟨l[j], List.getElem_mem hj', ?_⟩
    rw [moreAt_get l i x j hj']
    by_cases e : j = i
    · subst e
      rw [if_pos rfl]
      exact ⟨rfl, rfl, by show 0 ≤ l[j].c + x; omega, hx⟩
    · rw [if_neg e]
      exact ⟨rfl, rfl, c.1, c.2⟩
  refine ⟨NK.n2, fun a ha => ?_, fun a ha => ?_, fun a ha => ?_, fun a ha => ?_⟩ <;> obtain ⟨b, hb, e1, e2, e3, e4⟩ := g a ha
  · rw [e1]; exact NK.f0 b hb
  · rw [e2]; exact NK.t0 b hb
  · rw [e1, e2]; exact NK.ne b hb
  · exact ⟨e3, e4⟩
theorem ok_like {G H : Nt} (k : G.Like H) (o : G.Ok) : H.Ok :=
  ⟨fun i hi => by rw [← k.m] at hi; rw [← k.fr i hi, ← k.N]; exact o.frN i hi, fun i hi => by rw [← k.m] at hi; rw [← k.to i hi, ← k.N]; exact o.toN i hi, fun i hi => by rw [← k.m] at hi; rw [← k.fr i hi, ← k.to i hi]; exact o.ne i hi, fun i hi => by rw [← k.m] at hi; rw [← k.cap i hi]; exact o.cap0 i hi, fun i hi => by rw [← k.m] at hi; rw [← k.cap i hi]; exact o.cap1 i hi⟩
theorem grown_vals {N : Int} {l : List Ac} {i : Nat} {x : Int} {s t : Nat} {f g : Nat → Int} {c d : Nat → Bool} (NK : NetOk N l) (NM : NetOk N (moreAt l i x)) (hs : (s : Int) < N) (hi : i < l.length) (h0 : 0 ≤ x) (B : (netG N l).Best s t f c) (D : (netG N (moreAt l i x)).Best s t g d) :
    (netG N l).out f s ≤ (netG N (moreAt l i x)).out g s ∧ (netG N (moreAt l i x)).out g s - (netG N l).out f s ≤ x := by
  have k := netG_more N l i x
  rw [out_like k]
  exact value_grown NK.ok (show s < N.toNat by omega) (show i < l.length from hi) h0 (ok_like k NM.ok) B (Nt.Best.like k D)

set_option maxHeartbeats 8000000 in
set_option maxRecDepth 100000 in
theorem walk_main (N : Int) (l : List Ac) (p : Option Addr) (c : Nat) (s t at_ by_ : Int) (w : World) (hl : l.length ≤ maxLen) (hA : NetAt w p l) (wa : 0 ≤ at_ ∧ at_ ≤ 255) (wb : 0 ≤ by_ ∧ by_ ≤ 4294967295) (hsm : smlB N l.length 64 200 = true) (he : endE N l s t = 0) (hln : ¬l.length = 0) :
    Calls Try.prog 10 #[.agg #[.int .i64 N, .slice p l.length c], .int .i64 s, .int .i64 t, .int .u8 at_, .int .u32 by_] w fun e w' => e = .returned (.bool true) ∧ Below w.heap.size w w' := by
  unfold maxLen at hl
  have K0 := Lib.hid (KN.start w N p l.length c 24)
  have HA := Lib.hid hA
  have SM := Lib.hid (fun x hx W => small_run N l.length p c 64 200 x hx W hl)
  obtain ⟨wa0, wa1⟩ := wa
  obtain ⟨wb0, wb1⟩ := wb
  clear hA
  have S1 := Lib.hid (fun W => SM.out true hsm W)
  have hs2 : N ≤ 64 ∧ l.length ≤ 200 := by unfold smlB at hsm; simpa using hsm
  clear SM hsm hl
  have EN := Lib.hid (fun W (h : Below w.heap.size w W) => ends_run N l p c s t W (by omega) (HA.out.below h))
  obtain ⟨ve, ⟨s0, s1⟩, ⟨t0, t1⟩, st⟩ := endE_ok he
  obtain ⟨NK, n1, n2⟩ := valE_ok ve
  obtain ⟨N', rfl⟩ : ∃ n : Nat, N = n := ⟨N.toNat, by omega⟩
  obtain ⟨s', rfl⟩ : ∃ n : Nat, s = n := ⟨s.toNat, by omega⟩
  obtain ⟨t', rfl⟩ : ∃ n : Nat, t = n := ⟨t.toNat, by omega⟩
  obtain ⟨a', rfl⟩ : ∃ n : Nat, at_ = n := ⟨at_.toNat, by omega⟩
  obtain ⟨G, eG⟩ : ∃ G, G = netG (N' : Int) l := ⟨_, rfl⟩
  have MX := Lib.hid (fun W (h : Below w.heap.size w W) => max_ok eG p c s' t' W (HA.out.below h) he)
  obtain ⟨i, hi⟩ : ∃ i, i = a' % l.length := ⟨_, rfl⟩
  have hil : i < l.length := by rw [hi]; exact Nat.mod_lt _ (by omega)
  have hie : (a' : Int) % (l.length : Int) = (i : Int) := by rw [hi]; omega
  have cap0 := NK.c0 l[i] (List.getElem_mem hil)
  have e0 : ((l.length : Int) == 0) = false := by rw [beq_eq_false_iff_ne]; omega
  have e00 : (1 : Int) ≤ (l.length : Int) := by omega
  have GM : Hid (G.m = l.length) := Lib.hid (by rw [eG]; rfl)
  have NG : Hid (G.N = N') := Lib.hid (by rw [eG]; show (N' : Int).toNat = N'; omega)
  have HG : Hid G.Ok := Lib.hid (by rw [eG]; exact NK.ok)
  have HK := Lib.hid NK
  have EG := Lib.hid eG
  have HE := Lib.hid he
  have hs : s' < N' := by omega
  have ht : t' < N' := by omega
  have hst : s' ≠ t' := by omega
  have HST := Lib.hid hst
  rw [he] at EN
  obtain ⟨ba, oa, rfl, hba, hca⟩ := HA.out (by intro e; rw [e] at hil; simp at hil)
  have HC := Lib.hid hca
  have hcap : l[i].c ≤ 1099511627776 ∧ 0 ≤ l[i].c := ⟨cap0.2, cap0.1⟩
  obtain ⟨hcap1, hcap0⟩ := hcap
  have CC := Lib.hid (hca i hil).2.2
  obtain ⟨z, hz⟩ : ∃ z, z = l[i].c := ⟨_, rfl⟩
  rw [← hz] at CC hcap1 hcap0
  have HZ := Lib.hid hz
  clear ve s0 s1 t0 t1 st eG he NK n1 n2 hi hst cap0 hz hca
  go_enter Try.func10, Try.ntmps10
  go_wp2_with fail
  refine (S1.out _).mono ?_
  rintro _ w1 ⟨rfl, b1⟩
  have K1 := Lib.hid (K0.out.step b1)
  have k0 := K1.out.c0
  have k1 := K1.out.c1
  have E1 := Lib.hid (EN.out w1 K1.out.b)
  clear b1 S1 EN
  go_wp2_with fail
  refine E1.out.mono ?_
  rintro _ w2 ⟨rfl, b2⟩
  have K2 := Lib.hid (K1.out.step b2)
  clear b2 E1 k0 k1
  have k0 := K2.out.c0
  have k1 := K2.out.c1
  have kc : w2.cell? ⟨ba, oa + i * 3 + 2, none⟩ = some (.int .i64 z) := (K2.out.b.cell (p := ⟨ba, _, none⟩) hba).trans CC.out
  by_cases big : 1099511627776 < z + by_
  · go_wp2_with fail
    refine (awake_run _).mono ?_
    rintro _ w4 ⟨rfl, b4⟩
    have K4 := Lib.hid (K2.out.step b4)
    clear b4
    go_wp2_with fail
    go_ret
    exact ⟨rfl, K4.out.b⟩
  · have hzb : z + by_ ≤ 1099511627776 := by omega
    clear big
    go_upto_region 6 with fail
    rw [hie]
    clear hie e0 e00 kc
    obtain ⟨i0, hi0, hz0, hz1, hz2⟩ := info_parts arcInfoZ
    have hlt0 : w.heap.size < w2.heap.size := K2.out.lt
    have hpos : 0 < l.length := by omega
    have S0 : Below w.heap.size w w2 ∧ w.heap.size < w2.heap.size ∧ w2.cell? ⟨w.heap.size, 0, none⟩ = some (.int .i64 (N' : Int)) ∧ w2.cell? ⟨w.heap.size, 1, none⟩ = some (.slice (some ⟨ba, oa, none⟩) l.length c) := ⟨K2.out.b, K2.out.lt, k0, k1⟩
    have NW := Lib.hid (fun (X : World) (h : Below w.heap.size w X ∧ w.heap.size < X.heap.size ∧ X.cell? ⟨w.heap.size, 0, none⟩ = some (.int .i64 (N' : Int)) ∧ X.cell? ⟨w.heap.size, 1, none⟩ = some (.slice (some ⟨ba, oa, none⟩) l.length c)) => NetAt.cells (w := X) (b := ba) (o := oa) (l := l) (fun j hj => by
      obtain ⟨a0, a1, a2⟩ := HC.out j hj
      exact ⟨(h.1.cell (p := ⟨ba, _, none⟩) hba).trans a0, (h.1.cell (p := ⟨ba, _, none⟩) hba).trans a1, (h.1.cell (p := ⟨ba, _, none⟩) hba).trans a2⟩))
    go_cut [12] from 53 to 59 (fun v wx => ∃ A g cap, v = .pointer (some ⟨A, 0, none⟩) ∧ A ≠ g ∧ w.heap.size < A ∧ w.heap.size < g ∧ Below w.heap.size w wx ∧ w.heap.size < wx.heap.size ∧ wx.cell? ⟨w.heap.size, 0, none⟩ = some (.int .i64 (N' : Int)) ∧ wx.cell? ⟨w.heap.size, 1, none⟩ = some (.slice (some ⟨ba, oa, none⟩) l.length c) ∧ wx.heap[A]? = some (.cells #[.int .i64 (N' : Int), .slice (some ⟨g, 0, none⟩) l.length cap] 24 (0, 0)) ∧ wx.ownsRow (w.heap.size + 1) 50 3 (.slice (some ⟨g, 0, none⟩) l.length cap) l.length (acv l))
    case first =>
      clear MX K0 K1 K2
      go_region_held3? (fun X => Below w.heap.size w X ∧ w.heap.size < X.heap.size ∧ X.cell? ⟨w.heap.size, 0, none⟩ = some (.int .i64 (N' : Int)) ∧ X.cell? ⟨w.heap.size, 1, none⟩ = some (.slice (some ⟨ba, oa, none⟩) l.length c)) (first | assumption | exact kn_drew (by assumption) | exact kn_alloc (by assumption) _ | exact Sw3.out | exact kn_alloc Sw3.out _ | exact kn_set (kn_set Sw3.out _ (by first | omega | (simp; omega)) _) _ (by first | omega | (simp; omega)) _)
        ((refine step_append_lies _ (by rfl) _ _ _ (by rfl) (w.heap.size + 1) 50 i0 _ 3 24 Try.underlying22 hi0 hz0 hz1 hz2 (by rfl) (by omega) _ 0 [] (by rfl) (own_empty (by first | exact heap_alloc_new _ _ | (have hz := heap_alloc_new (w2.alloc (.cells #[.int .i64 0, .slice none 0 0] 24)) (.cells #[] 50); rw [show (w2.alloc (.cells #[.int .i64 0, .slice none 0 0] 24)).heap.size = w2.heap.size + 1 by simp] at hz; exact hz) | exact (Go.Deep.blk_alloc_lt (w2.alloc (.cells #[] 50)) _ _ (by simp)).trans (heap_alloc_new w2 _) | exact (Go.Deep.blk_alloc_lt (w2.drew.alloc (.cells #[] 50)) _ _ (by simp)).trans (heap_alloc_new w2.drew _)) (by first | omega | (simp; omega))) ⟨ba, oa, none⟩ l.length c (acv l) (by rfl) (acv_len l) (NW.out _ (by assumption)) (acv_one l) hpos (by unfold maxLen; omega) (by omega) (by first | omega | (simp; omega)) _ rfl ?_; intro g cap w3 hown hgrow hat hlt; have Sw3 := Lib.hid (kn_grow (by assumption) (by first | omega | (simp; omega)) hgrow); first | (have ZA : w3.heap[w2.heap.size]? = some (.cells #[.int .i64 0, .slice none 0 0] 24 (0, 0)) := far_net hgrow (by first | exact (Go.Deep.blk_alloc_lt (w2.alloc (.cells #[.int .i64 0, .slice none 0 0] 24)) _ _ (by simp)).trans (heap_alloc_new w2 _)) (by first | omega | (simp; done) | (simp; omega)); have zc0 := cell_of _ _ 0 _ _ _ ZA rfl; have zc1 := cell_of _ _ 1 _ _ _ ZA rfl; have zf0 := frozen_of_row _ _ 0 _ _ ZA; have zf1 := frozen_of_row _ _ 1 _ _ ZA) | (have ZA : w3.heap[w2.heap.size + 1]? = some (.cells #[.int .i64 0, .slice none 0 0] 24 (0, 0)) := far_net hgrow (by have hz := heap_alloc_new (w2.alloc (.cells #[] 50)) (.cells #[.int .i64 0, .slice none 0 0] 24); rw [show (w2.alloc (.cells #[] 50)).heap.size = w2.heap.size + 1 by simp] at hz; exact hz) (by first | omega | (simp; done) | (simp; omega)); have zc0 := cell_of _ _ 0 _ _ _ ZA rfl; have zc1 := cell_of _ _ 1 _ _ _ ZA rfl; have zf0 := frozen_of_row _ _ 0 _ _ ZA; have zf1 := frozen_of_row _ _ 1 _ _ ZA) | skip))
      all_goals
        go_wp2_with fail
        go_meet
        case rel =>
          simp only [Nat.zero_add, List.nil_append] at hown
          have hgl := hown.lt g rfl
          have hat' : g = w2.heap.size ∨ g = w2.heap.size + 1 ∨ g = w2.heap.size + 2 := by simp [Value.ownBlock] at hat; omega
          first
            | exact ⟨_, g, cap, rfl, by omega, by omega, by omega, (kn_alloc Sw3.out _).1, (kn_alloc Sw3.out _).2.1, (kn_alloc Sw3.out _).2.2.1, (kn_alloc Sw3.out _).2.2.2, heap_alloc_new w3 _, hown.alloc _⟩
            | (have hne : w2.heap.size + 1 ≠ g := by simp [Value.ownBlock] at hat; omega
               have SX := kn_set (kn_set Sw3.out ⟨w2.heap.size + 1, 0, none⟩ (by simp; omega) (.int .i64 (N' : Int))) ⟨w2.heap.size + 1, 1, none⟩ (by simp; omega) (.slice (some ⟨g, 0, none⟩) l.length cap)
               exact ⟨_, g, cap, rfl, hne, by omega, by omega, SX.1, SX.2.1, SX.2.2.1, SX.2.2.2, net_setAt ZA _ _, own_setOther (own_setOther hown _ hne _) _ hne _⟩)
            | (have hne : w2.heap.size ≠ g := by simp [Value.ownBlock] at hat; omega
               have SX := kn_set (kn_set Sw3.out ⟨w2.heap.size, 0, none⟩ (by simp; omega) (.int .i64 (N' : Int))) ⟨w2.heap.size, 1, none⟩ (by simp; omega) (.slice (some ⟨g, 0, none⟩) l.length cap)
               exact ⟨_, g, cap, rfl, hne, by omega, by omega, SX.1, SX.2.1, SX.2.2.1, SX.2.2.2, net_setAt ZA _ _, own_setOther (own_setOther hown _ hne _) _ hne _⟩)
    case rest =>
      obtain ⟨A, g, cap, rfl, hAg, hA1, hg1, bc, ltc, c0, c1, hd, hown⟩ := hcut
      have ka0 := cell_of _ _ 0 _ _ _ hd rfl
      have ka1 := cell_of _ _ 1 _ _ _ hd rfl
      have kz : wc.cell? ⟨g, i * 3 + 2, none⟩ = some (.int .i64 z) := by rw [hown.cellAt _ (by omega), (acv_get l i hil).2.2, ← HZ.out]
      have fz : wc.frozen? ⟨g, i * 3 + 2, none⟩ = false := hown.frozenAt _
      have i1 : (0 : Int) ≤ (i : Int) := by omega
      have i2 : (i : Int) < (l.length : Int) := by omega
      have HD := Lib.hid hd
      have HO := Lib.hid hown
      have BC := Lib.hid (And.intro bc (And.intro ltc (And.intro c0 c1)))
      clear hd hown bc ltc c0 c1 NW S0 k0 k1 hi0 hz0 hz1 hz2
      go_upto_region 7 with fail
      have d1 : World.cell? { heap := wc.heap, tape := wc.tape, drawn := wc.drawn + 1, os := wc.os, output := wc.output } ⟨A, 1, none⟩ = some (.slice (some ⟨g, 0, none⟩) l.length cap) := ka1
      have d2 : World.cell? { heap := wc.heap, tape := wc.tape, drawn := wc.drawn + 1, os := wc.os, output := wc.output } ⟨g, i * 3 + 2, none⟩ = some (.int .i64 z) := kz
      go_still_tail 14, (by kernel_rfl)
      change wpList _ _ _ _ _ wc.drew
      have kz' : wc.drew.cell? ⟨g, i * 3 + 2, none⟩ = some (.int .i64 z) := kz
      have fz' : wc.drew.frozen? ⟨g, i * 3 + 2, none⟩ = false := fz
      go_upto_region 8 with fail
      have NM := Lib.hid (more_ok HK.out wb0 hil (by rw [← HZ.out]; exact hzb))
      have X1 : Hid (NetAt ((wc.setCell ⟨g, i * 3 + 2, none⟩ (.int .i64 (z + by_))).drew) (some ⟨g, 0, none⟩) (moreAt l i by_)) := Lib.hid (grown_at (wc := wc) HO.out hil HZ.out)
      have X2 := Lib.hid (kn_drew (kn_set BC.out ⟨g, i * 3 + 2, none⟩ hg1 (.int .i64 (z + by_))))
      have X3 : Hid (((wc.setCell ⟨g, i * 3 + 2, none⟩ (.int .i64 (z + by_))).drew).heap[A]? = some (.cells #[.int .i64 (N' : Int), .slice (some ⟨g, 0, none⟩) l.length cap] 24 (0, 0))) := Lib.hid ((heap_setCell_other wc ⟨g, i * 3 + 2, none⟩ A _ hAg).trans HD.out)
      clear d1 d2 kz fz kz' fz' ka0 ka1 HD HO BC i1 i2
      revert X1 X2 X3
      generalize ((wc.setCell { block := g, off := i * 3 + 2 } (Value.int IntKind.i64 (z + by_))).drew) = w8
      intro X1 X2 X3
      have c0 := X2.out.2.2.1
      have c1 := X2.out.2.2.2
      have M1 := Lib.hid (MX.out w8 X2.out.1)
      go_wp2_with fail
      refine M1.out.mono ?_
      rintro _ w9 ⟨v, f, cu, b, rfl, hb1, hb2, hb3, hv, hb4⟩
      have X4 := Lib.hid (And.intro hb3 hv)
      have hA8 : A < w8.heap.size := (Array.getElem?_eq_some_iff.1 X3.out).1
      have a0 : w9.cell? ⟨A, 0, none⟩ = some (.int .i64 (N' : Int)) := (hb4.cell (p := ⟨A, 0, none⟩) hA8).trans (cell_of _ _ 0 _ _ _ X3.out rfl)
      have a1 : w9.cell? ⟨A, 1, none⟩ = some (.slice (some ⟨g, 0, none⟩) l.length cap) := (hb4.cell (p := ⟨A, 1, none⟩) hA8).trans (cell_of _ _ 1 _ _ _ X3.out rfl)
      have X5 := Lib.hid (X2.out.1.trans (hb4.mono (Nat.le_of_lt X2.out.2.1)))
      have he2 : endE (N' : Int) (moreAt l i by_) (s' : Int) (t' : Int) = 0 := endE_new HE.out (moreAt_len _ _ _) (fun a ha => acE_zero (NM.out.f0 a ha) (NM.out.t0 a ha) (NM.out.ne a ha) (NM.out.c0 a ha)) (by omega) (by omega) (by have := HST.out; omega)
      have M2 := Lib.hid (max_ok (G := netG (N' : Int) (moreAt l i by_)) rfl (some ⟨g, 0, none⟩) cap s' t' w9 (X1.out.below hb4) he2)
      rw [moreAt_len] at M2
      clear hb1 hb2 hb3 hv hb4 he2 hA8 M1 MX c0 c1
      go_wp2_with fail
      refine M2.out.mono ?_
      rintro _ w10 ⟨v2, f2, cu2, b2, rfl, hd1, hd2, hd3, hv2, hd4⟩
      have gv := grown_vals HK.out NM.out (show (s' : Int) < N' by omega) hil wb0 (by rw [← EG.out]; exact X4.out.1) hd3
      rw [← hv2, ← EG.out, ← X4.out.2] at gv
      obtain ⟨gv1, gv2⟩ := gv
      have hsub : IntKind.i64.wrap (v2 - v) = v2 - v := by rw [IntKind.wrap_i64]; omega
      have X6 := Lib.hid (X5.out.trans (hd4.mono X5.out.size))
      clear hd1 hd2 hd3 hv2 hd4 M2 a0 a1
      go_wp2_with fail
      refine (awake_run _).mono ?_
      rintro _ w11 ⟨rfl, b11⟩
      have X7 := Lib.hid (X6.out.trans (b11.mono X6.out.size))
      clear b11
      go_wp2_with fail
      go_ret
      exact ⟨rfl, X7.out⟩

set_option maxHeartbeats 8000000 in
set_option maxRecDepth 100000 in
theorem walk (N : Int) (l : List Ac) (p : Option Addr) (c : Nat) (s t at_ by_ : Int) (w : World) (hl : l.length ≤ maxLen) (hA : NetAt w p l) (ws : -9223372036854775808 ≤ s ∧ s ≤ 9223372036854775807) (wt : -9223372036854775808 ≤ t ∧ t ≤ 9223372036854775807) (wa : 0 ≤ at_ ∧ at_ ≤ 255) (wb : 0 ≤ by_ ∧ by_ ≤ 4294967295) :
    Calls Try.prog 10 #[.agg #[.int .i64 N, .slice p l.length c], .int .i64 s, .int .i64 t, .int .u8 at_, .int .u32 by_] w fun e w' => e = .returned (.bool true) ∧ Below w.heap.size w w' := by
  have hl0 := hl
  unfold maxLen at hl
  have K0 := Lib.hid (KN.start w N p l.length c 24)
  have HA := Lib.hid hA
  have SM := Lib.hid (fun x hx W => small_run N l.length p c 64 200 x hx W hl)
  obtain ⟨wa0, wa1⟩ := wa
  obtain ⟨wb0, wb1⟩ := wb
  clear hA ws wt
  cases hsm : smlB N l.length 64 200
  · have S1 := Lib.hid (fun W => SM.out false hsm W)
    clear SM hsm
    go_enter Try.func10, Try.ntmps10
    go_wp2_with fail
    refine (S1.out _).mono ?_
    rintro _ w1 ⟨rfl, b1⟩
    have K1 := Lib.hid (K0.out.step b1)
    clear b1
    go_wp2_with fail
    refine (awake_run _).mono ?_
    rintro _ w2 ⟨rfl, b2⟩
    have K2 := Lib.hid (K1.out.step b2)
    clear b2
    go_wp2_with fail
    go_ret
    exact ⟨rfl, K2.out.b⟩
  · have hsm0 := hsm
    have S1 := Lib.hid (fun W => SM.out true hsm W)
    have hs2 : N ≤ 64 ∧ l.length ≤ 200 := by unfold smlB at hsm; simpa using hsm
    clear SM hsm hl
    have EN := Lib.hid (fun W (h : Below w.heap.size w W) => ends_run N l p c s t W (by omega) (HA.out.below h))
    by_cases he : endE N l s t = 0
    · by_cases hln : l.length = 0
      · have e0 : ((l.length : Int) == 0) = true := by rw [hln]; rfl
        rw [he] at EN
        clear he hln
        go_enter Try.func10, Try.ntmps10
        go_wp2_with fail
        refine (S1.out _).mono ?_
        rintro _ w1 ⟨rfl, b1⟩
        have K1 := Lib.hid (K0.out.step b1)
        have k0 := K1.out.c0
        have k1 := K1.out.c1
        have E1 := Lib.hid (EN.out w1 K1.out.b)
        clear b1 S1 EN
        go_wp2_with fail
        refine E1.out.mono ?_
        rintro _ w2 ⟨rfl, b2⟩
        have K2 := Lib.hid (K1.out.step b2)
        clear b2 E1 k0 k1
        have k0 := K2.out.c0
        have k1 := K2.out.c1
        go_wp2_with fail
        refine (awake_run _).mono ?_
        rintro _ w4 ⟨rfl, b4⟩
        have K4 := Lib.hid (K2.out.step b4)
        clear b4
        go_wp2_with fail
        go_ret
        exact ⟨rfl, K4.out.b⟩
      · exact walk_main N l p c s t at_ by_ w hl0 HA.out ⟨wa0, wa1⟩ ⟨wb0, wb1⟩ hsm0 he hln
    · have e1 : (endE N l s t == 0) = false := by simpa using he
      have e2 : (endE N l s t != 0) = true := by simpa using he
      obtain ⟨x, hx⟩ : ∃ x, x = endE N l s t := ⟨_, rfl⟩
      rw [← hx] at EN e1 e2
      clear he hx
      go_enter Try.func10, Try.ntmps10
      go_wp2_with fail
      refine (S1.out _).mono ?_
      rintro _ w1 ⟨rfl, b1⟩
      have K1 := Lib.hid (K0.out.step b1)
      have k0 := K1.out.c0
      have k1 := K1.out.c1
      have E1 := Lib.hid (EN.out w1 K1.out.b)
      clear b1 S1 EN
      go_wp2_with fail
      refine E1.out.mono ?_
      rintro _ w2 ⟨rfl, b2⟩
      have K2 := Lib.hid (K1.out.step b2)
      clear b2 E1 k0 k1
      go_wp2_with fail
      refine (awake_run _).mono ?_
      rintro _ w4 ⟨rfl, b4⟩
      have K4 := Lib.hid (K2.out.step b4)
      clear b4
      go_wp2_with fail
      go_ret
      exact ⟨rfl, K4.out.b⟩


set_option maxRecDepth 100000 in
theorem lifted (os : Os) (started : os.Started) (H : Type) (enc : TypeId × Value → H) :
    ReturnsInHanded {} Try.checked os 10 .any (Rows.flowGrowsSpec.pre6 enc Try.prog Try.f10 Rows.flowGrowsRow.domain false) (Rows.flowGrowsSpec.post enc Try.prog Try.f10 false true false false) := by
  refine returnsInHanded_of_change (C := Try.checked) own started (by kernel_rfl) Try.func10
    (ChangeSpec.witness6 (enc := enc) (C := Try.checked) false ⟨#[], #[.agg #[.int .i64 0, .slice none 0 0], .int .i64 0, .int .i64 0, .int .u8 0, .int .u32 0], []⟩ 8 (by kernel_rfl) (by kernel_rfl) (by kernel_rfl) (by kernel_rfl)) ?_
  intro W base args ds gs before hval0 hW hcnd _
  have hval : ∀ (j : Nat) t v, Try.f10.params[j]? = some t → args[j]? = some v → Value.okWide Try.prog W .any base t v := hval0
  have hW' := hW
  obtain ⟨p, q, hA0, hV, rfl, hfz, hnd⟩ := hW
  have hA : DataW.TrodAll enc Try.prog W 0 (fun _ => true) true Try.f10.params.toList args.toList ds p := hA0
  rw [Try.params10] at hA hval
  obtain ⟨v0, vs0, d0, ds0, p0, q0, hargs, rfl, rfl, h0, r0⟩ := trodAll_cons hA
  obtain ⟨v1, vs1, d1, ds1, p1, q1, rfl, rfl, rfl, h1, r1⟩ := trodAll_cons r0
  obtain ⟨v2, vs2, d2, ds2, p2, q2, rfl, rfl, rfl, h2, r2⟩ := trodAll_cons r1
  obtain ⟨v3, vs3, d3, ds3, p3, q3, rfl, rfl, rfl, h3, r3⟩ := trodAll_cons r2
  obtain ⟨v4, vs4, d4, ds4, p4, q4, rfl, rfl, rfl, h4, r4⟩ := trodAll_cons r3
  obtain ⟨rfl, rfl, rfl⟩ := trodAll_nil r4
  obtain rfl : args = #[v0, v1, v2, v3, v4] := by cases args; simp_all
  obtain ⟨rfl, rfl⟩ := trodVars_none hV
  have k0' := h0
  have lt0 : ∀ x ∈ p0, x.block < W.heap.size := by obtain ⟨m, hm⟩ := k0'; exact DataW.trod_lt m _ _ _ hm
  have k1' := h1
  have lt1 : ∀ x ∈ p1, x.block < W.heap.size := by obtain ⟨m, hm⟩ := k1'; exact DataW.trod_lt m _ _ _ hm
  have k2' := h2
  have lt2 : ∀ x ∈ p2, x.block < W.heap.size := by obtain ⟨m, hm⟩ := k2'; exact DataW.trod_lt m _ _ _ hm
  have k3' := h3
  have lt3 : ∀ x ∈ p3, x.block < W.heap.size := by obtain ⟨m, hm⟩ := k3'; exact DataW.trod_lt m _ _ _ hm
  have k4' := h4
  have lt4 : ∀ x ∈ p4, x.block < W.heap.size := by obtain ⟨m, hm⟩ := k4'; exact DataW.trod_lt m _ _ _ hm
  obtain ⟨N0, a0, l0, c0, rfl, hl0, hn0⟩ := net_form (hval 0 24 v0 rfl rfl) h0
  obtain ⟨n1, rfl, rfl, rfl, w1⟩ := open_int Try.underlying3 (hval 1 3 v1 rfl rfl) h1
  obtain ⟨n2, rfl, rfl, rfl, w2⟩ := open_int Try.underlying3 (hval 2 3 v2 rfl rfl) h2
  obtain ⟨n3, rfl, rfl, rfl, w3⟩ := open_int Try.underlying5 (hval 3 5 v3 rfl rfl) h3
  obtain ⟨n4, rfl, rfl, rfl, w4⟩ := open_int Try.underlying51 (hval 4 51 v4 rfl rfl) h4
  clear hA0 hval0
  simp only [List.append_nil] at hW'
  refine (walk N0 l0 a0 c0 n1 n2 n3 n4 W hl0 hn0 (wf_i64 w1) (wf_i64 w2) (wf_u8 w3) (wf_u32 w4)).mono fun e W' ⟨he, bel⟩ => ?_
  subst he
  exact ⟨_, rfl, _, _, _, [], _, [], hW', trodAll_mk1 (shut_bool Try.underlying4 _), (trodAll_cons_mk (Below.trod laidOut (by kernel_rfl) (of_decide_eq_true (by kernel_rfl)) k0' bel lt0) (trodAll_cons_mk (Below.trod laidOut (by kernel_rfl) (of_decide_eq_true (by kernel_rfl)) k1' bel lt1) (trodAll_cons_mk (Below.trod laidOut (by kernel_rfl) (of_decide_eq_true (by kernel_rfl)) k2' bel lt2) (trodAll_cons_mk (Below.trod laidOut (by kernel_rfl) (of_decide_eq_true (by kernel_rfl)) k3' bel lt3) (trodAll_cons_mk (Below.trod laidOut (by kernel_rfl) (of_decide_eq_true (by kernel_rfl)) k4' bel lt4) trodAll_mk0))))), rfl, bel.frame _, fun h => by cases h⟩

theorem over : Rows.flowGrowsRow.holds Try.pinned (OpenSpec.ofChange Rows.flowGrowsSpec) :=
  OpenClaim.holds_of_wide 10 Try.f10 rfl rfl rfl rfl rfl rfl rfl ⟨rfl, rfl, rfl, rfl, rfl⟩ rfl rfl rfl rfl rfl (by kernel_rfl) Try.func10 (by kernel_rfl)
    (of_decide_eq_true (by kernel_rfl)) (by unfold Func.isWrapper; first | (rw [if_pos (by decide +kernel)]; kernel_rfl) | (rw [if_neg (by decide +kernel)]; exact ⟨rfl, rfl⟩))
    (fun os started H enc _ => lifted os started H enc)
end flowGrows

theorem flowGrows_holds : Rows.FlowGrowsSaid := flowGrows.over
#print axioms flowGrows_holds
end Go.Proofs.Ytjkempammohkaaa
