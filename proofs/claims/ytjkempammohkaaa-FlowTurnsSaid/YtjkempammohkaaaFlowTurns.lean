/-
  The law FlowTurns holds: for every input it returns true and leaves its arguments as they were.
-/
import Derived.Test.YtjkempammohkaaaRows
import Derived.Test.YtjkempammohkaaaFlU
import Derived.Test.YtjkempammohkaaaFlV
import Derived.Test.YtjkempammohkaaaFlW
namespace Go.Proofs.Ytjkempammohkaaa
namespace flowTurns
open Go.ChangeShapes Go.WideShapes Go.ChangeAt Go.RowKit
open IntWalk
open Fl
set_option linter.unusedVariables false

theorem kn_drew {w X : World} {N : Int} {p : Option Addr} {n c : Nat} (h : Below w.heap.size w X ∧ w.heap.size < X.heap.size ∧ X.cell? ⟨w.heap.size, 0, none⟩ = some (.int .i64 N) ∧ X.cell? ⟨w.heap.size, 1, none⟩ = some (.slice p n c)) : Below w.heap.size w X.drew ∧ w.heap.size < X.drew.heap.size ∧ X.drew.cell? ⟨w.heap.size, 0, none⟩ = some (.int .i64 N) ∧ X.drew.cell? ⟨w.heap.size, 1, none⟩ = some (.slice p n c) :=
  ⟨h.1.drew, h.2⟩
theorem kn_below {w X Y : World} {N : Int} {p : Option Addr} {n c : Nat} (h : Below w.heap.size w X ∧ w.heap.size < X.heap.size ∧ X.cell? ⟨w.heap.size, 0, none⟩ = some (.int .i64 N) ∧ X.cell? ⟨w.heap.size, 1, none⟩ = some (.slice p n c)) (b : Below (w.heap.size + 1) X Y) : Below w.heap.size w Y ∧ w.heap.size < Y.heap.size ∧ Y.cell? ⟨w.heap.size, 0, none⟩ = some (.int .i64 N) ∧ Y.cell? ⟨w.heap.size, 1, none⟩ = some (.slice p n c) :=
  ⟨h.1.trans (b.mono (by omega)), Nat.lt_of_lt_of_le h.2.1 b.size, (b.cell (p := ⟨w.heap.size, 0, none⟩) (by simp only; omega)).trans h.2.2.1, (b.cell (p := ⟨w.heap.size, 1, none⟩) (by simp only; omega)).trans h.2.2.2⟩
theorem kn_alloc {w X : World} {N : Int} {p : Option Addr} {n c : Nat} (h : Below w.heap.size w X ∧ w.heap.size < X.heap.size ∧ X.cell? ⟨w.heap.size, 0, none⟩ = some (.int .i64 N) ∧ X.cell? ⟨w.heap.size, 1, none⟩ = some (.slice p n c)) (o : Obj) : Below w.heap.size w (X.alloc o) ∧ w.heap.size < (X.alloc o).heap.size ∧ (X.alloc o).cell? ⟨w.heap.size, 0, none⟩ = some (.int .i64 N) ∧ (X.alloc o).cell? ⟨w.heap.size, 1, none⟩ = some (.slice p n c) :=
  kn_below h ((Below.refl _ _).alloc (by have := h.2.1; omega) o)
theorem kn_grow {w X Y : World} {N : Int} {p : Option Addr} {n c b o1 n1 c1 : Nat} (h : Below w.heap.size w X ∧ w.heap.size < X.heap.size ∧ X.cell? ⟨w.heap.size, 0, none⟩ = some (.int .i64 N) ∧ X.cell? ⟨w.heap.size, 1, none⟩ = some (.slice p n c)) (hb : w.heap.size < b) (g : X.grownBy Y (Value.ownBlock (.slice (some ⟨b, o1, none⟩) n1 c1))) : Below w.heap.size w Y ∧ w.heap.size < Y.heap.size ∧ Y.cell? ⟨w.heap.size, 0, none⟩ = some (.int .i64 N) ∧ Y.cell? ⟨w.heap.size, 1, none⟩ = some (.slice p n c) :=
  kn_below h ((Below.refl _ _).grown g (by have := h.2.1; omega) (fun k hk => by
    have e' : b = k := by simpa [Value.ownBlock] using hk
    omega))
theorem kn_set {w X : World} {N : Int} {p : Option Addr} {n c : Nat} (h : Below w.heap.size w X ∧ w.heap.size < X.heap.size ∧ X.cell? ⟨w.heap.size, 0, none⟩ = some (.int .i64 N) ∧ X.cell? ⟨w.heap.size, 1, none⟩ = some (.slice p n c)) (a : Addr) (ha : w.heap.size < a.block) (v : Value) : Below w.heap.size w (X.setCell a v) ∧ w.heap.size < (X.setCell a v).heap.size ∧ (X.setCell a v).cell? ⟨w.heap.size, 0, none⟩ = some (.int .i64 N) ∧ (X.setCell a v).cell? ⟨w.heap.size, 1, none⟩ = some (.slice p n c) :=
  kn_below h ((Below.refl _ _).setCell (p := a) ha v)
theorem own_setOther {X : World} {base size g n cap : Nat} {e : TypeId} {xs : List Value} (h : X.ownsRow base e size (.slice (some ⟨g, 0, none⟩) n cap) n xs) (a : Addr) (ha : a.block ≠ g) (v : Value) : (X.setCell a v).ownsRow base e size (.slice (some ⟨g, 0, none⟩) n cap) n xs :=
  h.kept (row := some a.block) ⟨rfl, rfl, rfl, by simp, fun k _ hk => heap_setCell_other X a k v (fun e => hk (by rw [e]))⟩ (.inr (by intro e; injection e with e; exact ha e.symm))
theorem ok_like {G H : Nt} (k : G.Like H) (o : G.Ok) : H.Ok :=
  ⟨fun i hi => by rw [← k.m] at hi; rw [← k.fr i hi, ← k.N]; exact o.frN i hi, fun i hi => by rw [← k.m] at hi; rw [← k.to i hi, ← k.N]; exact o.toN i hi, fun i hi => by rw [← k.m] at hi; rw [← k.fr i hi, ← k.to i hi]; exact o.ne i hi, fun i hi => by rw [← k.m] at hi; rw [← k.cap i hi]; exact o.cap0 i hi, fun i hi => by rw [← k.m] at hi; rw [← k.cap i hi]; exact o.cap1 i hi⟩
/-- How the loop stands behind k rounds: the two networks that it makes. -/
structure TR (w : World) (N : Int) (p : Option Addr) (c A B M : Nat) (l : List Ac) (k : Nat) (X : World) : Prop where
  s : Below w.heap.size w X ∧ w.heap.size < X.heap.size ∧ X.cell? ⟨w.heap.size, 0, none⟩ = some (.int .i64 N) ∧ X.cell? ⟨w.heap.size, 1, none⟩ = some (.slice p l.length c)
  sz : M ≤ X.heap.size
  ex : ∃ va vb, X.heap[A]? = some (.cells #[.int .i64 N, va] 24 (0, 0)) ∧ X.heap[B]? = some (.cells #[.int .i64 N, vb] 24 (0, 0)) ∧ X.ownsRow M 50 3 va k (acv (turnL (l.take k))) ∧ X.ownsRow M 50 3 vb k (acv (l.reverse.take k)) ∧ (∀ g, va.ownBlock = some g → vb.ownBlock ≠ some g)
theorem new_at (X : World) (o o2 : Obj) : ((X.alloc o).alloc o2).heap[X.heap.size + 1]? = some o2 := by
  have hz := heap_alloc_new (X.alloc o) o2
  rw [show (X.alloc o).heap.size = X.heap.size + 1 by simp] at hz
  exact hz
theorem old_at (X : World) (o o2 : Obj) : ((X.alloc o).alloc o2).heap[X.heap.size]? = some o := (Go.Deep.blk_alloc_lt (X.alloc o) _ _ (by simp)).trans (heap_alloc_new X o)
theorem far_own {X Y : World} {v : Value} {A : Nat} {o : Obj} (g : X.grownBy Y v.ownBlock) (h : X.heap[A]? = some o) (hne : v.ownBlock ≠ some A) : Y.heap[A]? = some o :=
  (g.block A (Array.getElem?_eq_some_iff.1 h).1 (fun e => hne e.symm)).trans h
theorem kn_grown {w X Y : World} {N : Int} {p : Option Addr} {n c : Nat} {v : Value} (h : Below w.heap.size w X ∧ w.heap.size < X.heap.size ∧ X.cell? ⟨w.heap.size, 0, none⟩ = some (.int .i64 N) ∧ X.cell? ⟨w.heap.size, 1, none⟩ = some (.slice p n c)) (hb : ∀ b, v.ownBlock = some b → w.heap.size < b) (g : X.grownBy Y v.ownBlock) : Below w.heap.size w Y ∧ w.heap.size < Y.heap.size ∧ Y.cell? ⟨w.heap.size, 0, none⟩ = some (.int .i64 N) ∧ Y.cell? ⟨w.heap.size, 1, none⟩ = some (.slice p n c) :=
  kn_below h ((Below.refl _ _).grown g (by have := h.2.1; omega) (fun k hk => by have := hb k hk; omega))
theorem turn_take (l : List Ac) (k : Nat) (h : k < l.length) : acv (turnL (l.take (k + 1))) = acv (turnL (l.take k)) ++ [.int .i64 (l[k]'h).t, .int .i64 (l[k]'h).f, .int .i64 (l[k]'h).c] := by
  rw [List.take_succ_eq_append_getElem h]
  unfold turnL
  rw [List.map_append, acv_append]
  rfl
theorem back_take (l : List Ac) (k j : Nat) (h : k < l.length) (hj : j < l.length) (e : j = l.length - 1 - k) : acv (l.reverse.take (k + 1)) = acv (l.reverse.take k) ++ [.int .i64 (l[j]'hj).f, .int .i64 (l[j]'hj).t, .int .i64 (l[j]'hj).c] := by
  subst e
  rw [List.take_succ_eq_append_getElem (by simpa using h), acv_append, List.getElem_reverse]
  rfl
theorem own_setOtherV {X : World} {base size n : Nat} {e : TypeId} {xs : List Value} {u : Value} (h : X.ownsRow base e size u n xs) (a : Addr) (ha : a.block < base) (v : Value) : (X.setCell a v).ownsRow base e size u n xs :=
  h.kept (row := some a.block) ⟨rfl, rfl, rfl, by simp, fun k _ hk => heap_setCell_other X a k v (fun e => hk (by rw [e]))⟩ (.inr (fun e => by have := (h.lt _ e).1; omega))
theorem own_apart {X Y : World} {base size n : Nat} {e : TypeId} {xs : List Value} {u v : Value} (h : X.ownsRow base e size u n xs) (g : X.grownBy Y v.ownBlock) (dj : ∀ g, v.ownBlock = some g → u.ownBlock ≠ some g) : Y.ownsRow base e size u n xs :=
  h.kept g (by
    cases hv : u.ownBlock with
    | none => exact .inl rfl
    | some q => exact .inr (fun e => dj q e.symm hv))
theorem apart_new {X : World} {base size n g H : Nat} {e : TypeId} {xs : List Value} {u v : Value} (h : X.ownsRow base e size u n xs) (dj : ∀ g, v.ownBlock = some g → u.ownBlock ≠ some g) (hat : v.ownBlock = some g ∨ g = H) (hH : X.heap.size ≤ H) : u.ownBlock ≠ some g := by
  rcases hat with hat | hat
  · exact dj g hat
  · exact fun e => by have := (h.lt _ e).2; omega
theorem own_net {X : World} {M n : Nat} {v : Value} {L : List Ac} (h : X.ownsRow M 50 3 v n (acv L)) (hn : n = L.length) : ∃ p c, v = .slice p n c ∧ NetAt X p L := by
  rcases h.2 with ⟨e, e0⟩ | ⟨g, cap, cur, e, _⟩
  · refine ⟨none, 0, by rw [e, e0], fun hL => ?_⟩
    exact absurd (List.length_eq_zero_iff.1 (by omega)) hL
  · subst e
    exact ⟨_, _, rfl, net_own h hn⟩
theorem turn_zero {N : Int} {l : List Ac} (NK : NetOk N l) : ∀ a ∈ turnL l, acE N a = 0 := fun a ha => by
  obtain ⟨b, hb, rfl⟩ := List.mem_map.1 ha
  exact acE_zero (NK.t0 b hb) (NK.f0 b hb) (Ne.symm (NK.ne b hb)) (NK.c0 b hb)
theorem back_zero {N : Int} {l : List Ac} (NK : NetOk N l) : ∀ a ∈ l.reverse, acE N a = 0 := fun a ha => by
  have hb := List.mem_reverse.1 ha
  exact acE_zero (NK.f0 a hb) (NK.t0 a hb) (NK.ne a hb) (NK.c0 a hb)
theorem turn_val {N : Int} {l : List Ac} {s t : Nat} {f g : Nat → Int} {c d : Nat → Bool} (NK : NetOk N l) (hs : (s : Int) < N) (ht : (t : Int) < N) (hst : s ≠ t) (B : (netG N l).Best s t f c) (D : (netG N (turnL l)).Best t s g d) : (netG N (turnL l)).out g t = (netG N l).out f s := by
  have k := netG_turn N l
  rw [out_like k]
  exact (value_turned NK.ok (show s < N.toNat by omega) (show t < N.toNat by omega) hst B (Nt.Best.like k D)).symm
theorem back_val {N : Int} {l : List Ac} {s t : Nat} {f g : Nat → Int} {c d : Nat → Bool} (NK : NetOk N l) (hs : (s : Int) < N) (B : (netG N l).Best s t f c) (D : (netG N l.reverse).Best s t g d) : (netG N l.reverse).out g s = (netG N l).out f s := by
  have k := netG_back N l
  rw [out_like k]
  exact (value_back NK.ok (show s < N.toNat by omega) B (Nt.Best.like k D)).symm

set_option maxHeartbeats 8000000 in
set_option maxRecDepth 100000 in
theorem walk_main (N : Int) (l : List Ac) (p : Option Addr) (c : Nat) (s t : Int) (w : World) (hl : l.length ≤ maxLen) (hA : NetAt w p l) (hsm : smlB N l.length 64 200 = true) (he : endE N l s t = 0) :
    Calls Try.prog 9 #[.agg #[.int .i64 N, .slice p l.length c], .int .i64 s, .int .i64 t] w fun e w' => e = .returned (.bool true) ∧ Below w.heap.size w w' := by
  unfold maxLen at hl
  have K0 := Lib.hid (KN.start w N p l.length c 24)
  have HA := Lib.hid hA
  have SM := Lib.hid (fun x hx W => small_run N l.length p c 64 200 x hx W hl)
  clear hA
  have S1 := Lib.hid (fun W => SM.out true hsm W)
  have hs2 : N ≤ 64 ∧ l.length ≤ 200 := by unfold smlB at hsm; simpa using hsm
  clear SM hsm hl
  have EN := Lib.hid (fun W (h : Below w.heap.size w W) => ends_run N l p c s t W (by omega) (HA.out.below h))
  obtain ⟨ve, ⟨s0, s1⟩, ⟨t0, t1⟩, st⟩ := endE_ok he
  obtain ⟨NK, n1, n2⟩ := valE_ok ve
  obtain ⟨N', rfl⟩ : ∃ n : Nat, N = n := ⟨N.toNat, by omega⟩
  obtain ⟨s', rfl⟩ : ∃ n : Nat, s = n := ⟨s.toNat, by omega⟩
  obtain ⟨t', rfl⟩ : ∃ n : Nat, t = n := ⟨t.toNat, by omega⟩
  obtain ⟨G, eG⟩ : ∃ G, G = netG (N' : Int) l := ⟨_, rfl⟩
  have MX := Lib.hid (fun W (h : Below w.heap.size w W) => max_ok eG p c s' t' W (HA.out.below h) he)
  have GM : Hid (G.m = l.length) := Lib.hid (by rw [eG]; rfl)
  have NG : Hid (G.N = N') := Lib.hid (by rw [eG]; show (N' : Int).toNat = N'; omega)
  have HG : Hid G.Ok := Lib.hid (by rw [eG]; exact NK.ok)
  have HK := Lib.hid NK
  have EG := Lib.hid eG
  have HE := Lib.hid he
  have hs : s' < N' := by omega
  have ht : t' < N' := by omega
  have hst : s' ≠ t' := by omega
  have HST := Lib.hid hst
  rw [he] at EN
  clear ve s0 s1 t0 t1 st eG he NK n1 n2 hst
  go_enter Try.func9, Try.ntmps9
  go_wp2_with fail
  refine (S1.out _).mono ?_
  rintro _ w1 ⟨rfl, b1⟩
  have K1 := Lib.hid (K0.out.step b1)
  have k0 := K1.out.c0
  have k1 := K1.out.c1
  have E1 := Lib.hid (EN.out w1 K1.out.b)
  clear b1 S1 EN
  go_wp2_with fail
  refine E1.out.mono ?_
  rintro _ w2 ⟨rfl, b2⟩
  have K2 := Lib.hid (K1.out.step b2)
  clear b2 E1 k0 k1
  have k0 := K2.out.c0
  have k1 := K2.out.c1
  have M2 := Lib.hid (MX.out w2 K2.out.b)
  go_wp2_with fail
  refine M2.out.mono ?_
  rintro _ w3 ⟨v, f, cu, b, rfl, hb1, hb2, hb3, hv, hb4⟩
  have BE := Lib.hid (And.intro hb3 hv)
  have K3 := Lib.hid (K2.out.step hb4)
  clear hb1 hb2 hb3 hv hb4 M2 k0 k1
  have k0 := K3.out.c0
  have k1 := K3.out.c1
  go_upto_region 4 with fail
  have hlt0 : w.heap.size < w3.heap.size := K3.out.lt
  have S0 : Below w.heap.size w w3 ∧ w.heap.size < w3.heap.size ∧ w3.cell? ⟨w.heap.size, 0, none⟩ = some (.int .i64 (N' : Int)) ∧ w3.cell? ⟨w.heap.size, 1, none⟩ = some (.slice p l.length c) := ⟨K3.out.b, K3.out.lt, k0, k1⟩
  go_cut [10, 11] from 39 to 44 (fun x y wx => ∃ A B, x = .pointer (some ⟨A, 0, none⟩) ∧ y = .pointer (some ⟨B, 0, none⟩) ∧ A ≠ B ∧ w.heap.size < A ∧ w.heap.size < B ∧ (Below w.heap.size w wx ∧ w.heap.size < wx.heap.size ∧ wx.cell? ⟨w.heap.size, 0, none⟩ = some (.int .i64 (N' : Int)) ∧ wx.cell? ⟨w.heap.size, 1, none⟩ = some (.slice p l.length c)) ∧ wx.heap[A]? = some (.cells #[.int .i64 (N' : Int), .slice none 0 0] 24 (0, 0)) ∧ wx.heap[B]? = some (.cells #[.int .i64 (N' : Int), .slice none 0 0] 24 (0, 0)))
  case first =>
    clear K0 K1 K2 MX
    go_region_held3 (fun X => Below w.heap.size w X ∧ w.heap.size < X.heap.size ∧ X.cell? ⟨w.heap.size, 0, none⟩ = some (.int .i64 (N' : Int)) ∧ X.cell? ⟨w.heap.size, 1, none⟩ = some (.slice p l.length c)) (first | assumption | exact kn_drew (by assumption) | exact kn_alloc (by assumption) _ | exact kn_alloc S0 _ | exact kn_alloc (kn_drew S0) _ | exact kn_alloc (kn_alloc S0 _) _ | exact kn_alloc (kn_alloc (kn_drew S0) _) _ | exact kn_drew (kn_alloc S0 _) | exact kn_drew (kn_alloc (kn_alloc S0 _) _))
      (fail)
    all_goals
      go_wp2_with fail
      go_meet
      case rel =>
        have S1 := kn_drew (kn_alloc (kn_alloc S0 (.cells #[.int .i64 (N' : Int), .slice none 0 0] 24)) (.cells #[.int .i64 (N' : Int), .slice none 0 0] 24))
        first
          | exact ⟨_, _, rfl, rfl, by omega, by omega, by omega, S1, old_at _ _ _, new_at _ _ _⟩
          | exact ⟨_, _, rfl, rfl, by omega, by omega, by omega, S1, new_at _ _ _, old_at _ _ _⟩
  case rest =>
    obtain ⟨A, B, rfl, rfl, hAB, hA, hB, SX, hdA, hdB⟩ := hcut
    obtain ⟨M, hM⟩ : ∃ M, M = wc.heap.size := ⟨_, rfl⟩
    have hAM : A < M := by rw [hM]; exact (Array.getElem?_eq_some_iff.1 hdA).1
    have hBM : B < M := by rw [hM]; exact (Array.getElem?_eq_some_iff.1 hdB).1
    have T0 : Hid (TR w (N' : Int) p c A B M l 0 wc) := Lib.hid ⟨SX, Nat.le_of_eq hM, _, _, hdA, hdB, World.ownsRow_nil wc M _ 3, World.ownsRow_nil wc M _ 3, fun g hg => by cases hg⟩
    have BX := Lib.hid SX.1
    obtain ⟨i0, hi0, hz0, hz1, hz2⟩ := info_parts arcInfoZ
    have hM0 : w.heap.size < M := by omega
    clear hM SX hdA hdB S0 k0 k1 K0 K1 K2 K3
    go_wp2_with fail
    go_loopw [12] (fun i wr => ∃ k : Nat, i = .int .i64 (k : Int) ∧ k ≤ l.length ∧ Hid (TR w (N' : Int) p c A B M l k wr)) (fun i _ => l.length - (intOf i).toNat)
    case atStart => exact ⟨0, rfl, Nat.zero_le _, T0⟩
    case round =>
      clear T0
      obtain ⟨k, rfl, hk, T⟩ := hrel
      have k0 := T.out.s.2.2.1
      have k1 := T.out.s.2.2.2
      by_cases hlt : k < l.length
      · obtain ⟨ba, oa, hp, hba, hca⟩ := HA.out (by intro e; rw [e] at hlt; simp at hlt)
        subst hp
        obtain ⟨va, vb, hdA, hdB, oA, oB, dj⟩ := T.out.ex
        obtain ⟨j, hj⟩ : ∃ j, j = l.length - 1 - k := ⟨_, rfl⟩
        have hjl : j < l.length := by omega
        have q1 : (0 : Int) ≤ (k : Int) := by omega
        have q2 : (k : Int) < (l.length : Int) := by omega
        have ka := cell_of _ _ 1 _ _ _ hdA rfl
        have hAr : A < wr.heap.size := (Array.getElem?_eq_some_iff.1 hdA).1
        have hBr : B < wr.heap.size := (Array.getElem?_eq_some_iff.1 hdB).1
        obtain ⟨x, hx⟩ : ∃ x, x = l[k].f := ⟨_, rfl⟩
        obtain ⟨y, hy⟩ : ∃ y, y = l[k].t := ⟨_, rfl⟩
        obtain ⟨z, hz⟩ : ∃ z, z = l[k].c := ⟨_, rfl⟩
        have cx : wr.cell? ⟨ba, oa + k * 3, none⟩ = some (.int .i64 x) := by rw [hx]; exact (T.out.s.1.cell (p := ⟨ba, _, none⟩) hba).trans (hca k hlt).1
        have cy : wr.cell? ⟨ba, oa + k * 3 + 1, none⟩ = some (.int .i64 y) := by rw [hy]; exact (T.out.s.1.cell (p := ⟨ba, _, none⟩) hba).trans (hca k hlt).2.1
        have cz : wr.cell? ⟨ba, oa + k * 3 + 2, none⟩ = some (.int .i64 z) := by rw [hz]; exact (T.out.s.1.cell (p := ⟨ba, _, none⟩) hba).trans (hca k hlt).2.2
        have TT := Lib.hid (show acv (turnL (l.take (k + 1))) = acv (turnL (l.take k)) ++ [.int .i64 y, .int .i64 x, .int .i64 z] by rw [hx, hy, hz]; exact turn_take l k hlt)
        have TB := Lib.hid (fun (X : World) (h : Below w.heap.size w X) => (show X.cell? ⟨ba, oa + j * 3, none⟩ = some (.int .i64 l[j].f) ∧ X.cell? ⟨ba, oa + j * 3 + 1, none⟩ = some (.int .i64 l[j].t) ∧ X.cell? ⟨ba, oa + j * 3 + 2, none⟩ = some (.int .i64 l[j].c) from ⟨(h.cell (p := ⟨ba, _, none⟩) hba).trans (hca j hjl).1, (h.cell (p := ⟨ba, _, none⟩) hba).trans (hca j hjl).2.1, (h.cell (p := ⟨ba, _, none⟩) hba).trans (hca j hjl).2.2⟩))
        have TB2 := Lib.hid (back_take l k j hlt hjl hj)
        have HS := Lib.hid T.out.s
        have hsz : M ≤ wr.heap.size := T.out.sz
        have hva : ∀ b, va.ownBlock = some b → M ≤ b := fun b hb => (oA.lt b hb).1
        have OA := Lib.hid oA
        have OB := Lib.hid oB
        have DJ := Lib.hid dj
        have HVA := Lib.hid hva
        have HDA := Lib.hid hdA
        have HDB := Lib.hid hdB
        have NA := Lib.hid (new_at wr (.cells #[.int .i64 x, .int .i64 y, .int .i64 z] 50) (.cells #[.int .i64 y, .int .i64 x, .int .i64 z] 50))
        clear T hx hy hz hca oA oB dj hva hdA hdB
        go_wp2_with (at_builtin; refine wpList_append_lies _ rfl _ _ 22 rfl M 50 i0 (.agg #[.int .i64 0, .int .i64 0, .int .i64 0]) 3 24 Try.underlying22 hi0 hz0 hz1 hz2 rfl (by decide) va k (acv (turnL (l.take k))) rfl ((OA.out.alloc _).alloc _) ⟨wr.heap.size + 1, 0, none⟩ 1 1 [.int .i64 y, .int .i64 x, .int .i64 z] rfl rfl (World.news_of_block NA.out) (by simp [Value.oneCell']) (by omega) (by unfold maxLen; omega) (by omega) (by simp; omega) (wr.heap.size + 2) (by simp) ?_; intro g cap w5 hown hgrow hat hlt5; have FA := far_own hgrow ((Go.Deep.blk_alloc_lt _ _ _ (by have := (Array.getElem?_eq_some_iff.1 HDA.out).1; simp; omega)).trans ((Go.Deep.blk_alloc_lt _ _ _ (Array.getElem?_eq_some_iff.1 HDA.out).1).trans HDA.out)) (fun e => by have := HVA.out _ e; omega); have fa1 := cell_of _ _ 1 _ _ _ FA rfl; have ff1 := frozen_of_row _ _ 1 _ _ FA)
        have T6 : Hid ((Below w.heap.size w (w5.setCell ⟨A, 1, none⟩ (.slice (some ⟨g, 0, none⟩) (k + 1) cap)) ∧ w.heap.size < (w5.setCell ⟨A, 1, none⟩ (.slice (some ⟨g, 0, none⟩) (k + 1) cap)).heap.size ∧ (w5.setCell ⟨A, 1, none⟩ (.slice (some ⟨g, 0, none⟩) (k + 1) cap)).cell? ⟨w.heap.size, 0, none⟩ = some (.int .i64 (N' : Int)) ∧ (w5.setCell ⟨A, 1, none⟩ (.slice (some ⟨g, 0, none⟩) (k + 1) cap)).cell? ⟨w.heap.size, 1, none⟩ = some (.slice (some ⟨ba, oa, none⟩) l.length c)) ∧ (w5.setCell ⟨A, 1, none⟩ (.slice (some ⟨g, 0, none⟩) (k + 1) cap)).heap[A]? = some (.cells #[.int .i64 (N' : Int), .slice (some ⟨g, 0, none⟩) (k + 1) cap] 24 (0, 0)) ∧ (w5.setCell ⟨A, 1, none⟩ (.slice (some ⟨g, 0, none⟩) (k + 1) cap)).heap[B]? = some (.cells #[.int .i64 (N' : Int), vb] 24 (0, 0)) ∧ (w5.setCell ⟨A, 1, none⟩ (.slice (some ⟨g, 0, none⟩) (k + 1) cap)).ownsRow M 50 3 (.slice (some ⟨g, 0, none⟩) (k + 1) cap) (k + 1) (acv (turnL (l.take (k + 1)))) ∧ (w5.setCell ⟨A, 1, none⟩ (.slice (some ⟨g, 0, none⟩) (k + 1) cap)).ownsRow M 50 3 vb k (acv (l.reverse.take k)) ∧ vb.ownBlock ≠ some g) := Lib.hid (by
          have FB := far_own hgrow ((Go.Deep.blk_alloc_lt _ _ _ (by simp; omega)).trans ((Go.Deep.blk_alloc_lt _ _ _ hBr).trans HDB.out)) (fun e => by have := HVA.out _ e; omega)
          refine ⟨kn_set (kn_grown (kn_alloc (kn_alloc HS.out _) _) (fun b hb => by have := HVA.out b hb; omega) hgrow) ⟨A, 1, none⟩ hA _, heap_setCell_same w5 A 1 _ _ _ FA, (heap_setCell_other w5 ⟨A, 1, none⟩ B _ (Ne.symm hAB)).trans FB, ?_, own_setOtherV (own_apart ((OB.out.alloc _).alloc _) hgrow DJ.out) ⟨A, 1, none⟩ hAM _, apart_new OB.out DJ.out hat (by omega)⟩
          rw [TT.out]
          exact own_setOtherV hown ⟨A, 1, none⟩ hAM _)
        clear FA fa1 ff1 hown hgrow hat hlt5 hAr hBr ka cx cy cz HS OA OB DJ HVA HDA HDB NA TT hsz k0 k1
        revert T6
        generalize (w5.setCell { block := A, off := 1 } (Value.slice (some { block := g, off := 0 }) (k + 1) cap)) = w6
        intro T6
        have S6 := T6.out.1
        have k1 := T6.out.1.2.2.2
        have kb := cell_of _ _ 1 _ _ _ T6.out.2.2.1 rfl
        have hBr : B < w6.heap.size := (Array.getElem?_eq_some_iff.1 T6.out.2.2.1).1
        have hgM := (T6.out.2.2.2.1.lt g rfl)
        obtain ⟨hgM1, hgM2⟩ := hgM
        have OB6 := Lib.hid T6.out.2.2.2.2.1
        have DJ6 : Hid (∀ q, vb.ownBlock = some q → (Value.slice (some ⟨g, 0, none⟩) (k + 1) cap).ownBlock ≠ some q) := Lib.hid (fun q e e2 => T6.out.2.2.2.2.2 (by injection e2 with e2; rw [e, ← e2]))
        have HVB : Hid (∀ b, vb.ownBlock = some b → M ≤ b) := Lib.hid (fun b hb => (T6.out.2.2.2.2.1.lt b hb).1)
        obtain ⟨cx, cy, cz⟩ := TB.out w6 S6.1
        obtain ⟨x2, hx⟩ : ∃ x, x = l[j].f := ⟨_, rfl⟩
        obtain ⟨y2, hy⟩ : ∃ y, y = l[j].t := ⟨_, rfl⟩
        obtain ⟨z2, hz⟩ : ∃ z, z = l[j].c := ⟨_, rfl⟩
        rw [← hx] at cx TB2
        rw [← hy] at cy TB2
        rw [← hz] at cz TB2
        obtain ⟨m1, hm1⟩ : ∃ m, m = l.length - 1 := ⟨_, rfl⟩
        have hw1 : IntKind.i64.wrap ((l.length : Int) - 1) = (m1 : Int) := by rw [IntKind.wrap_i64]; omega
        have hw2 : IntKind.i64.wrap ((m1 : Int) - (k : Int)) = (j : Int) := by rw [IntKind.wrap_i64]; omega
        have q3 : (0 : Int) ≤ (j : Int) := by omega
        have q4 : (j : Int) < (l.length : Int) := by omega
        have KX := Lib.hid (fun (X : World) (h : (Below w.heap.size w X ∧ w.heap.size < X.heap.size ∧ X.cell? ⟨w.heap.size, 0, none⟩ = some (.int .i64 (N' : Int)) ∧ X.cell? ⟨w.heap.size, 1, none⟩ = some (.slice (some ⟨ba, oa, none⟩) l.length c))) => (show (Below w.heap.size w X ∧ w.heap.size < X.heap.size ∧ X.cell? ⟨w.heap.size, 0, none⟩ = some (.int .i64 (N' : Int)) ∧ X.cell? ⟨w.heap.size, 1, none⟩ = some (.slice (some ⟨ba, oa, none⟩) l.length c)) ∧ X.cell? ⟨ba, oa + j * 3, none⟩ = some (.int .i64 x2) ∧ X.cell? ⟨ba, oa + j * 3 + 1, none⟩ = some (.int .i64 y2) ∧ X.cell? ⟨ba, oa + j * 3 + 2, none⟩ = some (.int .i64 z2) from ⟨h, by have e := TB.out X h.1; rw [← hx, ← hy, ← hz] at e; exact e⟩))
        have S6' := KX.out w6 S6
        clear hx hy hz hm1 hj q1 q2 TB
        go_region_law
          ((refine step_append_lies _ (by rfl) _ _ _ (by rfl) M 50 i0 (.agg #[.int .i64 0, .int .i64 0, .int .i64 0]) 3 24 Try.underlying22 hi0 hz0 hz1 hz2 (by rfl) (by omega) vb k (acv (l.reverse.take k)) (by rfl) (by first | exact OB6.out.alloc _ | exact (OB6.out.alloc _).drew) ⟨w6.heap.size, 0, none⟩ 1 1 [.int .i64 x2, .int .i64 y2, .int .i64 z2] (by rfl) (by rfl) (World.news_of_block (cs := #[.int .i64 x2, .int .i64 y2, .int .i64 z2]) (t := 50) (fr := (0, 0)) (heap_alloc_new w6 _)) (by simp [Value.oneCell']) (by omega) (by unfold maxLen; omega) (by omega) (by first | omega | (simp; omega)) (w6.heap.size + 1) (by simp) ?_; intro g2 cap2 w7 hown2 hgrow2 hat2 hlt7; have S7 := Lib.hid (kn_grown (kn_drew (kn_alloc S6'.1 _)) (fun b hb => by have := HVB.out b hb; omega) hgrow2); have FB7 := far_own hgrow2 ((Go.Deep.blk_alloc_lt w6 _ _ hBr).trans T6.out.2.2.1) (fun e => by have := HVB.out _ e; omega); have fb1 := cell_of _ _ 1 _ _ _ FB7 rfl; have ffb1 := frozen_of_row _ _ 1 _ _ FB7))
        all_goals
          have FA7 := far_own hgrow2 ((Go.Deep.blk_alloc_lt w6 _ _ (Array.getElem?_eq_some_iff.1 T6.out.2.1).1).trans T6.out.2.1) (fun e => by have := HVB.out _ e; omega)
          have TN : Hid (TR w (N' : Int) (some ⟨ba, oa, none⟩) c A B M l (k + 1) (w7.setCell ⟨B, 1, none⟩ (.slice (some ⟨g2, 0, none⟩) (k + 1) cap2))) := Lib.hid ⟨kn_set S7.out ⟨B, 1, none⟩ hB _, by have := hown2.lt g2 rfl; simp; omega, _, _, (heap_setCell_other w7 ⟨B, 1, none⟩ A _ hAB).trans FA7, heap_setCell_same w7 B 1 _ _ _ FB7, own_setOtherV (own_apart (World.ownsRow.drew (T6.out.2.2.2.1.alloc _)) hgrow2 DJ6.out) ⟨B, 1, none⟩ hBM _, by rw [TB2.out]; exact own_setOtherV hown2 ⟨B, 1, none⟩ hBM _, fun q e e2 => apart_new T6.out.2.2.2.1 DJ6.out hat2 (by omega) (by injection e2 with e2; rw [e, ← e2])⟩
          clear FA7 FB7 fb1 ffb1 hown2 hgrow2 hat2 hlt7 S7 T6 OB6 DJ6 HVB cx cy cz TB2
          revert TN
          generalize (w7.setCell { block := B, off := 1 } (Value.slice (some { block := g2, off := 0 }) (k + 1) cap2)) = w8
          intro TN
          go_wp2_with fail
          go_roundw
          case rel => exact ⟨k + 1, by go_num, by omega, TN⟩
          case measure => simp [intOf]; omega
      · obtain rfl : k = l.length := by omega
        obtain ⟨va, vb, hdA, hdB, oA, oB, dj⟩ := T.out.ex
        rw [List.take_length] at oA
        rw [List.take_of_length_le (by simp)] at oB
        obtain ⟨pa, ca, rfl, nA⟩ := own_net oA (by simp [turnL])
        obtain ⟨pb, cb, rfl, nB⟩ := own_net oB (by simp)
        have a0 := cell_of _ _ 0 _ _ _ hdA rfl
        have a1 := cell_of _ _ 1 _ _ _ hdA rfl
        have hBr : B < wr.heap.size := (Array.getElem?_eq_some_iff.1 hdB).1
        have b0 := Lib.hid (cell_of _ _ 0 _ _ _ hdB rfl)
        have b1 := Lib.hid (cell_of _ _ 1 _ _ _ hdB rfl)
        have he1 : endE (N' : Int) (turnL l) (t' : Int) (s' : Int) = 0 := endE_new HE.out (by simp [turnL]) (turn_zero HK.out) (by omega) (by omega) (by have := HST.out; omega)
        have he2 : endE (N' : Int) l.reverse (s' : Int) (t' : Int) = 0 := endE_new HE.out (by simp) (back_zero HK.out) (by omega) (by omega) (by have := HST.out; omega)
        have M1 := Lib.hid (max_ok (G := netG (N' : Int) (turnL l)) rfl pa ca t' s' wr nA he1)
        have M2 := Lib.hid (fun W (h : Below wr.heap.size wr W) => max_ok (G := netG (N' : Int) l.reverse) rfl pb cb s' t' W (nB.below h) he2)
        rw [show (turnL l).length = l.length by simp [turnL]] at M1
        simp only [List.length_reverse] at M2
        have W1 := Lib.hid T.out.s
        clear he1 he2 nA nB oA oB dj hdA hdB T MX
        go_wp2_with fail
        refine M1.out.mono ?_
        rintro _ w9 ⟨v2, f2, cu2, b2, rfl, hb1, hb2, hb3, hv2, hb4⟩
        have e2 : v2 = v := by rw [hv2, BE.out.2, EG.out]; exact turn_val HK.out (by omega) (by omega) HST.out (by rw [← EG.out]; exact BE.out.1) hb3
        subst e2
        have c0 : w9.cell? ⟨B, 0, none⟩ = some (.int .i64 (N' : Int)) := (hb4.cell (p := ⟨B, 0, none⟩) hBr).trans b0.out
        have c1 : w9.cell? ⟨B, 1, none⟩ = some (.slice pb l.length cb) := (hb4.cell (p := ⟨B, 1, none⟩) hBr).trans b1.out
        have M3 := Lib.hid (M2.out w9 hb4)
        have W2 := Lib.hid (W1.out.1.trans (hb4.mono (Nat.le_of_lt W1.out.2.1)))
        clear hb1 hb2 hb3 hb4 hv2 a0 a1 b0 b1 M1 M2 k0 k1
        go_wp2_with fail
        refine M3.out.mono ?_
        rintro _ w10 ⟨v3, f3, cu3, b3, rfl, hb1, hb2, hb3, hv3, hb4⟩
        have e3 : v3 = v2 := by rw [hv3, BE.out.2, EG.out]; exact back_val HK.out (by omega) (by rw [← EG.out]; exact BE.out.1) hb3
        subst e3
        have e4 : (v3 == v3) = true := by simp
        have W3 := Lib.hid (W2.out.trans (hb4.mono W2.out.size))
        clear hb1 hb2 hb3 hb4 hv3 c0 c1 M3
        go_wp2_with fail
        refine (awake_run _).mono ?_
        rintro _ w11 ⟨rfl, b11⟩
        have W4 := Lib.hid (W3.out.trans (b11.mono W3.out.size))
        clear b11
        go_wp2_with fail
        go_ret
        exact ⟨rfl, W4.out⟩

set_option maxHeartbeats 8000000 in
set_option maxRecDepth 100000 in
theorem walk (N : Int) (l : List Ac) (p : Option Addr) (c : Nat) (s t : Int) (w : World) (hl : l.length ≤ maxLen) (hA : NetAt w p l) (ws : -9223372036854775808 ≤ s ∧ s ≤ 9223372036854775807) (wt : -9223372036854775808 ≤ t ∧ t ≤ 9223372036854775807) :
    Calls Try.prog 9 #[.agg #[.int .i64 N, .slice p l.length c], .int .i64 s, .int .i64 t] w fun e w' => e = .returned (.bool true) ∧ Below w.heap.size w w' := by
  have hl0 := hl
  unfold maxLen at hl
  have K0 := Lib.hid (KN.start w N p l.length c 24)
  have HA := Lib.hid hA
  have SM := Lib.hid (fun x hx W => small_run N l.length p c 64 200 x hx W hl)
  clear hA ws wt
  cases hsm : smlB N l.length 64 200
  · have S1 := Lib.hid (fun W => SM.out false hsm W)
    clear SM hsm
    go_enter Try.func9, Try.ntmps9
    go_wp2_with fail
    refine (S1.out _).mono ?_
    rintro _ w1 ⟨rfl, b1⟩
    have K1 := Lib.hid (K0.out.step b1)
    clear b1
    go_wp2_with fail
    refine (awake_run _).mono ?_
    rintro _ w2 ⟨rfl, b2⟩
    have K2 := Lib.hid (K1.out.step b2)
    clear b2
    go_wp2_with fail
    go_ret
    exact ⟨rfl, K2.out.b⟩
  · have hsm0 := hsm
    have S1 := Lib.hid (fun W => SM.out true hsm W)
    have hs2 : N ≤ 64 ∧ l.length ≤ 200 := by unfold smlB at hsm; simpa using hsm
    clear SM hsm hl
    have EN := Lib.hid (fun W (h : Below w.heap.size w W) => ends_run N l p c s t W (by omega) (HA.out.below h))
    by_cases he : endE N l s t = 0
    · exact walk_main N l p c s t w hl0 HA.out hsm0 he
    · have e1 : (endE N l s t == 0) = false := by simpa using he
      have e2 : (endE N l s t != 0) = true := by simpa using he
      obtain ⟨x, hx⟩ : ∃ x, x = endE N l s t := ⟨_, rfl⟩
      rw [← hx] at EN e1 e2
      clear he hx
      go_enter Try.func9, Try.ntmps9
      go_wp2_with fail
      refine (S1.out _).mono ?_
      rintro _ w1 ⟨rfl, b1⟩
      have K1 := Lib.hid (K0.out.step b1)
      have k0 := K1.out.c0
      have k1 := K1.out.c1
      have E1 := Lib.hid (EN.out w1 K1.out.b)
      clear b1 S1 EN
      go_wp2_with fail
      refine E1.out.mono ?_
      rintro _ w2 ⟨rfl, b2⟩
      have K2 := Lib.hid (K1.out.step b2)
      clear b2 E1 k0 k1
      go_wp2_with fail
      refine (awake_run _).mono ?_
      rintro _ w4 ⟨rfl, b4⟩
      have K4 := Lib.hid (K2.out.step b4)
      clear b4
      go_wp2_with fail
      go_ret
      exact ⟨rfl, K4.out.b⟩


set_option maxRecDepth 100000 in
theorem lifted (os : Os) (started : os.Started) (H : Type) (enc : TypeId × Value → H) :
    ReturnsInHanded {} Try.checked os 9 .any (Rows.flowTurnsSpec.pre6 enc Try.prog Try.f9 Rows.flowTurnsRow.domain false) (Rows.flowTurnsSpec.post enc Try.prog Try.f9 false true false false) := by
  refine returnsInHanded_of_change (C := Try.checked) own started (by kernel_rfl) Try.func9
    (ChangeSpec.witness6 (enc := enc) (C := Try.checked) false ⟨#[], #[.agg #[.int .i64 0, .slice none 0 0], .int .i64 0, .int .i64 0], []⟩ 8 (by kernel_rfl) (by kernel_rfl) (by kernel_rfl) (by kernel_rfl)) ?_
  intro W base args ds gs before hval0 hW hcnd _
  have hval : ∀ (j : Nat) t v, Try.f9.params[j]? = some t → args[j]? = some v → Value.okWide Try.prog W .any base t v := hval0
  have hW' := hW
  obtain ⟨p, q, hA0, hV, rfl, hfz, hnd⟩ := hW
  have hA : DataW.TrodAll enc Try.prog W 0 (fun _ => true) true Try.f9.params.toList args.toList ds p := hA0
  rw [Try.params9] at hA hval
  obtain ⟨v0, vs0, d0, ds0, p0, q0, hargs, rfl, rfl, h0, r0⟩ := trodAll_cons hA
  obtain ⟨v1, vs1, d1, ds1, p1, q1, rfl, rfl, rfl, h1, r1⟩ := trodAll_cons r0
  obtain ⟨v2, vs2, d2, ds2, p2, q2, rfl, rfl, rfl, h2, r2⟩ := trodAll_cons r1
  obtain ⟨rfl, rfl, rfl⟩ := trodAll_nil r2
  obtain rfl : args = #[v0, v1, v2] := by cases args; simp_all
  obtain ⟨rfl, rfl⟩ := trodVars_none hV
  have k0' := h0
  have lt0 : ∀ x ∈ p0, x.block < W.heap.size := by obtain ⟨m, hm⟩ := k0'; exact DataW.trod_lt m _ _ _ hm
  have k1' := h1
  have lt1 : ∀ x ∈ p1, x.block < W.heap.size := by obtain ⟨m, hm⟩ := k1'; exact DataW.trod_lt m _ _ _ hm
  have k2' := h2
  have lt2 : ∀ x ∈ p2, x.block < W.heap.size := by obtain ⟨m, hm⟩ := k2'; exact DataW.trod_lt m _ _ _ hm
  obtain ⟨N0, a0, l0, c0, rfl, hl0, hn0⟩ := net_form (hval 0 24 v0 rfl rfl) h0
  obtain ⟨n1, rfl, rfl, rfl, w1⟩ := open_int Try.underlying3 (hval 1 3 v1 rfl rfl) h1
  obtain ⟨n2, rfl, rfl, rfl, w2⟩ := open_int Try.underlying3 (hval 2 3 v2 rfl rfl) h2
  clear hA0 hval0
  simp only [List.append_nil] at hW'
  refine (walk N0 l0 a0 c0 n1 n2 W hl0 hn0 (wf_i64 w1) (wf_i64 w2)).mono fun e W' ⟨he, bel⟩ => ?_
  subst he
  exact ⟨_, rfl, _, _, _, [], _, [], hW', trodAll_mk1 (shut_bool Try.underlying4 _), (trodAll_cons_mk (Below.trod laidOut (by kernel_rfl) (of_decide_eq_true (by kernel_rfl)) k0' bel lt0) (trodAll_cons_mk (Below.trod laidOut (by kernel_rfl) (of_decide_eq_true (by kernel_rfl)) k1' bel lt1) (trodAll_cons_mk (Below.trod laidOut (by kernel_rfl) (of_decide_eq_true (by kernel_rfl)) k2' bel lt2) trodAll_mk0))), rfl, bel.frame _, fun h => by cases h⟩

theorem over : Rows.flowTurnsRow.holds Try.pinned (OpenSpec.ofChange Rows.flowTurnsSpec) :=
  OpenClaim.holds_of_wide 9 Try.f9 rfl rfl rfl rfl rfl rfl rfl ⟨rfl, rfl, rfl, rfl, rfl⟩ rfl rfl rfl rfl rfl (by kernel_rfl) Try.func9 (by kernel_rfl)
    (of_decide_eq_true (by kernel_rfl)) (by unfold Func.isWrapper; first | (rw [if_pos (by decide +kernel)]; kernel_rfl) | (rw [if_neg (by decide +kernel)]; exact ⟨rfl, rfl⟩))
    (fun os started H enc _ => lifted os started H enc)
end flowTurns

theorem flowTurns_holds : Rows.FlowTurnsSaid := flowTurns.over
#print axioms flowTurns_holds
end Go.Proofs.Ytjkempammohkaaa
