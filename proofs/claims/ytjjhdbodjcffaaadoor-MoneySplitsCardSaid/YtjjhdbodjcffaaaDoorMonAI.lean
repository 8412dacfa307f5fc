/-
  The merge of two sorted neighbours: by halves, by rotation, by itself.
-/
import Derived.Test.YtjjhdbodjcffaaaDoorMonAH
import Derived.Deep.DeepCutAuto
namespace Go.Proofs.YtjjhdbodjcffaaaDoor
open Go.RowKit Go.Lib Go.Sort Go.Shelf
open Sym
set_option linter.unusedVariables false

theorem Mg.right_of {α : Type} [Inhabited α] {lt lt0 : α → α → Bool} {d d1 d2 : Array α} {a b s e mid : Nat} (h : Half lt lt0 d d1 a b s e mid) (D : Done lt d1 a mid d2) (h1 : mid < e) (h2 : e < b) : Mg lt lt0 d2 mid e b := by
  have g := h.right h1 h2
  have hx : ∀ i, mid ≤ i → d2[i]! = d1[i]! := fun i hi => D.1.2.1 i (.inr hi)
  refine ⟨h1, h2, by rw [D.1.1]; exact g.bs, fun i j i1 i2 i3 => ?_, fun i j i1 i2 i3 => ?_, fun i j i1 i2 j1 j2 => ?_⟩
  · rw [hx i i1, hx j (by omega)]; exact g.sl i j i1 i2 i3
  · rw [hx i (by omega), hx j (by omega)]; exact g.sr i j i1 i2 i3
  · rw [hx i i1, hx j (by omega)]; exact g.ag i j i1 i2 j1 j2

/-- What the merge does to a row, in every world of the sort. -/
def SymC {α : Type} [Inhabited α] (enc : α → Value) (lt lt0 : α → α → Bool) (g : Nat) (cb : Array Value) (blk off cap n : Nat) (w0 : World) (s : Nat) : Prop :=
  ∀ (a m b : Nat) (d : Array α) (w : World), b - a ≤ s → d.size = n → SW enc w0 blk off d w → Mg lt lt0 d a m b →
    Calls Tryd.prog 62 #[.slice (some ⟨blk, off, none⟩) n cap, .int .i64 a, .int .i64 m, .int .i64 b, .func (.func g) #[] cb] w fun e w' => e = .returned (.tuple #[]) ∧ ∃ d', Done lt d a b d' ∧ SW enc w0 blk off d' w'

set_option maxHeartbeats 16000000 in
set_option maxRecDepth 1000000 in
theorem sym_both {α : Type} [Inhabited α] (enc : α → Value) (lt : α → α → Bool) (hS : SWO lt) (cf : α → α → Int) (g : Nat) (cb : Array Value) (blk off cap a m b : Nat) (d0 d : Array α) (w0 w : World)
    (eg : ∀ args w, (callFunc g args).run Tryd.prog w = .ok (.enter g args) w) (hcmp : CmpLays1 Tryd.prog g cb enc cf blk off d0.size w0) (R : Row1 enc w0 blk off d0) (hsz : d0.size < 1000000) (hs : d.size = d0.size)
    (S : SW enc w0 blk off d w) (G : Mg lt (ltOf cf) d a m b) (hm : m ≠ a + 1) (hb : b ≠ m + 1) (s : Nat) (hk : b - a ≤ s + 1) (IH : SymC enc lt (ltOf cf) g cb blk off cap d0.size w0 s) :
    Calls Tryd.prog 62 #[.slice (some ⟨blk, off, none⟩) d0.size cap, .int .i64 a, .int .i64 m, .int .i64 b, .func (.func g) #[] cb] w fun e w' => e = .returned (.tuple #[]) ∧ ∃ d', Done lt d a b d' ∧ SW enc w0 blk off d' w' := by
  have mixed := mixedOrders
  have hcl0 := R.hO.cells
  simp only [Value.cells] at hcl0
  have hst := R.hO.store Tryd.prog
  have HC : Aside _ := hcmp
  have S0 : Aside _ := S
  have HG : Aside _ := G
  have HI : Aside _ := IH
  have CR : Aside (∀ (a m b : Nat) (dk : Array α) (X : World), dk.size = d0.size → SW enc w0 blk off dk X → a < m → m < b → b ≤ d0.size →
      Calls Tryd.prog 71 #[.slice (some ⟨blk, off, none⟩) d0.size cap, .int .i64 a, .int .i64 m, .int .i64 b, .func (.func g) #[] cb] X fun e w' => e = .returned (.tuple #[]) ∧ SW enc w0 blk off (rotF dk m (m - a) (b - m)) w') :=
    fun a m b dk X h1 h2 h3 h4 h5 => by rw [← h1]; exact rotate_run enc g cb blk off cap a m b d0 dk w0 X R h1.symm h2 h3 h4 (by omega) (by omega)
  have am := G.am
  have mb := G.mb
  have bs := G.bs
  obtain ⟨q1, hq1⟩ : ∃ q1, q1 = m - a := ⟨_, rfl⟩
  have ra1 : IntKind.i64.wrap ((m : Int) - (a : Int)) = (q1 : Int) := by rw [IntKind.wrap_i64]; omega
  have rq1 : ((q1 : Int) == 1) = false := by rw [beq_eq_false_iff_ne]; omega
  obtain ⟨q2, hq2⟩ : ∃ q2, q2 = b - m := ⟨_, rfl⟩
  have ra2 : IntKind.i64.wrap ((b : Int) - (m : Int)) = (q2 : Int) := by rw [IntKind.wrap_i64]; omega
  have rq2 : ((q2 : Int) == 1) = false := by rw [beq_eq_false_iff_ne]; omega
  -- the middle, and where the search begins
  obtain ⟨mid, hmid⟩ : ∃ mid, mid = (a + b) / 2 := ⟨_, rfl⟩
  obtain ⟨n, hn⟩ : ∃ n, n = mid + m := ⟨_, rfl⟩
  obtain ⟨p, hp⟩ : ∃ p, p + 1 = n := ⟨n - 1, by omega⟩
  obtain ⟨s0, hs0⟩ : ∃ s0, s0 = if mid < m then mid + m - b else a := ⟨_, rfl⟩
  obtain ⟨r0, hr0⟩ : ∃ r0, r0 = if mid < m then mid else m := ⟨_, rfl⟩
  have K : Sl a m b mid s0 r0 p := ⟨hmid, by omega, hs0, hr0⟩
  obtain ⟨k1, k2, k3, k4, k5, k6, k7⟩ := K.in am mb
  have MM : Aside (Mono (P3 (ltOf cf) d p) s0 r0) := mono3 hS G K
  have zm : ((a : Int) + (b : Int)) / 2 = (mid : Int) := by omega
  have zn : IntKind.i64.wrap ((mid : Int) + (m : Int)) = (n : Int) := by rw [IntKind.wrap_i64]; omega
  have zp : IntKind.i64.wrap ((n : Int) - 1) = (p : Int) := by rw [IntKind.wrap_i64]; omega
  have hlong : Hid (a + 3 < b + 0 ∨ a + 3 ≤ b) := Lib.hid (by omega)
  have HK : Aside (Sl a m b mid s0 r0 p) := K
  have K7 : Hid (∀ c, s0 ≤ c → c < r0 → m ≤ p - c ∧ p - c < b) := Lib.hid k7
  have HN : Hid (n = mid + m ∧ p + 1 = n) := Lib.hid ⟨hn, hp⟩
  have HS0 := Lib.hid hs0
  have HR0 := Lib.hid hr0
  have HMD := Lib.hid hmid
  clear hcmp S G IH hq1 hq2 hm hb hmid hn hp hs0 hr0 K k7
  go_enter Tryd.func62, Tryd.ntmps62
  go_upto_if 140 with fail
  go_cut [20, 21] (fun x y wx => x = .int .i64 s0 ∧ y = .int .i64 r0 ∧ wx = w)
  case first =>
    by_cases hmm : mid < m
    · have e1 : s0 = mid + m - b := by have := HS0.out; rw [if_pos hmm] at this; exact this
      have e2 : r0 = mid := by have := HR0.out; rw [if_pos hmm] at this; exact this
      have zs : IntKind.i64.wrap ((n : Int) - (b : Int)) = (s0 : Int) := by have := HN.out; rw [IntKind.wrap_i64]; omega
      have E2 := Lib.hid e2
      clear e1 e2
      go_wp2_with fail
      go_meet
      case rel => exact ⟨rfl, by rw [E2.out], rfl⟩
    · have e1 : s0 = a := by have := HS0.out; rw [if_neg hmm] at this; exact this
      have e2 : r0 = m := by have := HR0.out; rw [if_neg hmm] at this; exact this
      have E1 := Lib.hid e1
      have E2 := Lib.hid e2
      clear e1 e2
      go_wp2_with fail
      go_meet
      case rel => exact ⟨by rw [E1.out], by rw [E2.out], rfl⟩
  case rest =>
    obtain ⟨rfl, rfl, rfl⟩ := hcut
    go_wp2_with fail
    go_loopg [20, 21] (r0 - s0) (fun kx x10 x11 wr => ∃ (s r : Nat), x10 = .int .i64 s ∧ x11 = .int .i64 r ∧ s0 ≤ s ∧ s ≤ r ∧ r ≤ r0 ∧ r - s ≤ kx ∧ Aside (Sp (P3 (ltOf cf) d p) s0 r0 s r) ∧ Aside (SW enc w0 blk off d wr))
    case atStart => exact ⟨s0, r0, rfl, rfl, Nat.le_refl _, k1, Nat.le_refl _, Nat.le_refl _, Sp.start _ _ _ k1, S0⟩
    case round =>
      obtain ⟨x, r, rfl, rfl, ms, sr, rb, hkx, HS, S1⟩ := hrel
      clear S0
      by_cases hlt : x < r
      · obtain ⟨h, hh⟩ : ∃ h, h = (x + r) / 2 := ⟨_, rfl⟩
        have h1 : x ≤ h := by omega
        have h2 : h < r := by omega
        have hz : ((x : Int) + (r : Int)) / 2 = (h : Int) := by omega
        clear hh
        obtain ⟨j1, j2⟩ := K7.out h (by omega) (by omega)
        obtain ⟨j, hj⟩ : ∃ j, j = p - h := ⟨_, rfl⟩
        have hph : h ≤ p := by have := HN.out; omega
        have rj : IntKind.i64.wrap ((p : Int) - (h : Int)) = (j : Int) := by rw [IntKind.wrap_i64]; omega
        rw [← hj] at j1 j2
        obtain ⟨iN, hiN⟩ : ∃ q, q = j := ⟨_, rfl⟩
        obtain ⟨jN, hjN⟩ : ∃ q, q = h := ⟨_, rfl⟩
        have ea : ((j : Int)).toNat = iN := by omega
        have pa : (0 : Int) ≤ (j : Int) := by omega
        have ba : (j : Int) < (d0.size : Int) := by omega
        have ec : ((h : Int)).toNat = jN := by omega
        have pc : (0 : Int) ≤ (h : Int) := by omega
        have bc : (h : Int) < (d0.size : Int) := by omega
        obtain ⟨u, hu⟩ : ∃ x, x = d[j]! := ⟨_, rfl⟩
        obtain ⟨y, hy⟩ : ∃ x, x = d[h]! := ⟨_, rfl⟩
        have l1 := S1.out.cl R hs j (by omega)
        have l2 := S1.out.cl R hs h (by omega)
        rw [← hu, ← hiN] at l1
        rw [← hy, ← hjN] at l2
        have hc := S1.out.cmp HC.out hs u y
        have HP : Aside (P3 (ltOf cf) d p h = !decide (cf u y < 0)) := by rw [hu, hy, hj]; rfl
        clear hu hy hiN hjN hj
        obtain ⟨B, hB⟩ : ∃ B, decide (cf u y < 0) = B := ⟨_, rfl⟩
        rw [hB] at HP
        go_wp2_with fail
        go_quiet_grown (first | (go_at_fn g; refine Calls.grown_of (hc _ _)))
        have S2 : Aside (SW enc w0 blk off d (grow (wr.drewN nq) osq)) := S1.out.grown nq osq
        clear l1 l2 hc S1
        generalize grow (wr.drewN nq) osq = w2 at S2 ⊢
        clear nq osq ea ec
        cases B
        · go_wp2_with fail
          go_roundg (r - (h + 1))
          case measure => omega
          case rel => exact ⟨h + 1, r, by go_num, rfl, by omega, by omega, rb, Nat.le_refl _, HS.out.up MM.out h h1 h2 HP.out, S2⟩
        · go_wp2_with fail
          go_roundg (h - x)
          case measure => omega
          case rel => exact ⟨x, h, rfl, rfl, ms, h1, by omega, Nat.le_refl _, HS.out.down MM.out h h1 h2 HP.out, S2⟩
      · obtain rfl : r = x := by omega
        obtain ⟨e, he⟩ : ∃ e, e = mid + m - r := ⟨_, rfl⟩
        have HH : Aside (Half lt (ltOf cf) d (turned d m r e) a b r e mid) := by rw [he]; exact half hS HG.out HK.out HS.out
        have HTN : Aside ((r < m ∧ m < e → turned d m r e = rotF d m (m - r) (e - m)) ∧ (¬ (r < m ∧ m < e) → turned d m r e = d)) := ⟨fun h => by unfold turned; rw [if_pos h], fun h => by unfold turned; rw [if_neg h]⟩
        have ze : IntKind.i64.wrap ((n : Int) - (r : Int)) = (e : Int) := by have := HN.out; rw [IntKind.wrap_i64]; omega
        have rm : r ≤ m := by omega
        have rmid : r ≤ mid := by omega
        have am2 : a ≤ r := by omega
        have HE : Hid (e = mid + m - r) := Lib.hid he
        have eb : e ≤ b := HH.out.eb
        have hs1 : (turned d m r e).size = d.size := HH.out.size
        have hlen : a + 3 ≤ b := by have := hlong.out; omega
        have hmid2 : mid = (a + b) / 2 := HMD.out
        generalize turned d m r e = d1 at *
        clear HS MM HG HC hlong K7 HN HS0 HR0 HK HMD
        by_cases g1 : r < m
        · by_cases g2 : r < mid
          · by_cases g3 : a < r
            · by_cases g4 : e < b
              · have h1 : r < m := g1
                have h2 : m < e := by omega
                have h4 : r < mid := g2
                have h3 : a < r := g3
                have h5 : mid < e := by omega
                have h6 : e < b := g4
                clear he hmid2
                go_wp2_with fail
                refine (CR.out r m e d _ hs S1.out h1 h2 (by omega)).mono ?_
                rintro ee v1 ⟨rfl, T1⟩
                have T1 : Aside (SW enc w0 blk off d1 v1) := by rw [HTN.out.1 ⟨h1, h2⟩]; exact T1
                clear S1
                clear HTN CR
                go_wp2_with fail
                refine (HI.out a r mid d1 _ (by omega) (by omega) T1.out (HH.out.left h3 h4)).mono ?_
                rintro ee v2 ⟨rfl, d2, D2, T2⟩
                have T2 : Aside (SW enc w0 blk off d2 v2) := T2
                have D2 : Aside (Done lt d1 a mid d2) := D2
                have hs2 : d2.size = d1.size := D2.out.1.1
                clear T1
                go_wp2_with fail
                refine (HI.out mid e b d2 _ (by omega) (by omega) T2.out (Mg.right_of HH.out D2.out h5 h6)).mono ?_
                rintro ee v3 ⟨rfl, d3, D3, T3⟩
                have T3 : Aside (SW enc w0 blk off d3 v3) := T3
                have D3 : Aside (Done lt d2 mid b d3) := D3
                go_wp2_with fail
                go_end0
                exact ⟨rfl, _, HH.out.done bs (.inl ⟨h3, h4, D2.out⟩) (.inl ⟨h5, h6, D3.out⟩), T3.out⟩
              · have h1 : r < m := g1
                have h2 : m < e := by omega
                have h4 : r < mid := g2
                have h3 : a < r := g3
                have h5 : mid < e := by omega
                have hright : ¬ (mid < e ∧ e < b) := by omega
                clear he hmid2
                go_wp2_with fail
                refine (CR.out r m e d _ hs S1.out h1 h2 (by omega)).mono ?_
                rintro ee v1 ⟨rfl, T1⟩
                have T1 : Aside (SW enc w0 blk off d1 v1) := by rw [HTN.out.1 ⟨h1, h2⟩]; exact T1
                clear S1
                clear HTN CR
                go_wp2_with fail
                refine (HI.out a r mid d1 _ (by omega) (by omega) T1.out (HH.out.left h3 h4)).mono ?_
                rintro ee v2 ⟨rfl, d2, D2, T2⟩
                have T2 : Aside (SW enc w0 blk off d2 v2) := T2
                have D2 : Aside (Done lt d1 a mid d2) := D2
                have hs2 : d2.size = d1.size := D2.out.1.1
                clear T1
                go_wp2_with fail
                go_end0
                exact ⟨rfl, _, HH.out.done bs (.inl ⟨h3, h4, D2.out⟩) (.inr ⟨hright, rfl⟩), T2.out⟩
            · by_cases g4 : e < b
              · have h1 : r < m := g1
                have h2 : m < e := by omega
                have h4 : r < mid := g2
                have hleft : ¬ (a < r ∧ r < mid) := by omega
                have h5 : mid < e := by omega
                have h6 : e < b := g4
                clear he hmid2
                go_wp2_with fail
                refine (CR.out r m e d _ hs S1.out h1 h2 (by omega)).mono ?_
                rintro ee v1 ⟨rfl, T1⟩
                have T1 : Aside (SW enc w0 blk off d1 v1) := by rw [HTN.out.1 ⟨h1, h2⟩]; exact T1
                clear S1
                clear HTN CR
                go_wp2_with fail
                refine (HI.out mid e b d1 _ (by omega) (by omega) T1.out (HH.out.right h5 h6)).mono ?_
                rintro ee v3 ⟨rfl, d3, D3, T3⟩
                have T3 : Aside (SW enc w0 blk off d3 v3) := T3
                have D3 : Aside (Done lt d1 mid b d3) := D3
                go_wp2_with fail
                go_end0
                exact ⟨rfl, _, HH.out.done bs (.inr ⟨hleft, rfl⟩) (.inl ⟨h5, h6, D3.out⟩), T3.out⟩
              · have h1 : r < m := g1
                have h2 : m < e := by omega
                have h4 : r < mid := g2
                have hleft : ¬ (a < r ∧ r < mid) := by omega
                have h5 : mid < e := by omega
                have hright : ¬ (mid < e ∧ e < b) := by omega
                clear he hmid2
                go_wp2_with fail
                refine (CR.out r m e d _ hs S1.out h1 h2 (by omega)).mono ?_
                rintro ee v1 ⟨rfl, T1⟩
                have T1 : Aside (SW enc w0 blk off d1 v1) := by rw [HTN.out.1 ⟨h1, h2⟩]; exact T1
                clear S1
                clear HTN CR
                go_wp2_with fail
                go_end0
                exact ⟨rfl, _, HH.out.done bs (.inr ⟨hleft, rfl⟩) (.inr ⟨hright, rfl⟩), T1.out⟩
          · have hrot : ¬ (r < m ∧ m < e) := by omega
            have g6 : ¬ m < e := by omega
            have g7 : a < r := by omega
            have hleft : ¬ (a < r ∧ r < mid) := by omega
            have h5 : mid < e := by omega
            have h6 : e < b := by omega
            clear he hmid2
            have T1 : Aside (SW enc w0 blk off d1 wr) := by rw [HTN.out.2 hrot]; exact S1.out
            clear S1
            clear HTN CR
            go_wp2_with fail
            refine (HI.out mid e b d1 _ (by omega) (by omega) T1.out (HH.out.right h5 h6)).mono ?_
            rintro ee v3 ⟨rfl, d3, D3, T3⟩
            have T3 : Aside (SW enc w0 blk off d3 v3) := T3
            have D3 : Aside (Done lt d1 mid b d3) := D3
            go_wp2_with fail
            go_end0
            exact ⟨rfl, _, HH.out.done bs (.inr ⟨hleft, rfl⟩) (.inl ⟨h5, h6, D3.out⟩), T3.out⟩
        · by_cases g2 : r < mid
          · have hrot : ¬ (r < m ∧ m < e) := by omega
            have h3 : a < r := by omega
            have h4 : r < mid := g2
            have hright : ¬ (mid < e ∧ e < b) := by omega
            have g8 : ¬ mid < e := by omega
            clear he hmid2
            have T1 : Aside (SW enc w0 blk off d1 wr) := by rw [HTN.out.2 hrot]; exact S1.out
            clear S1
            clear HTN CR
            go_wp2_with fail
            refine (HI.out a r mid d1 _ (by omega) (by omega) T1.out (HH.out.left h3 h4)).mono ?_
            rintro ee v2 ⟨rfl, d2, D2, T2⟩
            have T2 : Aside (SW enc w0 blk off d2 v2) := T2
            have D2 : Aside (Done lt d1 a mid d2) := D2
            have hs2 : d2.size = d1.size := D2.out.1.1
            clear T1
            go_wp2_with fail
            go_end0
            exact ⟨rfl, _, HH.out.done bs (.inl ⟨h3, h4, D2.out⟩) (.inr ⟨hright, rfl⟩), T2.out⟩
          · have hrot : ¬ (r < m ∧ m < e) := by omega
            have hleft : ¬ (a < r ∧ r < mid) := by omega
            have g7 : a < r := by omega
            have hright : ¬ (mid < e ∧ e < b) := by omega
            have g8 : ¬ mid < e := by omega
            clear he hmid2
            have T1 : Aside (SW enc w0 blk off d1 wr) := by rw [HTN.out.2 hrot]; exact S1.out
            clear S1
            clear HTN CR
            go_wp2_with fail
            go_end0
            exact ⟨rfl, _, HH.out.done bs (.inr ⟨hleft, rfl⟩) (.inr ⟨hright, rfl⟩), T1.out⟩

theorem sym_all {α : Type} [Inhabited α] (enc : α → Value) (lt : α → α → Bool) (hS : SWO lt) (cf : α → α → Int) (g : Nat) (cb : Array Value) (blk off cap : Nat) (d0 : Array α) (w0 : World)
    (eg : ∀ args w, (callFunc g args).run Tryd.prog w = .ok (.enter g args) w) (hcmp : CmpLays1 Tryd.prog g cb enc cf blk off d0.size w0) (R : Row1 enc w0 blk off d0) (hsz : d0.size < 1000000) :
    ∀ s, SymC enc lt (ltOf cf) g cb blk off cap d0.size w0 s
  | 0 => fun a m b d w h1 h2 S G => absurd G.am (by have := G.mb; omega)
  | s + 1 => fun a m b d w h1 h2 S G => by
    by_cases hm : m = a + 1
    · exact sym_left enc lt hS cf g cb blk off cap a m b d0 d w0 w eg hcmp R hsz h2 S G hm
    · by_cases hb : b = m + 1
      · exact sym_right enc lt hS cf g cb blk off cap a m b d0 d w0 w eg hcmp R hsz h2 S G hm hb
      · exact sym_both enc lt hS cf g cb blk off cap a m b d0 d w0 w eg hcmp R hsz h2 S G hm hb s (by omega) (sym_all enc lt hS cf g cb blk off cap d0 w0 eg hcmp R hsz s)
end Go.Proofs.YtjjhdbodjcffaaaDoor
