/-
  The merge of two sorted neighbours, where one of them has one element.
-/
import Derived.Test.YtjjhdbodjcffaaaDoorMonAG
namespace Go.Proofs.YtjjhdbodjcffaaaDoor
open Go.RowKit Go.Lib Go.Sort Go.Shelf
open Sym
set_option linter.unusedVariables false

set_option maxHeartbeats 8000000 in
set_option maxRecDepth 1000000 in
theorem sym_left {α : Type} [Inhabited α] (enc : α → Value) (lt : α → α → Bool) (hS : SWO lt) (cf : α → α → Int) (g : Nat) (cb : Array Value) (blk off cap a m b : Nat) (d0 d : Array α) (w0 w : World)
    (eg : ∀ args w, (callFunc g args).run Tryd.prog w = .ok (.enter g args) w) (hcmp : CmpLays1 Tryd.prog g cb enc cf blk off d0.size w0) (R : Row1 enc w0 blk off d0) (hsz : d0.size < 1000000) (hs : d.size = d0.size)
    (S : SW enc w0 blk off d w) (G : Mg lt (ltOf cf) d a m b) (hm : m = a + 1) :
    Calls Tryd.prog 62 #[.slice (some ⟨blk, off, none⟩) d0.size cap, .int .i64 a, .int .i64 m, .int .i64 b, .func (.func g) #[] cb] w fun e w' => e = .returned (.tuple #[]) ∧ ∃ d', Done lt d a b d' ∧ SW enc w0 blk off d' w' := by
  have mixed := mixedOrders
  have hcl0 := R.hO.cells
  simp only [Value.cells] at hcl0
  have hst := R.hO.store Tryd.prog
  have HC : Aside _ := hcmp
  have S0 : Aside _ := S
  have HG : Aside _ := G
  have am := G.am
  have mb := G.mb
  have bs := G.bs
  have MM : Aside (Mono (P1 (ltOf cf) d a) m b) := mono1 hS G
  have ra1 : IntKind.i64.wrap ((m : Int) - (a : Int)) = 1 := by rw [IntKind.wrap_i64]; omega
  have HM := Lib.hid hm
  clear hcmp S G hm
  go_enter Tryd.func62, Tryd.ntmps62
  go_wp2_with fail
  go_loopg [10, 11] (b - m) (fun kx s10 s11 wr => ∃ (s r : Nat), s10 = .int .i64 s ∧ s11 = .int .i64 r ∧ m ≤ s ∧ s ≤ r ∧ r ≤ b ∧ r - s ≤ kx ∧ Aside (Sp (P1 (ltOf cf) d a) m b s r) ∧ Aside (SW enc w0 blk off d wr))
  case atStart => exact ⟨m, b, rfl, rfl, Nat.le_refl _, by omega, Nat.le_refl _, Nat.le_refl _, Sp.start _ _ _ (by omega), S0⟩
  case round =>
    obtain ⟨s, r, rfl, rfl, ms, sr, rb, hkx, HS, S1⟩ := hrel
    clear S0
    by_cases hlt : s < r
    · obtain ⟨h, hh⟩ : ∃ h, h = (s + r) / 2 := ⟨_, rfl⟩
      have h1 : s ≤ h := by omega
      have h2 : h < r := by omega
      have hz : ((s : Int) + (r : Int)) / 2 = (h : Int) := by omega
      clear hh
      obtain ⟨iN, hiN⟩ : ∃ q, q = h := ⟨_, rfl⟩
      obtain ⟨jN, hjN⟩ : ∃ q, q = a := ⟨_, rfl⟩
      have ea : ((h : Int)).toNat = iN := by omega
      have pa : (0 : Int) ≤ (h : Int) := by omega
      have ba : (h : Int) < (d0.size : Int) := by omega
      have ec : ((a : Int)).toNat = jN := by omega
      have pc : (0 : Int) ≤ (a : Int) := by omega
      have bc : (a : Int) < (d0.size : Int) := by omega
      obtain ⟨x, hx⟩ : ∃ x, x = d[h]! := ⟨_, rfl⟩
      obtain ⟨y, hy⟩ : ∃ x, x = d[a]! := ⟨_, rfl⟩
      have l1 := S1.out.cl R hs h (by omega)
      have l2 := S1.out.cl R hs a (by omega)
      rw [← hx, ← hiN] at l1
      rw [← hy, ← hjN] at l2
      have hc := S1.out.cmp HC.out hs x y
      have HP : Aside (P1 (ltOf cf) d a h = decide (cf x y < 0)) := by rw [hx, hy]; rfl
      clear hx hy hiN hjN
      obtain ⟨B, hB⟩ : ∃ B, decide (cf x y < 0) = B := ⟨_, rfl⟩
      rw [hB] at HP
      go_wp2_with fail
      go_quiet_grown (first | (go_at_fn g; refine Calls.grown_of (hc _ _)))
      have S2 : Aside (SW enc w0 blk off d (grow (wr.drewN nq) osq)) := S1.out.grown nq osq
      clear l1 l2 hc S1
      generalize grow (wr.drewN nq) osq = w2 at S2 ⊢
      clear nq osq ea ec
      cases B
      · go_wp2_with fail
        go_roundg (h - s)
        case measure => omega
        case rel => exact ⟨s, h, rfl, rfl, ms, h1, by omega, Nat.le_refl _, HS.out.down MM.out h h1 h2 HP.out, S2⟩
      · go_wp2_with fail
        go_roundg (r - (h + 1))
        case measure => omega
        case rel => exact ⟨h + 1, r, by go_num, rfl, by omega, by omega, rb, Nat.le_refl _, HS.out.up MM.out h h1 h2 HP.out, S2⟩
    · obtain rfl : r = s := by omega
      have HD : Aside (Done lt d a b (upTo d a (r - 1 - a))) := by have hm := HM.out; subst hm; exact done1 hS HG.out HS.out
      have hrm := HM.out
      have ri : IntKind.i64.wrap ((r : Int) - 1) = ((r - 1 : Nat) : Int) := by rw [IntKind.wrap_i64]; omega
      obtain ⟨t1, ht1⟩ : ∃ t1, r - 1 = t1 := ⟨_, rfl⟩
      rw [ht1] at ri HD
      have b1 : a ≤ t1 := by omega
      have b2 : t1 < d0.size := by omega
      clear ht1 HS MM HG HC hrm
      go_wp2_with fail
      go_loopg [13] (t1 - a) (fun kx s13 wr => ∃ (k t : Nat), s13 = .int .i64 k ∧ k = a + t ∧ k ≤ t1 ∧ t1 - k ≤ kx ∧ Aside (SW enc w0 blk off (upTo d a t) wr))
      case atStart => exact ⟨a, 0, rfl, rfl, b1, Nat.le_refl _, S1⟩
      case round =>
        clear S1
        obtain ⟨k, t, rfl, hk, hkt, hkx, S1⟩ := hrel
        by_cases hlt : k < t1
        · have hds : (upTo d a t).size = d.size := upTo_size d a t
          obtain ⟨dk, hdk⟩ : ∃ dk, dk = upTo d a t := ⟨_, rfl⟩
          rw [← hdk] at S1 hds
          have HN : Hid (upTo d a (t + 1) = swp dk k (k + 1)) := Lib.hid (by rw [hdk, hk]; rfl)
          have HK : Hid (k = a + t) := Lib.hid hk
          clear hdk hk
          obtain ⟨iN, hiN⟩ : ∃ q, q = k := ⟨_, rfl⟩
          obtain ⟨jN, hjN⟩ : ∃ q, q = k + 1 := ⟨_, rfl⟩
          have ea : ((k : Int)).toNat = iN := by omega
          have pa : (0 : Int) ≤ (k : Int) := by omega
          have ba : (k : Int) < (d0.size : Int) := by omega
          have ra : IntKind.i64.wrap ((k : Int)) = (k : Int) := by rw [IntKind.wrap_i64]; omega
          have ec : ((k : Int) + 1).toNat = jN := by omega
          have pc : (0 : Int) ≤ (k : Int) + 1 := by omega
          have bc : (k : Int) + 1 < (d0.size : Int) := by omega
          have rc : IntKind.i64.wrap ((k : Int) + 1) = (k : Int) + 1 := by rw [IntKind.wrap_i64]; omega
          obtain ⟨x, hx⟩ : ∃ x, x = dk[k]! := ⟨_, rfl⟩
          obtain ⟨y, hy⟩ : ∃ x, x = dk[k + 1]! := ⟨_, rfl⟩
          have S2 : Aside (SW enc w0 blk off (swp dk k (k + 1)) ((wr.setCell ⟨blk, off + iN, none⟩ (enc y)).setCell ⟨blk, off + jN, none⟩ (enc x)).drew) := by rw [hiN, hjN, hx, hy]; exact S1.out.swapped R k (k + 1) (by omega) (by omega)
          have c1 := S1.out.c1 R (by omega) k (by omega)
          have c2 := S1.out.c1 R (by omega) (k + 1) (by omega)
          have f1 := S1.out.f1 R (by omega) k (by omega)
          have f2 := S1.out.f1 R (by omega) (k + 1) (by omega)
          obtain ⟨u1, c3⟩ := S1.out.c2 R (by omega) k (k + 1) (by omega) (by omega) (enc y)
          rw [← hjN, ← hiN] at c3
          rw [← hx, ← hiN] at c1
          rw [← hy, ← hjN] at c2
          rw [← hiN] at f1
          rw [← hjN] at f2
          rw [← HN.out] at S2
          clear S1 hx hy hiN hjN HN
          go_wp2_with fail
          go_big_region_o
          clear c1 c2 c3 f1 f2
          generalize ((wr.setCell ⟨blk, off + iN, none⟩ (enc y)).setCell ⟨blk, off + jN, none⟩ (enc x)).drew = w2 at S2 ⊢
          clear ea ec
          go_wp2
          go_roundg (t1 - (k + 1))
          case measure => omega
          case rel => exact ⟨k + 1, t + 1, by go_num, by have := HK.out; omega, by omega, Nat.le_refl _, S2⟩
        · obtain rfl : k = t1 := by omega
          rw [show k - a = t by omega] at HD
          clear hk
          go_wp2
          (try simp only [Exit.inBlock, Exit.then]); refine bodyPost_ret (results_none rfl _ _ _) rfl ?_
          exact ⟨rfl, _, HD.out, S1.out⟩

set_option maxHeartbeats 8000000 in
set_option maxRecDepth 1000000 in
theorem sym_right {α : Type} [Inhabited α] (enc : α → Value) (lt : α → α → Bool) (hS : SWO lt) (cf : α → α → Int) (g : Nat) (cb : Array Value) (blk off cap a m b : Nat) (d0 d : Array α) (w0 w : World)
    (eg : ∀ args w, (callFunc g args).run Tryd.prog w = .ok (.enter g args) w) (hcmp : CmpLays1 Tryd.prog g cb enc cf blk off d0.size w0) (R : Row1 enc w0 blk off d0) (hsz : d0.size < 1000000) (hs : d.size = d0.size)
    (S : SW enc w0 blk off d w) (G : Mg lt (ltOf cf) d a m b) (hm : m ≠ a + 1) (hb : b = m + 1) :
    Calls Tryd.prog 62 #[.slice (some ⟨blk, off, none⟩) d0.size cap, .int .i64 a, .int .i64 m, .int .i64 b, .func (.func g) #[] cb] w fun e w' => e = .returned (.tuple #[]) ∧ ∃ d', Done lt d a b d' ∧ SW enc w0 blk off d' w' := by
  have mixed := mixedOrders
  have hcl0 := R.hO.cells
  simp only [Value.cells] at hcl0
  have hst := R.hO.store Tryd.prog
  have HC : Aside _ := hcmp
  have S0 : Aside _ := S
  have HG : Aside _ := G
  have am := G.am
  have mb := G.mb
  have bs := G.bs
  have MM : Aside (Mono (P2 (ltOf cf) d m) a m) := mono2 hS G
  obtain ⟨q1, hq1⟩ : ∃ q1, q1 = m - a := ⟨_, rfl⟩
  have ra1 : IntKind.i64.wrap ((m : Int) - (a : Int)) = (q1 : Int) := by rw [IntKind.wrap_i64]; omega
  have rq1 : ((q1 : Int) == 1) = false := by rw [beq_eq_false_iff_ne]; omega
  have ra2 : IntKind.i64.wrap ((b : Int) - (m : Int)) = 1 := by rw [IntKind.wrap_i64]; omega
  have HB := Lib.hid hb
  clear hcmp S G hq1 hm hb
  go_enter Tryd.func62, Tryd.ntmps62
  go_wp2_with fail
  go_loopg [14, 15] (m - a) (fun kx s10 s11 wr => ∃ (s r : Nat), s10 = .int .i64 s ∧ s11 = .int .i64 r ∧ a ≤ s ∧ s ≤ r ∧ r ≤ m ∧ r - s ≤ kx ∧ Aside (Sp (P2 (ltOf cf) d m) a m s r) ∧ Aside (SW enc w0 blk off d wr))
  case atStart => exact ⟨a, m, rfl, rfl, Nat.le_refl _, by omega, Nat.le_refl _, Nat.le_refl _, Sp.start _ _ _ (by omega), S0⟩
  case round =>
    obtain ⟨s, r, rfl, rfl, ms, sr, rb, hkx, HS, S1⟩ := hrel
    clear S0
    by_cases hlt : s < r
    · obtain ⟨h, hh⟩ : ∃ h, h = (s + r) / 2 := ⟨_, rfl⟩
      have h1 : s ≤ h := by omega
      have h2 : h < r := by omega
      have hz : ((s : Int) + (r : Int)) / 2 = (h : Int) := by omega
      clear hh
      obtain ⟨iN, hiN⟩ : ∃ q, q = m := ⟨_, rfl⟩
      obtain ⟨jN, hjN⟩ : ∃ q, q = h := ⟨_, rfl⟩
      have ea : ((m : Int)).toNat = iN := by omega
      have pa : (0 : Int) ≤ (m : Int) := by omega
      have ba : (m : Int) < (d0.size : Int) := by omega
      have ec : ((h : Int)).toNat = jN := by omega
      have pc : (0 : Int) ≤ (h : Int) := by omega
      have bc : (h : Int) < (d0.size : Int) := by omega
      obtain ⟨x, hx⟩ : ∃ x, x = d[m]! := ⟨_, rfl⟩
      obtain ⟨y, hy⟩ : ∃ x, x = d[h]! := ⟨_, rfl⟩
      have l1 := S1.out.cl R hs m (by omega)
      have l2 := S1.out.cl R hs h (by omega)
      rw [← hx, ← hiN] at l1
      rw [← hy, ← hjN] at l2
      have hc := S1.out.cmp HC.out hs x y
      have HP : Aside (P2 (ltOf cf) d m h = !decide (cf x y < 0)) := by rw [hx, hy]; rfl
      clear hx hy hiN hjN
      obtain ⟨B, hB⟩ : ∃ B, decide (cf x y < 0) = B := ⟨_, rfl⟩
      rw [hB] at HP
      go_wp2_with fail
      go_quiet_grown (first | (go_at_fn g; refine Calls.grown_of (hc _ _)))
      have S2 : Aside (SW enc w0 blk off d (grow (wr.drewN nq) osq)) := S1.out.grown nq osq
      clear l1 l2 hc S1
      generalize grow (wr.drewN nq) osq = w2 at S2 ⊢
      clear nq osq ea ec
      cases B
      · go_wp2_with fail
        go_roundg (r - (h + 1))
        case measure => omega
        case rel => exact ⟨h + 1, r, by go_num, rfl, by omega, by omega, rb, Nat.le_refl _, HS.out.up MM.out h h1 h2 HP.out, S2⟩
      · go_wp2_with fail
        go_roundg (h - s)
        case measure => omega
        case rel => exact ⟨s, h, rfl, rfl, ms, h1, by omega, Nat.le_refl _, HS.out.down MM.out h h1 h2 HP.out, S2⟩
    · obtain rfl : r = s := by omega
      have HD : Aside (Done lt d a b (downTo d m (m - r))) := by have hb := HB.out; subst hb; exact done2 hS HG.out HS.out
      clear HS MM HG HC
      go_wp2_with fail
      go_loopg [17] (m - r) (fun kx s13 wr => ∃ (k t : Nat), s13 = .int .i64 k ∧ k + t = m ∧ r ≤ k ∧ k - r ≤ kx ∧ Aside (SW enc w0 blk off (downTo d m t) wr))
      case atStart => exact ⟨m, 0, rfl, rfl, rb, Nat.le_refl _, S1⟩
      case round =>
        clear S1
        obtain ⟨k, t, rfl, hk, hkt, hkx, S1⟩ := hrel
        by_cases hlt : r < k
        · have hds : (downTo d m t).size = d.size := downTo_size d m t
          obtain ⟨dk, hdk⟩ : ∃ dk, dk = downTo d m t := ⟨_, rfl⟩
          rw [← hdk] at S1 hds
          obtain ⟨kp, hkp⟩ : ∃ kp, k = kp + 1 := ⟨k - 1, by omega⟩
          have HN : Hid (downTo d m (t + 1) = swp dk k kp) := Lib.hid (by rw [hdk, show k = m - t by omega, show kp = m - t - 1 by omega]; rfl)
          have HK : Hid (kp + (t + 1) = m) := Lib.hid (by omega)
          have rp : IntKind.i64.wrap ((k : Int) - 1) = (kp : Int) := by rw [IntKind.wrap_i64]; omega
          obtain ⟨iN, hiN⟩ : ∃ q, q = k := ⟨_, rfl⟩
          obtain ⟨jN, hjN⟩ : ∃ q, q = kp := ⟨_, rfl⟩
          have ea : ((k : Int)).toNat = iN := by omega
          have pa : (0 : Int) ≤ (k : Int) := by omega
          have ba : (k : Int) < (d0.size : Int) := by omega
          have ra : IntKind.i64.wrap ((k : Int)) = (k : Int) := by rw [IntKind.wrap_i64]; omega
          have ec : ((kp : Int)).toNat = jN := by omega
          have pc : (0 : Int) ≤ (kp : Int) := by omega
          have bc : (kp : Int) < (d0.size : Int) := by omega
          have rc : IntKind.i64.wrap ((kp : Int)) = (kp : Int) := by rw [IntKind.wrap_i64]; omega
          obtain ⟨x, hx⟩ : ∃ x, x = dk[k]! := ⟨_, rfl⟩
          obtain ⟨y, hy⟩ : ∃ x, x = dk[kp]! := ⟨_, rfl⟩
          have S2 : Aside (SW enc w0 blk off (swp dk k kp) ((wr.setCell ⟨blk, off + iN, none⟩ (enc y)).setCell ⟨blk, off + jN, none⟩ (enc x)).drew) := by rw [hiN, hjN, hx, hy]; exact S1.out.swapped R k kp (by omega) (by omega)
          have c1 := S1.out.c1 R (by omega) k (by omega)
          have c2 := S1.out.c1 R (by omega) kp (by omega)
          have f1 := S1.out.f1 R (by omega) k (by omega)
          have f2 := S1.out.f1 R (by omega) kp (by omega)
          obtain ⟨u1, c3⟩ := S1.out.c2 R (by omega) k kp (by omega) (by omega) (enc y)
          rw [← hjN, ← hiN] at c3
          rw [← hx, ← hiN] at c1
          rw [← hy, ← hjN] at c2
          rw [← hiN] at f1
          rw [← hjN] at f2
          rw [← HN.out] at S2
          have kr : r ≤ kp := by omega
          have HKP := Lib.hid hkp
          clear S1 hx hy hiN hjN HN hdk hk hkp
          go_wp2_with fail
          go_big_region_o
          clear c1 c2 c3 f1 f2
          generalize ((wr.setCell ⟨blk, off + iN, none⟩ (enc y)).setCell ⟨blk, off + jN, none⟩ (enc x)).drew = w2 at S2 ⊢
          clear ea ec
          go_wp2
          go_roundg (kp - r)
          case measure => have := HKP.out; omega
          case rel => exact ⟨kp, t + 1, rfl, HK.out, kr, Nat.le_refl _, S2⟩
        · obtain rfl : k = r := by omega
          rw [show m - k = t by omega] at HD
          clear hk
          go_wp2
          (try simp only [Exit.inBlock, Exit.then]); refine bodyPost_ret (results_none rfl _ _ _) rfl ?_
          exact ⟨rfl, _, HD.out, S1.out⟩
end Go.Proofs.YtjjhdbodjcffaaaDoor
