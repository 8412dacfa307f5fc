/-
  The stable sort of a run of any length: blocks, and their merges.
-/
import Derived.Test.YtjjhdbodjcffaaaDoorMonAI
import Derived.Test.YtjjhdbodjcffaaaDoorShelf
import Derived.Shelf.SlSortCmp.Insertion1
namespace Go.Proofs.YtjjhdbodjcffaaaDoor
open Go.RowKit Go.Lib Go.Sort Go.Shelf
open Sym
set_option linter.unusedVariables false

theorem ins_run {α : Type} [Inhabited α] (enc : α → Value) (cf : α → α → Int) (g : Nat) (cb : Array Value) (blk off cap a b : Nat) (d0 d : Array α) (w0 w : World)
    (eg : ∀ args w, (callFunc g args).run Tryd.prog w = .ok (.enter g args) w) (hcmp : CmpLays1 Tryd.prog g cb enc cf blk off d0.size w0) (R : Row1 enc w0 blk off d0) (hs : d.size = d0.size) (S : SW enc w0 blk off d w) (hab : a ≤ b) (hb : b ≤ d0.size) (hsz : d0.size < 1000000) :
    Calls Tryd.prog 61 #[.slice (some ⟨blk, off, none⟩) d0.size cap, .int .i64 a, .int .i64 b, .func (.func g) #[] cb] w fun e w' => e = .returned (.tuple #[]) ∧ SW enc w0 blk off (Sort.insertionSort (ltOf cf) d a b) w' := by
  have h := Any.insertionSortCmpFunc_s Tryd.laysSlF20_f61 enc cf g cb blk off cap a b d0 d w0 w eg hcmp R hs.symm S hab (by omega) (by omega)
  rw [hs] at h
  exact h
/-- What the stable sort holds between two steps. -/
structure Stb {α : Type} [Inhabited α] (enc : α → Value) (w0 : World) (blk off : Nat) (d dk : Array α) (w : World) : Prop where
  sz : dk.size = d.size
  perm : PermIn 0 d.size d dk
  sw : SW enc w0 blk off dk w
theorem Stb.next {α : Type} [Inhabited α] {enc : α → Value} {lt : α → α → Bool} {w0 : World} {blk off a b : Nat} {d dk d' : Array α} {w w' : World} (h : Stb enc w0 blk off d dk w) (D : Done lt dk a b d') (hb : b ≤ d.size) (S : SW enc w0 blk off d' w') : Stb enc w0 blk off d d' w' :=
  ⟨by rw [D.1.1]; exact h.sz, permIn_trans _ _ _ _ _ h.perm (permIn_mono _ _ _ _ 0 d.size (Nat.zero_le _) hb (by rw [h.sz]; exact Nat.le_refl _) D.1), S⟩

set_option maxHeartbeats 16000000 in
set_option maxRecDepth 1000000 in
theorem stable_run {α : Type} [Inhabited α] (enc : α → Value) (lt : α → α → Bool) (hS : SWO lt) (v : α → Nat) (cf : α → α → Int) (hv : ∀ x y, v y < v x → ltOf cf x y = lt x y) (g : Nat) (cb : Array Value) (blk off cap : Nat) (d : Array α) (w : World)
    (eg : ∀ args w, (callFunc g args).run Tryd.prog w = .ok (.enter g args) w) (hcmp : CmpLays1 Tryd.prog g cb enc cf blk off d.size w) (R : Row1 enc w blk off d) (hsz : d.size < 1000) (hd : ∀ p, p < d.size → v d[p]! = p) :
    Calls Tryd.prog 50 #[.slice (some ⟨blk, off, none⟩) d.size cap, .int .i64 d.size, .func (.func g) #[] cb] w fun e w' => e = .returned (.tuple #[]) ∧ ∃ d', Done lt d 0 d.size d' ∧ SW enc w blk off d' w' := by
  have CI : Aside (∀ (a b : Nat) (dk : Array α) (X : World), dk.size = d.size → SW enc w blk off dk X → a ≤ b → b ≤ d.size →
      Calls Tryd.prog 61 #[.slice (some ⟨blk, off, none⟩) d.size cap, .int .i64 a, .int .i64 b, .func (.func g) #[] cb] X fun e w' => e = .returned (.tuple #[]) ∧ SW enc w blk off (Sort.insertionSort (ltOf cf) dk a b) w') :=
    fun a b dk X h1 h2 h3 h4 => ins_run enc cf g cb blk off cap a b d dk w X eg hcmp R h1 h2 h3 h4 (by omega)
  have CM : Aside (∀ s, SymC enc lt (ltOf cf) g cb blk off cap d.size w s) := sym_all enc lt hS cf g cb blk off cap d w eg hcmp R (by omega)
  have HV : Aside (∀ x y, v y < v x → ltOf cf x y = lt x y) := hv
  have HI : Aside (∀ (dk : Array α) (a b : Nat), a ≤ b → b ≤ dk.size → (∀ p, a ≤ p → p < b → v dk[p]! = p) → Done lt dk a b (Sort.insertionSort (ltOf cf) dk a b)) := fun dk a b h1 h2 h3 => by
    rw [insertion_same (v := v) (lt := lt) a b dk hv h2 h3]
    exact insertionSort_holds hS dk a b h1 h2
  have T0 : Aside (Stb enc w blk off d d w) := ⟨rfl, permIn_refl _ _ _, SW.start R.hH⟩
  have HD : Aside (∀ p, p < d.size → v d[p]! = p) := hd
  obtain ⟨n, hn⟩ : ∃ n, d.size = n := ⟨_, rfl⟩
  have HN : Hid (d.size = n) := Lib.hid hn
  rw [hn] at hsz CI CM ⊢
  clear hcmp R hv hd hn
  go_enter Tryd.func50, Tryd.ntmps50
  go_wp2_with fail
  go_loopg [7, 8] n (fun kx x7 x8 wr => ∃ (A B : Nat) (dk : Array α), x7 = .int .i64 A ∧ x8 = .int .i64 B ∧ B = A + 20 ∧ A ≤ n ∧ n - A ≤ kx ∧ A % 20 = 0 ∧ Aside (Stb enc w blk off d dk wr) ∧ Aside (Bk lt v 20 0 A dk) ∧ Aside (∀ p, A ≤ p → p < n → v dk[p]! = p))
  case atStart => exact ⟨0, 20, d, rfl, rfl, rfl, Nat.zero_le _, Nat.le_refl _, rfl, T0, (fun s h1 h2 _ => by omega : Bk lt v 20 0 0 d), fun p _ h => HD.out p (by rw [HN.out]; exact h)⟩
  case round =>
    obtain ⟨A, B, dk, rfl, rfl, hAB, hA, hkx, hmod, T, HB, HT⟩ := hrel
    clear T0 HD
    by_cases hlt : B ≤ n
    · have hds : dk.size = n := T.out.sz.trans HN.out
      have D : Aside (Done lt dk A B (Sort.insertionSort (ltOf cf) dk A B)) := HI.out dk A B (by omega) (by omega) (fun p h1 h2 => HT.out p h1 (by omega))
      obtain ⟨C, hC⟩ : ∃ C, C = B + 20 := ⟨_, rfl⟩
      have rC : IntKind.i64.wrap ((B : Int) + 20) = (C : Int) := by rw [IntKind.wrap_i64]; omega
      have HAB := Lib.hid hAB
      have HCB := Lib.hid hC
      clear hAB hC
      go_wp2_with fail
      refine (CI.out A B dk _ hds T.out.sw (by have := HAB.out; omega) hlt).mono ?_
      rintro ee w2 ⟨rfl, S2⟩
      have T2 : Aside (Stb enc w blk off d (Sort.insertionSort (ltOf cf) dk A B) w2) := T.out.next D.out (by rw [HN.out]; exact hlt) S2
      have HB2 : Aside (Bk lt v 20 0 B (Sort.insertionSort (ltOf cf) dk A B)) := HB.out.add (by decide) hmod (by have := HAB.out; omega) (by have := HAB.out; omega) (by omega) D.out (fun p h1 h2 => HT.out p h1 (by omega))
      have HT2 : Aside (∀ p, B ≤ p → p < n → v (Sort.insertionSort (ltOf cf) dk A B)[p]! = p) := fun p h1 h2 => by rw [D.out.1.2.1 p (.inr h1)]; exact HT.out p (by have := HAB.out; omega) h2
      clear S2 T HB HT D
      go_wp2_with fail
      go_roundg (n - B)
      case measure => have := HAB.out; omega
      case rel => exact ⟨B, C, _, rfl, rfl, HCB.out, hlt, Nat.le_refl _, by have := HAB.out; omega, T2, HB2, HT2⟩
    · have hds : dk.size = n := T.out.sz.trans HN.out
      have D : Aside (Done lt dk A n (Sort.insertionSort (ltOf cf) dk A n)) := HI.out dk A n hA (by omega) (fun p h1 h2 => HT.out p h1 h2)
      have HAB := Lib.hid hAB
      clear hAB
      go_wp2_with fail
      refine (CI.out A n dk _ hds T.out.sw hA (Nat.le_refl _)).mono ?_
      rintro ee w2 ⟨rfl, S2⟩
      have T2 : Aside (Stb enc w blk off d (Sort.insertionSort (ltOf cf) dk A n) w2) := T.out.next D.out (by rw [HN.out]; exact Nat.le_refl _) S2
      have HB2 : Aside (Bk lt v 20 0 n (Sort.insertionSort (ltOf cf) dk A n)) := HB.out.add (by decide) hmod hA (by have := HAB.out; omega) (by omega) D.out (fun p h1 h2 => HT.out p h1 h2)
      generalize Sort.insertionSort (ltOf cf) dk A n = e1 at T2 HB2
      clear S2 T HB HT D CI HI hds
      go_wp2_with fail
      go_loopg [6] n (fun kx x6 wr => ∃ (Q : Nat) (dk : Array α), x6 = .int .i64 Q ∧ 0 < Q ∧ Q ≤ 2 * n + 20 ∧ n - Q ≤ kx ∧ Aside (Stb enc w blk off d dk wr) ∧ Aside (Bk lt v Q 0 n dk))
      case atStart => exact ⟨20, e1, rfl, by decide, by omega, by omega, T2, HB2⟩
      case round =>
        obtain ⟨Q, dk, rfl, q0, q1, hkx, T, HB⟩ := hrel
        clear T2 HB2
        by_cases hlt : Q < n
        · obtain ⟨QQ, hQQ⟩ : ∃ QQ, QQ = 2 * Q := ⟨_, rfl⟩
          have rQ : IntKind.i64.wrap (2 * (Q : Int)) = (QQ : Int) := by rw [IntKind.wrap_i64]; omega
          have rQ2 : IntKind.i64.wrap ((Q : Int) * 2) = (QQ : Int) := by rw [IntKind.wrap_i64]; omega
          have HQQ := Lib.hid hQQ
          have hq3 : QQ ≤ 2 * n := by omega
          have hq4 : Q < QQ := by omega
          have HB0 : Aside (Bk lt v (2 * Q) 0 0 dk) := fun s h1 h2 _ => by omega
          clear hQQ
          go_wp2_with fail
          go_loopg [7, 8] n (fun ky x7 x8 wr => ∃ (A B : Nat) (dk : Array α), x7 = .int .i64 A ∧ x8 = .int .i64 B ∧ Hid (B = A + 2 * Q) ∧ A ≤ n ∧ B ≤ 4 * n ∧ n - A ≤ ky ∧ Hid (A % (2 * Q) = 0) ∧ Aside (Stb enc w blk off d dk wr) ∧ Aside (Bk lt v (2 * Q) 0 A dk) ∧ Aside (Bk lt v Q A n dk))
          case atStart => exact ⟨0, QQ, dk, rfl, rfl, Lib.hid (by have := HQQ.out; omega), Nat.zero_le _, by omega, Nat.le_refl _, Lib.hid (Nat.zero_mod _), T, HB0, HB⟩
          case round =>
            clear T HB HB0
            obtain ⟨A, B, dk, rfl, rfl, HAB, hA, hB4, hky, HM, T, HB0, HB⟩ := hrel
            have hAQ : A % Q = 0 := by
              have := HM.out
              have e : 2 * Q = Q * 2 := Nat.mul_comm _ _
              rw [e] at this
              have h2 := Nat.mod_mul_right_mod A Q 2
              rw [this, Nat.zero_mod] at h2
              exact h2.symm
            have HAQ := Lib.hid hAQ
            have hds : dk.size = n := T.out.sz.trans HN.out
            obtain ⟨M, hM⟩ : ∃ M, M = A + Q := ⟨_, rfl⟩
            have rM : IntKind.i64.wrap ((A : Int) + (Q : Int)) = (M : Int) := by rw [IntKind.wrap_i64]; omega
            have HMM := Lib.hid hM
            clear hAQ hM
            by_cases hlt2 : B ≤ n
            · obtain ⟨C, hC⟩ : ∃ C, C = B + QQ := ⟨_, rfl⟩
              have rC : IntKind.i64.wrap ((B : Int) + (QQ : Int)) = (C : Int) := by rw [IntKind.wrap_i64]; omega
              have HC := Lib.hid hC
              have G : Aside (Mg lt (ltOf cf) dk A M B) := by rw [HMM.out]; exact HB.out.merge q0 HAQ.out (by have := HAB.out; omega) (by have := HAB.out; omega) hlt2 (.inl HAB.out) (by omega) HV.out
              clear hC
              go_wp2_with fail
              refine (CM.out n A M B dk _ (by omega) hds T.out.sw G.out).mono ?_
              rintro ee w3 ⟨rfl, d3, D3, S3⟩
              have T3 : Aside (Stb enc w blk off d d3 w3) := T.out.next D3 (by rw [HN.out]; exact hlt2) S3
              have J := HB0.out.join q0 HB.out HM.out (by have := HAB.out; omega) (by have := HAB.out; omega) hlt2 (.inl HAB.out) (by omega) D3
              have J1 : Aside (Bk lt v (2 * Q) 0 B d3) := J.1
              have J2 : Aside (Bk lt v Q B n d3) := J.2
              clear S3 D3 T HB0 HB G J
              go_wp2_with fail
              go_roundg (n - B)
              case measure => have := HAB.out; omega
              case rel => exact ⟨B, C, d3, rfl, rfl, Lib.hid (by have := HC.out; have := HQQ.out; omega), hlt2, by have := HC.out; omega, Nat.le_refl _, Lib.hid (by rw [HAB.out, Nat.add_mod_right]; exact HM.out), T3, J1, J2⟩
            · by_cases hmn : M < n
              · have G : Aside (Mg lt (ltOf cf) dk A M n) := by rw [HMM.out]; exact HB.out.merge q0 HAQ.out (by have := HMM.out; omega) (by have := HAB.out; omega) (Nat.le_refl _) (.inr rfl) (by omega) HV.out
                go_wp2_with fail
                refine (CM.out n A M n dk _ (by omega) hds T.out.sw G.out).mono ?_
                rintro ee w3 ⟨rfl, d3, D3, S3⟩
                have T3 : Aside (Stb enc w blk off d d3 w3) := T.out.next D3 (by rw [HN.out]; exact Nat.le_refl _) S3
                have J1 : Aside (Bk lt v QQ 0 n d3) := by rw [HQQ.out]; exact (HB0.out.join q0 HB.out HM.out (by have := HMM.out; omega) (by have := HAB.out; omega) (Nat.le_refl _) (.inr rfl) (by omega) D3).1
                clear S3 D3 T HB0 HB G
                go_wp2_with fail
                go_roundg (n - QQ)
                case measure => omega
                case rel => exact ⟨QQ, d3, rfl, by omega, by omega, Nat.le_refl _, T3, J1⟩
              · have J1 : Aside (Bk lt v QQ 0 n dk) := by rw [HQQ.out]; exact HB0.out.rest q0 HB.out HM.out (by have := HMM.out; omega) hA
                clear HB0 HB
                go_wp2_with fail
                go_roundg (n - QQ)
                case measure => omega
                case rel => exact ⟨QQ, dk, rfl, by omega, by omega, Nat.le_refl _, T, J1⟩
        · have HS := HB.out.all (by omega)
          go_wp2_with fail
          go_end0
          exact ⟨rfl, dk, ⟨by have := T.out.perm; rw [HN.out] at this; exact this, HS⟩, T.out.sw⟩

set_option maxHeartbeats 1600000 in
set_option maxRecDepth 100000 in
theorem sort_run {α : Type} [Inhabited α] (enc : α → Value) (lt : α → α → Bool) (hS : SWO lt) (v : α → Nat) (cf : α → α → Int) (hv : ∀ x y, v y < v x → ltOf cf x y = lt x y) (g : Nat) (cb : Array Value) (blk off cap : Nat) (d : Array α) (w : World)
    (eg : ∀ args w, (callFunc g args).run Tryd.prog w = .ok (.enter g args) w) (hcmp : CmpLays1 Tryd.prog g cb enc cf blk off d.size w) (R : Row1 enc w blk off d) (hsz : d.size < 1000) (hd : ∀ p, p < d.size → v d[p]! = p) :
    Calls Tryd.prog 43 #[.slice (some ⟨blk, off, none⟩) d.size cap, .func (.func g) #[] cb] w fun e w' => e = .returned (.tuple #[]) ∧ ∃ d', Done lt d 0 d.size d' ∧ SW enc w blk off d' w' := by
  have hc := Lib.hid (stable_run enc lt hS v cf hv g cb blk off cap d w eg hcmp R hsz hd)
  clear hcmp R hv hd
  go_enter Tryd.func43, Tryd.ntmps43
  go_wp2_with fail
  refine hc.out.mono ?_
  rintro e w1 ⟨rfl, d', D, S⟩
  have D := Lib.hid D
  have S := Lib.hid S
  go_wp2_with fail
  go_end0
  exact ⟨rfl, d', D.out, S.out⟩
end Go.Proofs.YtjjhdbodjcffaaaDoor
