/-
  What firstAt and Next return, in the package calendar.
-/
import Derived.Test.YtkimniggdnlliabDoorCalH
namespace Go.Proofs.YtkimniggdnlliabDoor
open Go.RowKit
open Cal

/-- The weekday's bit is set. -/
def bitB (d W : Int) : Bool := bits .and .i64 (d / 2 ^ (W.toNat - 1)) 1 == 1
theorem bit_all (W : Int) (h1 : 1 ≤ W) (h2 : W ≤ 7) : bitB 127 W = true := by
  have h : W = 1 ∨ W = 2 ∨ W = 3 ∨ W = 4 ∨ W = 5 ∨ W = 6 ∨ W = 7 := by omega
  rcases h with rfl | rfl | rfl | rfl | rfl | rfl | rfl <;> decide
def onB (d W : Int) : Bool := (d == 0) || bitB d W
theorem wd_bd (d : Int) : 1 ≤ wd d ∧ wd d ≤ 7 := by unfold wd; omega

/-- At the time u local time is F ahead, and has the minute and one of the weekdays. -/
def At (o : Int) (sm : Bool) (F days minute u : Int) : Prop := offI o sm u = F ∧ (u + F) % 1440 = minute ∧ bitB days (wd ((u + F) / 1440)) = true
theorem at_not (o : Int) (sm : Bool) (F days minute u v : Int) (hu : (u + F) % 1440 = minute) (h1 : u < v) (h2 : v < u + 1440) : ¬ At o sm F days minute v := fun h => by
  have := h.2.1; omega

set_option maxRecDepth 100000 in
set_option maxHeartbeats 2000000 in
theorem firstAt_any (o : Int) (sm : Bool) (F a b days minute : Int) (w : World) (hT : Tab w) (f0 : -840 ≤ F) (f1 : F ≤ 900) (a0 : 1 ≤ a) (ab : a ≤ b) (b1 : b ≤ 268435457) (_d0 : 0 ≤ days) (_d1 : days ≤ 127) (m0 : 0 ≤ minute) (m1 : minute ≤ 1439) :
    Calls Tryd.prog 17 #[.agg #[.int .i64 o, .bool sm], .int .i64 F, .agg #[.int .i64 a, .int .i64 b], .int .i64 days, .int .i64 minute] w
      fun e w' => (∃ x, e = .returned (.int .i64 x) ∧ a ≤ x ∧ x ≤ b ∧ (x < b → At o sm F days minute x) ∧ ∀ v, a ≤ v → v < x → ¬ At o sm F days minute v) ∧ Below w.heap.size w w' := by
  obtain ⟨S, hS⟩ : ∃ S : World, S = (w.alloc (.cells #[.int .i64 o, .bool sm] 23)).alloc (.cells #[.int .i64 a, .int .i64 b] 44) := ⟨_, rfl⟩
  have gS : Below w.heap.size w S := by rw [hS]; exact b2 (b_new w _) (b_new _ _)
  have zS : S.heap.size = w.heap.size + 1 + 1 := by rw [hS]; simp
  have cz0 : S.cell? ⟨w.heap.size, 0, none⟩ = some (.int .i64 o) := by rw [hS]; simp
  have cz1 : S.cell? ⟨w.heap.size, 1, none⟩ = some (.bool sm) := by rw [hS]; simp
  have cs0 : S.cell? ⟨w.heap.size + 1, 0, none⟩ = some (.int .i64 a) := by rw [hS]; simp
  have cs1 : S.cell? ⟨w.heap.size + 1, 1, none⟩ = some (.int .i64 b) := by rw [hS]; simp
  have hTS := hT.below gS
  obtain ⟨n0, n1⟩ : 0 ≤ (a + F) % 1440 ∧ (a + F) % 1440 < 1440 := by omega
  obtain ⟨p0, p1⟩ : 0 ≤ (minute - (a + F) % 1440) % 1440 ∧ (minute - (a + F) % 1440) % 1440 < 1440 := by omega
  have GS := Lib.hid gS
  have HTS := Lib.hid hTS
  have CZ0 := Lib.hid cz0
  have CZ1 := Lib.hid cz1
  have CS0 := Lib.hid cs0
  have CS1 := Lib.hid cs1
  have ZS := Lib.hid zS
  have hSw := Lib.hid hS
  clear gS hTS cz0 cz1 cs0 cs1 zS hS hT
  go_enter Tryd.func17, Tryd.ntmps17
  go_wp2_with fail
  refine (split_any _ _ (by omega) (by omega)).mono ?_
  rintro e w1 ⟨rfl, rfl⟩
  go_wp2_with fail
  refine (split_any _ _ (by omega) (by omega)).mono ?_
  rintro e w1 ⟨rfl, rfl⟩
  go_wp2_with fail
  rw [← hSw.out]
  go_loopw [15] (fun s wr => ∃ u : Int, s = .int .i64 u ∧ a ≤ u ∧ u < b + 1440 ∧ Hid ((u + F) % 1440 = minute) ∧ Hid (∀ v, a ≤ v → v < u → ¬ At o sm F days minute v) ∧ Below S.heap.size S wr) (fun s _ => (268440000 - intOf s).toNat)
  case atStart => exact ⟨a + (minute - (a + F)) % 1440, rfl, by omega, by omega, Lib.hid (by omega), Lib.hid (fun v v1 v2 h => by have h2 := h.2.1; omega), Below.refl _ _⟩
  case round =>
    obtain ⟨u, rfl, u0, u1, Hu, Hno, g⟩ := hrel
    have hz := ZS.out
    have gz0 : wr.cell? ⟨w.heap.size, 0, none⟩ = some (.int .i64 o) := (g.cell (p := ⟨w.heap.size, 0, none⟩) (by show w.heap.size < _; omega)).trans CZ0.out
    have gz1 : wr.cell? ⟨w.heap.size, 1, none⟩ = some (.bool sm) := (g.cell (p := ⟨w.heap.size, 1, none⟩) (by show w.heap.size < _; omega)).trans CZ1.out
    have gs1 : wr.cell? ⟨w.heap.size + 1, 1, none⟩ = some (.int .i64 b) := (g.cell (p := ⟨w.heap.size + 1, 1, none⟩) (by show w.heap.size + 1 < _; omega)).trans CS1.out
    have HT := Lib.hid (HTS.out.below g)
    have G := Lib.hid g
    clear g hz
    by_cases hlt : u < b
    · obtain ⟨D, hD⟩ : ∃ D, D = (u + F) / 1440 := ⟨_, rfl⟩
      have Hsp : Hid (∀ X, Calls Tryd.prog 18 #[.int .i64 (u + F)] X fun e w' => e = .returned (.tuple #[.int .i64 D, .int .i64 minute]) ∧ X = w') := Lib.hid (fun X => by
        have := split_any (u + F) X (by omega) (by omega); rw [Hu.out, ← hD] at this; exact this)
      have dd0 : -1 ≤ D := by omega
      have dd1 : D ≤ 200000 := by omega
      have HD := Lib.hid hD
      clear hD
      obtain ⟨k1, k2⟩ := wd_bd D
      by_cases ho : offI o sm u = F
      · have Hof : Hid (∀ X, Tab X → Calls Tryd.prog 8 #[.agg #[.int .i64 o, .bool sm], .int .i64 u] X fun e w' => e = .returned (.int .i64 F) ∧ Below X.heap.size X w') := Lib.hid (fun X hX => by
          have := offset_any o sm u X hX; rw [ho] at this; exact this)
        have Ho := Lib.hid ho
        clear ho
        by_cases hb : bitB days (wd D) = true
        · have hb' : (bits .and .i64 (days / 2 ^ ((wd D).toNat - 1)) 1 == 1) = true := hb
          have Hb := Lib.hid hb
          clear hb
          go_wp2_with fail
          refine (Hsp.out _).mono ?_
          rintro e w2 ⟨rfl, rfl⟩
          go_wp2_with fail
          refine (Hof.out _ HT.out).mono ?_
          rintro e w2 ⟨rfl, g2⟩
          have G2 := Lib.hid g2
          clear g2
          go_wp2_with fail
          refine (weekday_any D _ (by omega) (by omega)).mono ?_
          rintro e w3 ⟨rfl, rfl⟩
          go_wp2_with fail
          go_ret
          refine ⟨⟨u, rfl, u0, by omega, fun _ => ⟨Ho.out, Hu.out, ?_⟩, Hno.out⟩, b2 (b2 GS.out G.out) G2.out⟩
          rw [← HD.out]; exact Hb.out
        · have hbf := Bool.eq_false_iff.2 hb
          have hb' : (bits .and .i64 (days / 2 ^ ((wd D).toNat - 1)) 1 == 1) = false := hbf
          have Hb := Lib.hid hbf
          clear hb hbf
          go_wp2_with fail
          refine (Hsp.out _).mono ?_
          rintro e w2 ⟨rfl, rfl⟩
          go_wp2_with fail
          refine (Hof.out _ HT.out).mono ?_
          rintro e w2 ⟨rfl, g2⟩
          have G2 := Lib.hid g2
          clear g2
          go_wp2_with fail
          refine (weekday_any D _ (by omega) (by omega)).mono ?_
          rintro e w3 ⟨rfl, rfl⟩
          go_wp2_with fail
          go_roundw
          case rel =>
            refine ⟨u + 1440, rfl, by omega, by omega, Lib.hid (by have := Hu.out; omega), Lib.hid (fun v v1 v2 h => ?_), b2 G.out G2.out⟩
            by_cases e1 : v < u
            · exact Hno.out v v1 e1 h
            · by_cases e2 : v = u
              · subst e2; have := h.2.2; rw [← HD.out, Hb.out] at this; cases this
              · exact at_not o sm F days minute u v Hu.out (by omega) v2 h
          case measure => simp [intOf]; omega
      · have t1 := eq_f _ _ ho
        have Ho := Lib.hid ho
        clear ho
        go_wp2_with fail
        refine (Hsp.out _).mono ?_
        rintro e w2 ⟨rfl, rfl⟩
        go_wp2_with fail
        refine (offset_any o sm u _ HT.out).mono ?_
        rintro e w2 ⟨rfl, g2⟩
        have G2 := Lib.hid g2
        clear g2
        go_wp2_with fail
        go_roundw
        case rel =>
          refine ⟨u + 1440, rfl, by omega, by omega, Lib.hid (by have := Hu.out; omega), Lib.hid (fun v v1 v2 h => ?_), b2 G.out G2.out⟩
          by_cases e1 : v < u
          · exact Hno.out v v1 e1 h
          · by_cases e2 : v = u
            · subst e2; exact Ho.out h.1
            · exact at_not o sm F days minute u v Hu.out (by omega) v2 h
        case measure => simp [intOf]; omega
    · have hge : b ≤ u := by omega
      clear hlt
      go_wp2_with fail
      go_ret
      refine ⟨⟨b, rfl, ab, by omega, fun h => by omega, fun v v1 v2 => Hno.out v v1 (by omega)⟩, b2 GS.out G.out⟩
end Go.Proofs.YtkimniggdnlliabDoor
