/-
  What exampleHolds returns: the examples of the chapter hold.
-/
import Derived.Test.YtkimniggdnlliaaDoorIdI
namespace Go.Proofs.YtkimniggdnlliaaDoor
open Go.RowKit
open Plain

/-- A call with these values returns this, in whatever memory. -/
def Gives (f : FuncId) (args : Array Value) (r : Value) : Prop := ∀ W, Calls Tryd.prog f args W fun e w' => e = .returned r ∧ Below W.heap.size W w'
theorem ex_check0 : Gives 28 #[.string ⟨#[65]⟩] (.tuple #[.int .u8 72, .int .i64 0]) := fun W => by
  have h := check_any ⟨#[65]⟩ W (by decide)
  have e1 : checkL ((⟨#[65]⟩ : ByteArray)).data.toList = 72 := by decide +kernel
  have e2 : checkE ((⟨#[65]⟩ : ByteArray)).data.toList = 0 := by decide +kernel
  rw [e1, e2] at h; exact h
theorem ex_check1 : Gives 28 #[.string ⟨#[49]⟩] (.tuple #[.int .u8 90, .int .i64 0]) := fun W => by
  have h := check_any ⟨#[49]⟩ W (by decide)
  have e1 : checkL ((⟨#[49]⟩ : ByteArray)).data.toList = 90 := by decide +kernel
  have e2 : checkE ((⟨#[49]⟩ : ByteArray)).data.toList = 0 := by decide +kernel
  rw [e1, e2] at h; exact h
theorem ex_check2 : Gives 28 #[.string ⟨#[45]⟩] (.tuple #[.int .u8 0, .int .i64 4]) := fun W => by
  have h := check_any ⟨#[45]⟩ W (by decide)
  have e1 : checkL ((⟨#[45]⟩ : ByteArray)).data.toList = 0 := by decide +kernel
  have e2 : checkE ((⟨#[45]⟩ : ByteArray)).data.toList = 4 := by decide +kernel
  rw [e1, e2] at h; exact h
theorem ex_make : Gives 10 #[.string ⟨#[100, 101]⟩, .string ⟨#[56, 97, 97]⟩, .string ⟨#[99, 97, 50, 98, 51, 99, 52, 100, 53]⟩] (.tuple #[.string ⟨#[68, 69, 45, 56, 65, 65, 45, 67, 65, 50, 66, 51, 67, 52, 68, 53, 45, 74]⟩, .int .i64 0]) := fun W => by
  have h := make_any ⟨#[100, 101]⟩ ⟨#[56, 97, 97]⟩ ⟨#[99, 97, 50, 98, 51, 99, 52, 100, 53]⟩ W (by decide) (by decide) (by decide)
  have e1 : makeB ⟨#[100, 101]⟩ ⟨#[56, 97, 97]⟩ ⟨#[99, 97, 50, 98, 51, 99, 52, 100, 53]⟩ = ⟨#[68, 69, 45, 56, 65, 65, 45, 67, 65, 50, 66, 51, 67, 52, 68, 53, 45, 74]⟩ := bytes_ext (by decide +kernel)
  have e2 : makeE ⟨#[100, 101]⟩ ⟨#[56, 97, 97]⟩ ⟨#[99, 97, 50, 98, 51, 99, 52, 100, 53]⟩ = 0 := by decide +kernel
  rw [e1, e2] at h; exact h
theorem ex_parse0 : Gives 12 #[.string ⟨#[100, 101, 45, 56, 97, 97, 45, 99, 97, 50, 98, 51, 99, 52, 100, 53, 45, 106]⟩] (.tuple #[.string ⟨#[68, 69]⟩, .string ⟨#[56, 65, 65]⟩, .string ⟨#[67, 65, 50, 66, 51, 67, 52, 68, 53]⟩, .int .i64 0]) := fun W => by
  have h := parse_any ⟨#[100, 101, 45, 56, 97, 97, 45, 99, 97, 50, 98, 51, 99, 52, 100, 53, 45, 106]⟩ W (by decide)
  unfold parsed at h
  have e1 : pA ⟨#[100, 101, 45, 56, 97, 97, 45, 99, 97, 50, 98, 51, 99, 52, 100, 53, 45, 106]⟩ = ⟨#[68, 69]⟩ := bytes_ext (by decide +kernel)
  have e2 : pP ⟨#[100, 101, 45, 56, 97, 97, 45, 99, 97, 50, 98, 51, 99, 52, 100, 53, 45, 106]⟩ = ⟨#[56, 65, 65]⟩ := bytes_ext (by decide +kernel)
  have e3 : pI ⟨#[100, 101, 45, 56, 97, 97, 45, 99, 97, 50, 98, 51, 99, 52, 100, 53, 45, 106]⟩ = ⟨#[67, 65, 50, 66, 51, 67, 52, 68, 53]⟩ := bytes_ext (by decide +kernel)
  have e4 : pE ⟨#[100, 101, 45, 56, 97, 97, 45, 99, 97, 50, 98, 51, 99, 52, 100, 53, 45, 106]⟩ = 0 := by decide +kernel
  rw [e1, e2, e3, e4] at h; exact h
theorem ex_parse1 : Gives 12 #[.string ⟨#[100, 101, 45, 56, 97, 97, 45, 99, 97, 50, 98, 51, 99, 52, 100, 53, 45, 107]⟩] (.tuple #[.string ⟨#[]⟩, .string ⟨#[]⟩, .string ⟨#[]⟩, .int .i64 7]) := fun W => by
  have h := parse_any ⟨#[100, 101, 45, 56, 97, 97, 45, 99, 97, 50, 98, 51, 99, 52, 100, 53, 45, 107]⟩ W (by decide)
  unfold parsed at h
  have e1 : pA ⟨#[100, 101, 45, 56, 97, 97, 45, 99, 97, 50, 98, 51, 99, 52, 100, 53, 45, 107]⟩ = ⟨#[]⟩ := bytes_ext (by decide +kernel)
  have e2 : pP ⟨#[100, 101, 45, 56, 97, 97, 45, 99, 97, 50, 98, 51, 99, 52, 100, 53, 45, 107]⟩ = ⟨#[]⟩ := bytes_ext (by decide +kernel)
  have e3 : pI ⟨#[100, 101, 45, 56, 97, 97, 45, 99, 97, 50, 98, 51, 99, 52, 100, 53, 45, 107]⟩ = ⟨#[]⟩ := bytes_ext (by decide +kernel)
  have e4 : pE ⟨#[100, 101, 45, 56, 97, 97, 45, 99, 97, 50, 98, 51, 99, 52, 100, 53, 45, 107]⟩ = 7 := by decide +kernel
  rw [e1, e2, e3, e4] at h; exact h
theorem ex_parse2 : Gives 12 #[.string ⟨#[100, 101, 45, 56, 97, 97, 45, 99, 97, 50, 98, 51, 99, 52, 100, 53]⟩] (.tuple #[.string ⟨#[]⟩, .string ⟨#[]⟩, .string ⟨#[]⟩, .int .i64 5]) := fun W => by
  have h := parse_any ⟨#[100, 101, 45, 56, 97, 97, 45, 99, 97, 50, 98, 51, 99, 52, 100, 53]⟩ W (by decide)
  unfold parsed at h
  have e1 : pA ⟨#[100, 101, 45, 56, 97, 97, 45, 99, 97, 50, 98, 51, 99, 52, 100, 53]⟩ = ⟨#[]⟩ := bytes_ext (by decide +kernel)
  have e2 : pP ⟨#[100, 101, 45, 56, 97, 97, 45, 99, 97, 50, 98, 51, 99, 52, 100, 53]⟩ = ⟨#[]⟩ := bytes_ext (by decide +kernel)
  have e3 : pI ⟨#[100, 101, 45, 56, 97, 97, 45, 99, 97, 50, 98, 51, 99, 52, 100, 53]⟩ = ⟨#[]⟩ := bytes_ext (by decide +kernel)
  have e4 : pE ⟨#[100, 101, 45, 56, 97, 97, 45, 99, 97, 50, 98, 51, 99, 52, 100, 53]⟩ = 5 := by decide +kernel
  rw [e1, e2, e3, e4] at h; exact h
theorem ex_valid0 : Gives 14 #[.string ⟨#[68, 69, 42, 65, 45, 49]⟩] (.bool true) := fun W => by
  have h := valid_any ⟨#[68, 69, 42, 65, 45, 49]⟩ W (by decide)
  have e1 : validL ((⟨#[68, 69, 42, 65, 45, 49]⟩ : ByteArray)).data.toList = true := by decide +kernel
  rw [e1] at h; exact h
theorem ex_valid1 : Gives 14 #[.string ⟨#[97, 32, 98]⟩] (.bool false) := fun W => by
  have h := valid_any ⟨#[97, 32, 98]⟩ W (by decide)
  have e1 : validL ((⟨#[97, 32, 98]⟩ : ByteArray)).data.toList = false := by decide +kernel
  rw [e1] at h; exact h
theorem ex_same0 : Gives 29 #[.string ⟨#[97, 98, 45, 49]⟩, .string ⟨#[65, 66, 45, 49]⟩] (.bool true) := fun W => by
  have h := same_any ⟨#[97, 98, 45, 49]⟩ ⟨#[65, 66, 45, 49]⟩ W (by decide) (by decide)
  have e1 : sameB ⟨#[97, 98, 45, 49]⟩ ⟨#[65, 66, 45, 49]⟩ = true := by unfold sameB; rw [toList_of, toList_of]; decide +kernel
  rw [e1] at h; exact h
theorem ex_same1 : Gives 29 #[.string ⟨#[97, 98]⟩, .string ⟨#[97, 98, 32]⟩] (.bool false) := fun W => by
  have h := same_any ⟨#[97, 98]⟩ ⟨#[97, 98, 32]⟩ W (by decide) (by decide)
  have e1 : sameB ⟨#[97, 98]⟩ ⟨#[97, 98, 32]⟩ = false := by unfold sameB; rw [toList_of, toList_of]; decide +kernel
  rw [e1] at h; exact h

set_option maxRecDepth 100000 in
set_option maxHeartbeats 1000000 in
theorem example_any : Gives 9 #[] (.bool true) := fun w => by
  go_enter Tryd.func9, Tryd.ntmps9
  go_wp2_with fail
  refine (ex_check0 _).mono ?_
  rintro e w0 ⟨rfl, g0⟩
  go_wp2_with fail
  refine (ex_check1 _).mono ?_
  rintro e w1 ⟨rfl, g1⟩
  go_wp2_with fail
  refine (ex_check2 _).mono ?_
  rintro e w2 ⟨rfl, g2⟩
  go_wp2_with fail
  refine (ex_make _).mono ?_
  rintro e w3 ⟨rfl, g3⟩
  go_wp2_with fail
  refine (ex_parse0 _).mono ?_
  rintro e w4 ⟨rfl, g4⟩
  go_wp2_with fail
  refine (ex_parse1 _).mono ?_
  rintro e w5 ⟨rfl, g5⟩
  go_wp2_with fail
  refine (ex_parse2 _).mono ?_
  rintro e w6 ⟨rfl, g6⟩
  go_wp2_with fail
  refine (ex_valid0 _).mono ?_
  rintro e w7 ⟨rfl, g7⟩
  go_wp2_with fail
  refine (ex_valid1 _).mono ?_
  rintro e w8 ⟨rfl, g8⟩
  go_wp2_with fail
  refine (ex_same0 _).mono ?_
  rintro e w9 ⟨rfl, g9⟩
  go_wp2_with fail
  refine (ex_same1 _).mono ?_
  rintro e w10 ⟨rfl, g10⟩
  go_wp2_with fail
  go_ret
  exact ⟨rfl, b2 (b2 (b2 (b2 (b2 (b2 (b2 (b2 (b2 (b2 (g0) g1) g2) g3) g4) g5) g6) g7) g8) g9) g10⟩
end Go.Proofs.YtkimniggdnlliaaDoor
