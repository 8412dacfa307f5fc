/-
  No cell of these rows narrows 'for every input' (looked for: loops, veiled, ifaces, maps, wideKeys, modest, calm, conditions, laid).
  DERIVED. THE GIVEN ROWS OF THIS SEAT. 5 by the template 'for every input the law returns true; each argument reads behind the call as it read before'; 0 by the template 'total and deterministic' (their statements: YtoalhgbdekbklaaTotals.lean).
  GIVEN WITH THE SEED: the statements are not yours to turn. If you find one false, say at which input.
  Laid BY PROGRAM, IN A SANDBOX (cutbox-rows.mjs): the forced cells as the released guide's own fill.sh prints them over the translation 4ed9bf4f98d67259… (all of the seat's roots in one cut). By AI agents, Wed Nov 11 2026. No macro, syntax, notation, axiom, sorry.
-/
import Derived.Test.YtoalhgbdekbklaaChecked
import GoSem.Claim
import GoSem.ClaimJoined
import GoSem.ClaimMapViews
import Derived.JoinedTies
import Derived.KernelRfl
namespace Go.Proofs.Ytoalhgbdekbklaa
/- THE CELL 'sum', in the pinned program and in every row, IS THE sha256 OF THE DUMP (.gsa) THAT YtoalhgbdekbklaaProg.lean LOADS. Nothing in Lean hashes anything: it is a label: what it is worth is what the hold of that sum in a sandbox is worth. -/
noncomputable def Try.pinned : Pinned := { name := "ytoalhgbdekbklaa", sum := "4ed9bf4f98d67259c780bde6705ad26c13646c315578fb607f2d5f2295a9cdbe", checked := Try.checked }
namespace Rows
def none {H : Type} : Left H := { results := [], args := [] }

/-- 'chargenetlaw08.SealSums': WHATEVER THE INPUT: true; the input reads as it did. -/
def sealSumsSpec : ChangeSpec := { name := "sealSums", fn := fun _ => fun
  | [d1, d2] => { results := [.lit (.bool true)], args := [d1, d2] }
  | _ => none }
def sealSumsRow : OpenClaim := { program := "ytoalhgbdekbklaa", sum := "4ed9bf4f98d67259c780bde6705ad26c13646c315578fb607f2d5f2295a9cdbe", func := "chargenet/chargenetlaw08.SealSums", spec := "sealSums", apart := false }
def SealSumsSaid : Prop := sealSumsRow.holds Try.pinned (OpenSpec.ofChange sealSumsSpec)

/-- ITS FALSE NEIGHBOUR: 'it returns false'. Refute it at one input. -/
def sealSumsWrong : ChangeSpec := { name := "sealSums", fn := fun _ => fun
  | [d1, d2] => { results := [.lit (.bool false)], args := [d1, d2] }
  | _ => none }
def SealSumsWrongFalsely : Prop := sealSumsRow.holds Try.pinned (OpenSpec.ofChange sealSumsWrong)

/-- 'chargenetlaw08.SealDerives': WHATEVER THE INPUT: true; the input reads as it did. -/
def sealDerivesSpec : ChangeSpec := { name := "sealDerives", fn := fun _ => fun
  | [d1, d2] => { results := [.lit (.bool true)], args := [d1, d2] }
  | _ => none }
def sealDerivesRow : OpenClaim := { program := "ytoalhgbdekbklaa", sum := "4ed9bf4f98d67259c780bde6705ad26c13646c315578fb607f2d5f2295a9cdbe", func := "chargenet/chargenetlaw08.SealDerives", spec := "sealDerives", apart := false }
def SealDerivesSaid : Prop := sealDerivesRow.holds Try.pinned (OpenSpec.ofChange sealDerivesSpec)

/-- ITS FALSE NEIGHBOUR: 'it returns false'. Refute it at one input. -/
def sealDerivesWrong : ChangeSpec := { name := "sealDerives", fn := fun _ => fun
  | [d1, d2] => { results := [.lit (.bool false)], args := [d1, d2] }
  | _ => none }
def SealDerivesWrongFalsely : Prop := sealDerivesRow.holds Try.pinned (OpenSpec.ofChange sealDerivesWrong)

/-- 'chargenetlaw08.SealChains': WHATEVER THE INPUT: true; the input reads as it did. -/
def sealChainsSpec : ChangeSpec := { name := "sealChains", fn := fun _ => fun
  | [d1, d2, d3] => { results := [.lit (.bool true)], args := [d1, d2, d3] }
  | _ => none }
def sealChainsRow : OpenClaim := { program := "ytoalhgbdekbklaa", sum := "4ed9bf4f98d67259c780bde6705ad26c13646c315578fb607f2d5f2295a9cdbe", func := "chargenet/chargenetlaw08.SealChains", spec := "sealChains", apart := false }
def SealChainsSaid : Prop := sealChainsRow.holds Try.pinned (OpenSpec.ofChange sealChainsSpec)

/-- ITS FALSE NEIGHBOUR: 'it returns false'. Refute it at one input. -/
def sealChainsWrong : ChangeSpec := { name := "sealChains", fn := fun _ => fun
  | [d1, d2, d3] => { results := [.lit (.bool false)], args := [d1, d2, d3] }
  | _ => none }
def SealChainsWrongFalsely : Prop := sealChainsRow.holds Try.pinned (OpenSpec.ofChange sealChainsWrong)

/-- 'chargenetlaw08.SealAgrees': WHATEVER THE INPUT: true; the input reads as it did. -/
def sealAgreesSpec : ChangeSpec := { name := "sealAgrees", fn := fun _ => fun
  | [d1, d2] => { results := [.lit (.bool true)], args := [d1, d2] }
  | _ => none }
def sealAgreesRow : OpenClaim := { program := "ytoalhgbdekbklaa", sum := "4ed9bf4f98d67259c780bde6705ad26c13646c315578fb607f2d5f2295a9cdbe", func := "chargenet/chargenetlaw08.SealAgrees", spec := "sealAgrees", apart := false }
def SealAgreesSaid : Prop := sealAgreesRow.holds Try.pinned (OpenSpec.ofChange sealAgreesSpec)

/-- ITS FALSE NEIGHBOUR: 'it returns false'. Refute it at one input. -/
def sealAgreesWrong : ChangeSpec := { name := "sealAgrees", fn := fun _ => fun
  | [d1, d2] => { results := [.lit (.bool false)], args := [d1, d2] }
  | _ => none }
def SealAgreesWrongFalsely : Prop := sealAgreesRow.holds Try.pinned (OpenSpec.ofChange sealAgreesWrong)

/-- 'chargenetlaw08.SealKeeps': WHATEVER THE INPUT: true; the input reads as it did. -/
def sealKeepsSpec : ChangeSpec := { name := "sealKeeps", fn := fun _ => fun
  | [d1, d2, d3] => { results := [.lit (.bool true)], args := [d1, d2, d3] }
  | _ => none }
def sealKeepsRow : OpenClaim := { program := "ytoalhgbdekbklaa", sum := "4ed9bf4f98d67259c780bde6705ad26c13646c315578fb607f2d5f2295a9cdbe", func := "chargenet/chargenetlaw08.SealKeeps", spec := "sealKeeps", apart := false }
def SealKeepsSaid : Prop := sealKeepsRow.holds Try.pinned (OpenSpec.ofChange sealKeepsSpec)

/-- ITS FALSE NEIGHBOUR: 'it returns false'. Refute it at one input. -/
def sealKeepsWrong : ChangeSpec := { name := "sealKeeps", fn := fun _ => fun
  | [d1, d2, d3] => { results := [.lit (.bool false)], args := [d1, d2, d3] }
  | _ => none }
def SealKeepsWrongFalsely : Prop := sealKeepsRow.holds Try.pinned (OpenSpec.ofChange sealKeepsWrong)

/- THE SECOND FORM. 'bulk': how many values and letters a reading holds, each counted each time it is reached (what is shared counts as often as it is met; a slice's spare places count too). A statement '..UptoSaid' is the law's where the arguments, and the package variables that the reading takes, are together of bulk at most 1048576: NARROWER than '..Said'. Prove '..Said' where nothing that the law and all that it calls make is longer than what came in: it says more and counts as full. Else prove '..UptoSaid'. A law counts once. -/
mutual
def uptoBulk {H : Type} : DataW H → Nat
  | .lit (.string bytes) => bytes.length + 1
  | .lit _ => 1
  | .nil => 1
  | .ptr d => uptoBulk d + 1
  | .slice elems spare => uptoBulkAll elems + uptoBulkAll spare + 1
  | .agg parts => uptoBulkAll parts + 1
  | .iface _ d => uptoBulk d + 1
  | .map entries => uptoBulkEntries entries + 1
  | .held _ => 1
def uptoBulkAll {H : Type} : List (DataW H) → Nat
  | [] => 0
  | d :: r => uptoBulk d + uptoBulkAll r
def uptoBulkEntries {H : Type} : List (Lit × DataW H) → Nat
  | [] => 0
  | x :: r => uptoBulkEntry x + uptoBulkEntries r
def uptoBulkEntry {H : Type} : Lit × DataW H → Nat
  | (.string bytes, d) => bytes.length + uptoBulk d + 1
  | (_, d) => uptoBulk d + 1
 end
def uptoSmall : (H : Type) → List (DataW H) → Bool := fun _ ds => decide (uptoBulkAll ds ≤ 1048576)
def OpenSpec.upto (s : _root_.Go.ChangeSpec) : _root_.Go.OpenSpec := { _root_.Go.OpenSpec.ofChange s with cond := some uptoSmall }

/-- 'chargenetlaw08.SealSums', WHERE WHAT IT READS IS OF BULK AT MOST 1048576: true; the input reads as it did. -/
def sealSumsUptoRow : OpenClaim := { program := "ytoalhgbdekbklaa", sum := "4ed9bf4f98d67259c780bde6705ad26c13646c315578fb607f2d5f2295a9cdbe", func := "chargenet/chargenetlaw08.SealSums", spec := "sealSums", apart := false, narrowed := true }
def SealSumsUptoSaid : Prop := sealSumsUptoRow.holds Try.pinned (OpenSpec.upto sealSumsSpec)

/-- 'chargenetlaw08.SealDerives', WHERE WHAT IT READS IS OF BULK AT MOST 1048576: true; the input reads as it did. -/
def sealDerivesUptoRow : OpenClaim := { program := "ytoalhgbdekbklaa", sum := "4ed9bf4f98d67259c780bde6705ad26c13646c315578fb607f2d5f2295a9cdbe", func := "chargenet/chargenetlaw08.SealDerives", spec := "sealDerives", apart := false, narrowed := true }
def SealDerivesUptoSaid : Prop := sealDerivesUptoRow.holds Try.pinned (OpenSpec.upto sealDerivesSpec)

/-- 'chargenetlaw08.SealChains', WHERE WHAT IT READS IS OF BULK AT MOST 1048576: true; the input reads as it did. -/
def sealChainsUptoRow : OpenClaim := { program := "ytoalhgbdekbklaa", sum := "4ed9bf4f98d67259c780bde6705ad26c13646c315578fb607f2d5f2295a9cdbe", func := "chargenet/chargenetlaw08.SealChains", spec := "sealChains", apart := false, narrowed := true }
def SealChainsUptoSaid : Prop := sealChainsUptoRow.holds Try.pinned (OpenSpec.upto sealChainsSpec)

/-- 'chargenetlaw08.SealAgrees', WHERE WHAT IT READS IS OF BULK AT MOST 1048576: true; the input reads as it did. -/
def sealAgreesUptoRow : OpenClaim := { program := "ytoalhgbdekbklaa", sum := "4ed9bf4f98d67259c780bde6705ad26c13646c315578fb607f2d5f2295a9cdbe", func := "chargenet/chargenetlaw08.SealAgrees", spec := "sealAgrees", apart := false, narrowed := true }
def SealAgreesUptoSaid : Prop := sealAgreesUptoRow.holds Try.pinned (OpenSpec.upto sealAgreesSpec)

/-- 'chargenetlaw08.SealKeeps', WHERE WHAT IT READS IS OF BULK AT MOST 1048576: true; the input reads as it did. -/
def sealKeepsUptoRow : OpenClaim := { program := "ytoalhgbdekbklaa", sum := "4ed9bf4f98d67259c780bde6705ad26c13646c315578fb607f2d5f2295a9cdbe", func := "chargenet/chargenetlaw08.SealKeeps", spec := "sealKeeps", apart := false, narrowed := true }
def SealKeepsUptoSaid : Prop := sealKeepsUptoRow.holds Try.pinned (OpenSpec.upto sealKeepsSpec)

end Rows
end Go.Proofs.Ytoalhgbdekbklaa
