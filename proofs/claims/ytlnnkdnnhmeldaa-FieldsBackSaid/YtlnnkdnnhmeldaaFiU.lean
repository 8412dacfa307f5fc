/-
  What the laws need.
-/
import Derived.Test.YtlnnkdnnhmeldaaFiT
namespace Go.Proofs.Ytlnnkdnnhmeldaa
end Go.Proofs.Ytlnnkdnnhmeldaa
