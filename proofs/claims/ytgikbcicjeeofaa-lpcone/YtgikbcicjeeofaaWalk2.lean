/- What a writer is in memory; add, by its contract. -/
import Derived.Test.YtgikbcicjeeofaaWalk1
namespace Go.Proofs.Ytgikbcicjeeofaa
set_option linter.unusedVariables false
set_option linter.unusedSimpArgs false
open Go.RowKit Dg

/-- What it lies in. -/
def Wf (b : Nat) (rv : Value) (k : Nat) : Prop := k = b ∨ rv.ownBlock = some k

end Go.Proofs.Ytgikbcicjeeofaa
