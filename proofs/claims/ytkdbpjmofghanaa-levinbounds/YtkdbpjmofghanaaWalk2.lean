/- What a writer is in memory; add, by its contract. -/
import Derived.Test.YtkdbpjmofghanaaWalk1
namespace Go.Proofs.Ytkdbpjmofghanaa
set_option linter.unusedVariables false
set_option linter.unusedSimpArgs false
open Go.RowKit Dg

/-- What it lies in. -/
def Wf (b : Nat) (rv : Value) (k : Nat) : Prop := k = b ∨ rv.ownBlock = some k

end Go.Proofs.Ytkdbpjmofghanaa
