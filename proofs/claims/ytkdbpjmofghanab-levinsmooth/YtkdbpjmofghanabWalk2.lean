/- What a writer is in memory; add, by its contract. -/
import Derived.Test.YtkdbpjmofghanabWalk1
namespace Go.Proofs.Ytkdbpjmofghanab
set_option linter.unusedVariables false
set_option linter.unusedSimpArgs false
open Go.RowKit Dg

/-- What it lies in. -/
def Wf (b : Nat) (rv : Value) (k : Nat) : Prop := k = b ∨ rv.ownBlock = some k

end Go.Proofs.Ytkdbpjmofghanab
