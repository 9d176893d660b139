/- The document's own answers: May, Fixed, told, Residual, Restore. -/
import Derived.Test.YtkdbpjmofghanabFix2
namespace Go.Proofs.Ytkdbpjmofghanab
set_option linter.unusedVariables false
set_option linter.unusedSimpArgs false
open Go.RowKit Dg

def mayZ (l : List Int) : Int := if allS l then (if 64 < l.length then 4 else 0) else 8
end Go.Proofs.Ytkdbpjmofghanab
