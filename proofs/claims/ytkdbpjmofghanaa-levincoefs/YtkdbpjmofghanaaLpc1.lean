/- The small functions of lpc, and Guess. -/
import Derived.Test.YtkdbpjmofghanaaLpcMath
namespace Go.Proofs.Ytkdbpjmofghanaa
set_option linter.unusedVariables false
set_option linter.unusedSimpArgs false
open Go.RowKit Dg

end Go.Proofs.Ytkdbpjmofghanaa
