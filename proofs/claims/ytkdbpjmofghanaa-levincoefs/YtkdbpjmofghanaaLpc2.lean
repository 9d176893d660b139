/- Residual and Restore of lpc. -/
import Derived.Test.YtkdbpjmofghanaaLpc1
namespace Go.Proofs.Ytkdbpjmofghanaa
set_option linter.unusedVariables false
set_option linter.unusedSimpArgs false
open Go.RowKit Dg

end Go.Proofs.Ytkdbpjmofghanaa
