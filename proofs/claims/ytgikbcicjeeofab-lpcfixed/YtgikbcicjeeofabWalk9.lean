/- The reader: Ones and Rest. -/
import Derived.Test.YtgikbcicjeeofabWalk8
namespace Go.Proofs.Ytgikbcicjeeofab
set_option linter.unusedVariables false
set_option linter.unusedSimpArgs false
open Go.RowKit Dg

end Go.Proofs.Ytgikbcicjeeofab
