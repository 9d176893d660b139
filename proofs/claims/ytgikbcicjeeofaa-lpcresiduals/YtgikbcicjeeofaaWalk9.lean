/- The reader: Ones and Rest. -/
import Derived.Test.YtgikbcicjeeofaaWalk8
namespace Go.Proofs.Ytgikbcicjeeofaa
set_option linter.unusedVariables false
set_option linter.unusedSimpArgs false
open Go.RowKit Dg

end Go.Proofs.Ytgikbcicjeeofaa
