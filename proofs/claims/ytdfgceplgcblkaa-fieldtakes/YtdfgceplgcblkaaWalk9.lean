/- The reader: Ones and Rest. -/
import Derived.Test.YtdfgceplgcblkaaWalk8
namespace Go.Proofs.Ytdfgceplgcblkaa
set_option linter.unusedVariables false
set_option linter.unusedSimpArgs false
open Go.RowKit Dg

end Go.Proofs.Ytdfgceplgcblkaa
