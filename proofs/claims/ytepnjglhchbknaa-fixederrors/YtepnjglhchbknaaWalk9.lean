/- The reader: Ones and Rest. -/
import Derived.Test.YtepnjglhchbknaaWalk8
namespace Go.Proofs.Ytepnjglhchbknaa
set_option linter.unusedVariables false
set_option linter.unusedSimpArgs false
open Go.RowKit Dg

end Go.Proofs.Ytepnjglhchbknaa
