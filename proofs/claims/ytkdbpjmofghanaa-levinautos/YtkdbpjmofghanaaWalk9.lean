/- The reader: Ones and Rest. -/
import Derived.Test.YtkdbpjmofghanaaWalk8
namespace Go.Proofs.Ytkdbpjmofghanaa
set_option linter.unusedVariables false
set_option linter.unusedSimpArgs false
open Go.RowKit Dg

end Go.Proofs.Ytkdbpjmofghanaa
