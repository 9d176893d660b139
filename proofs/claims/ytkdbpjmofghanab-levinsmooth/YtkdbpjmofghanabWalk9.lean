/- The reader: Ones and Rest. -/
import Derived.Test.YtkdbpjmofghanabWalk8
namespace Go.Proofs.Ytkdbpjmofghanab
set_option linter.unusedVariables false
set_option linter.unusedSimpArgs false
open Go.RowKit Dg

end Go.Proofs.Ytkdbpjmofghanab
