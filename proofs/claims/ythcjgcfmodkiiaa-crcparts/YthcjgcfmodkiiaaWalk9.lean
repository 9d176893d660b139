/- The reader: Ones and Rest. -/
import Derived.Test.YthcjgcfmodkiiaaWalk8
namespace Go.Proofs.Ythcjgcfmodkiiaa
set_option linter.unusedVariables false
set_option linter.unusedSimpArgs false
open Go.RowKit Dg

end Go.Proofs.Ythcjgcfmodkiiaa
