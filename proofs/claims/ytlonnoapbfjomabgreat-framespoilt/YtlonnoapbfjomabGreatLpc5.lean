/- The document's example of law06; its coefficients. -/
import Derived.Test.YtlonnoapbfjomabGreatLpc2
namespace Go.Proofs.YtlonnoapbfjomabGreat
set_option linter.unusedVariables false
set_option linter.unusedSimpArgs false
open Go.RowKit Dg

end Go.Proofs.YtlonnoapbfjomabGreat
