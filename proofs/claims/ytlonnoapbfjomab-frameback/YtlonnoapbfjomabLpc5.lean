/- The document's example of law06; its coefficients. -/
import Derived.Test.YtlonnoapbfjomabLpc2
namespace Go.Proofs.Ytlonnoapbfjomab
set_option linter.unusedVariables false
set_option linter.unusedSimpArgs false
open Go.RowKit Dg

end Go.Proofs.Ytlonnoapbfjomab
