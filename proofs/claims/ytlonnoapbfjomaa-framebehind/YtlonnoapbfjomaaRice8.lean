/- The document's own next number: TakeRice. -/
import Derived.Test.YtlonnoapbfjomaaRice7
import Derived.Test.YtlonnoapbfjomaaRice4
namespace Go.Proofs.Ytlonnoapbfjomaa
set_option linter.unusedVariables false
set_option linter.unusedSimpArgs false
open Go.RowKit Dg

theorem isNum_zero : isNum 0 = true := by decide

end Go.Proofs.Ytlonnoapbfjomaa
