/- Rows of numbers that the call owns: Copy, an append of one number. -/
import Derived.Test.YtlonnoapbfjomabGreatRice2
import Derived.Laws.AppendOwnNone
namespace Go.Proofs.YtlonnoapbfjomabGreat
set_option linter.unusedVariables false
set_option linter.unusedSimpArgs false
open Go.RowKit Dg

end Go.Proofs.YtlonnoapbfjomabGreat
