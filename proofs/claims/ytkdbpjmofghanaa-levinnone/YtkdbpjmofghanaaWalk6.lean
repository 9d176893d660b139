/- The reader: Get. -/
import Derived.Test.YtkdbpjmofghanaaWalk5
namespace Go.Proofs.Ytkdbpjmofghanaa
set_option linter.unusedVariables false
set_option linter.unusedSimpArgs false
open Go.RowKit Dg

theorem getElem?_drop_head (ds : List Bool) (k : Nat) (h : k < ds.length) : ∃ d, ds[k]? = some d := ⟨ds[k], by simp [h]⟩

end Go.Proofs.Ytkdbpjmofghanaa
