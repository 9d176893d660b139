/- The small functions of fixed, and Residual. -/
import Derived.Test.YtkdbpjmofghanaaFixMath
namespace Go.Proofs.Ytkdbpjmofghanaa
set_option linter.unusedVariables false
set_option linter.unusedSimpArgs false
open Go.RowKit Dg

/-- What a function of a list and an error has given. -/
def Gave (w w' : World) (R : List Int × Int) (e : Ending) : Prop :=
  ∃ v, e = .returned (.tuple #[v, .int .i64 R.2]) ∧ OwnInts w' w.heap.size v R.1 ∧ Below w.heap.size w w'
theorem Gave.none {w w' : World} {R : List Int × Int} {k : Int} (hR : R = ([], k)) (hb : Below w.heap.size w w') : Gave w w' R (.returned (.tuple #[.slice none 0 0, .int .i64 k])) := by
  subst hR
  exact ⟨_, rfl, OwnInts.nil _ _, hb⟩

end Go.Proofs.Ytkdbpjmofghanaa
