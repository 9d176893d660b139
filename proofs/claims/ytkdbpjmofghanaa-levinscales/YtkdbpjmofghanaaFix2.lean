/- Restore, of the program. -/
import Derived.Test.YtkdbpjmofghanaaFix1
namespace Go.Proofs.Ytkdbpjmofghanaa
set_option linter.unusedVariables false
set_option linter.unusedSimpArgs false
open Go.RowKit Dg

theorem restOut_none {warm res : List Int} (h4 : ¬ 4 < warm.length) (hS : allS warm) (h : restZ (coefs (warm.length : Int)) warm res = none) : restOut warm res = ([], 8) := by
  unfold restOut
  rw [if_neg h4, if_pos hS, h]
theorem restOut_long {warm res x : List Int} (h4 : ¬ 4 < warm.length) (hS : allS warm) (h : restZ (coefs (warm.length : Int)) warm res = some x) (hx : 64 < x.length) : restOut warm res = ([], 4) := by
  unfold restOut
  rw [if_neg h4, if_pos hS, h]
  simp [hx]
theorem restOut_some {warm res x : List Int} (h4 : ¬ 4 < warm.length) (hS : allS warm) (h : restZ (coefs (warm.length : Int)) warm res = some x) (hx : ¬ 64 < x.length) : restOut warm res = (x, 0) := by
  unfold restOut
  rw [if_neg h4, if_pos hS, h]
  simp [hx]

end Go.Proofs.Ytkdbpjmofghanaa
