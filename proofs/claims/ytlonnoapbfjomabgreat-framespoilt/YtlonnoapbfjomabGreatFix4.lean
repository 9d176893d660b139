/- Samples and Ruin; the document's example of law05. -/
import Derived.Test.YtlonnoapbfjomabGreatFix3
namespace Go.Proofs.YtlonnoapbfjomabGreat
set_option linter.unusedVariables false
set_option linter.unusedSimpArgs false
open Go.RowKit Dg

theorem wrap64_mem (n : Int) : -9223372036854775808 ≤ wrap64 n ∧ wrap64 n ≤ 9223372036854775807 := by unfold wrap64; omega

/-- All the cells of a row. -/
def CellsAt (w : World) (g : Nat) (cur : Array Value) : Prop := w.heap[g]? = some (.cells cur 3 (0, 0))
theorem CellsAt.cell {w : World} {g : Nat} {cur : Array Value} (h : CellsAt w g cur) {j : Nat} {u : Value} (hu : cur[j]? = some u) : w.cell? ⟨g, j, none⟩ = some u := by
  have h' : w.heap[g]? = some (.cells cur 3 (0, 0)) := h
  simp only [World.cell?, h']
  simpa using hu
theorem CellsAt.frozen {w : World} {g : Nat} {cur : Array Value} (h : CellsAt w g cur) (j : Nat) : w.frozen? ⟨g, j, none⟩ = false := by
  have h' : w.heap[g]? = some (.cells cur 3 (0, 0)) := h
  simp [World.frozen?, h']
theorem CellsAt.set {w : World} {g : Nat} {cur : Array Value} (h : CellsAt w g cur) (j : Nat) (u : Value) : CellsAt (w.setCell ⟨g, j, none⟩ u) g (cur.setIfInBounds j u) := heap_setCell_of h u

end Go.Proofs.YtlonnoapbfjomabGreat
