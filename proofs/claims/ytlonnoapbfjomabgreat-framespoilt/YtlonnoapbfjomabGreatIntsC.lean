/- Numbers a third time: x[k:]; rows of noughts that were made. -/
import Derived.Test.YtlonnoapbfjomabGreatIntsB
namespace Go.Proofs.YtlonnoapbfjomabGreat
set_option linter.unusedVariables false
set_option linter.unusedSimpArgs false
open Go.RowKit Dg

/-- Where 'x[k:]' begins. -/
def lowI (a : Option Addr) (cap k : Nat) : Option Addr := if cap = k then a else a.map fun x => x.add k
theorem slice_ints_lo (a : Option Addr) (n cap k : Nat) (hk : k ≤ n) (W : World) : (Instr.sliceAt 22 (.slice a n cap) (some (.int .i64 (k : Int))) none none).run Tryz.prog W = .ok (.slice (lowI a cap k) (n - k) (cap - k)) W := by
  obtain ⟨i0, hi, hz0, hz1, hz2⟩ := info_parts Tryz.info3
  simp [Instr.sliceAt, Instr.slice, Instr.sliceBounds, Instr.sliceBound, asIntOf, run_underlying Tryz.underlying22, sizeOf, typeInfo, hi, hz1, hk, lowI]
theorem IntsAt.drop {w : World} {a : Option Addr} {cap : Nat} {l : List Int} (h : IntsAt w a l) (hc : l.length ≤ cap) (k : Nat) : IntsAt w (lowI a cap k) (l.drop k) := by
  intro j x hx
  rw [List.getElem?_drop] at hx
  have hj : k + j < l.length := (List.getElem?_eq_some_iff.1 hx).1
  obtain ⟨b, off, rfl, hcell⟩ := h (k + j) x hx
  refine ⟨b, off + k, ?_, ?_⟩
  · unfold lowI
    rw [if_neg (by omega)]
    simp [Addr.add]
  · rw [Nat.add_assoc]
    exact hcell
theorem madeI (n : Nat) : (madeCells (Value.int .i64 0).cells (n * 1)).toList = i64s (List.replicate n 0) := by
  apply List.ext_getElem?
  intro k
  by_cases hk : k < n
  · simp [madeCells, i64s, hk, Value.cells, Nat.mod_one]
  · rw [List.getElem?_eq_none (by simp [madeCells]; omega), List.getElem?_eq_none (by simp; omega)]
/-- A row of noughts that was just made. -/
theorem OwnInts.made {w : World} {base : Nat} {v : Value} {Z : List Int} (hZ : Z = List.replicate Z.length 0) (h : w.ownsRow base 3 1 v Z.length (madeCells (Value.int .i64 0).cells Z.length).toList) : OwnInts w base v Z := by
  show World.ownsRow _ _ _ _ _ _ _
  have e := madeI Z.length
  rw [← hZ, Nat.mul_one] at e
  rw [← e]; exact h

end Go.Proofs.YtlonnoapbfjomabGreat
