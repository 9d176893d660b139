/- Lend and Intact. -/
import Derived.Test.YtlonnoapbfjomabGreatRef4
namespace Go.Proofs.YtlonnoapbfjomabGreat
set_option linter.unusedVariables false
set_option linter.unusedSimpArgs false
open Go.RowKit Dg

/-- 'make([]T, n, c)': a new row of c zero elements. -/
theorem wpList_make_cap {P : Program} (w : World) {ops : Array Oper} {rest : List Oper} {o : Oper} {a : Act} {Q : Exit → Act → World → Prop}
    (hg : o.guard = none) (l c : Operand) (t : TypeId) (hop : o.op = Op.makeSlice t l c)
    (e : TypeId) (i : TypeInfo) (z : Value) (h1 : P.underlying t = some (.slice e)) (h2 : P.info? e = some i) (h3 : i.zero = some z)
    (kl kc : IntKind) (L C : Int) (n m : Nat) (hl : a.eval l = .int kl L) (hc : a.eval c = .int kc C) (hL : L = (n : Int)) (hC : C = (m : Int)) (hnm : n ≤ m) (b2 : i.bytes * m ≤ 281474976710656) (b3 : m ≤ maxLen)
    (hK : ∀ cur : Array Value, cur.size = m * i.size → wpList P ops Q rest (a.put o.dst (.slice (some ⟨w.heap.size, 0, none⟩) n m)) (w.alloc (.cells cur e))) :
    wpList P ops Q (o :: rest) a w := by
  refine wpList_plain hg fun K hK' => ?_
  have b3' : (m : Int) ≤ 9223372036854775807 := by unfold maxLen at b3; omega
  have b2' : (i.bytes : Int) * (m : Int) ≤ 281474976710656 := by
    have h : ((i.bytes * m : Nat) : Int) ≤ 281474976710656 := by omega
    rwa [Int.natCast_mul] at h
  have hrun := run_make (P := P) w t e i z h1 h2 h3 kl kc n m (by omega) (by omega) b2' b3'
  simp only [Int.toNat_natCast] at hrun
  subst hL
  subst hC
  unfold Oper.wp
  simp [execOp, hop, hl, hc, hrun, Result.andThen]
  exact hK' _ _ (hK _ (size_madeCells _ _))

/-- A row's cells, all of them. -/
def RowIs (w : World) (g : Nat) (X : List Value) : Prop := w.heap[g]? = some (.cells X.toArray 5 (0, 0))
theorem RowIs.cell {w : World} {g : Nat} {X : List Value} (h : RowIs w g X) {j : Nat} {u : Value} (hu : X[j]? = some u) : w.cell? ⟨g, j, none⟩ = some u := by
  have h' : w.heap[g]? = some (.cells X.toArray 5 (0, 0)) := h
  simp only [World.cell?, h']
  simpa using hu
theorem RowIs.frozen {w : World} {g : Nat} {X : List Value} (h : RowIs w g X) (j : Nat) : w.frozen? ⟨g, j, none⟩ = false := by
  have h' : w.heap[g]? = some (.cells X.toArray 5 (0, 0)) := h
  simp [World.frozen?, h']
theorem RowIs.set {w : World} {g : Nat} {X : List Value} (h : RowIs w g X) (j : Nat) (u : Value) : RowIs (w.setCell ⟨g, j, none⟩ u) g (X.set j u) := by
  have := heap_setCell_of (o := j) (show w.heap[g]? = some (.cells X.toArray 5 (0, 0)) from h) u
  unfold RowIs
  rw [this]
  simp
theorem RowIs.kept {w w' : World} {g : Nat} {X : List Value} {F : Nat → Prop} (h : RowIs w g X) (hk : Kept F w w') (hF : ¬ F g) : RowIs w' g X := by
  have h' : w.heap[g]? = some (.cells X.toArray 5 (0, 0)) := h
  unfold RowIs
  rw [hk.block g (Array.getElem?_eq_some_iff.1 h').1 hF]
  exact h'
theorem RowIs.below {w w' : World} {g : Nat} {X : List Value} (h : RowIs w g X) (hb : Below w.heap.size w w') : RowIs w' g X := h.kept (F := fun _ => False) (Kept.of_below hb) (fun h => h)
theorem RowIs.lt {w : World} {g : Nat} {X : List Value} (h : RowIs w g X) : g < w.heap.size := by
  have h' : w.heap[g]? = some (.cells X.toArray 5 (0, 0)) := h
  exact (Array.getElem?_eq_some_iff.1 h').1

end Go.Proofs.YtlonnoapbfjomabGreat
