/- The document's own samples and residuals out of digits. -/
import Derived.Test.YtlonnoapbfjomaaFrm4
import Derived.Test.YtlonnoapbfjomaaRice8
namespace Go.Proofs.Ytlonnoapbfjomaa
set_option linter.unusedVariables false
set_option linter.unusedSimpArgs false
open Go.RowKit Dg

theorem below_keep {B : Nat} {w w' : World} (h : Below B w w') : Kept (fun k => B ≤ k) w w' := ⟨h.os, h.tape, h.output, h.size, fun k _ hf => h.block k (by omega)⟩
theorem BtAt.under {B : Nat} {w w' : World} {v : Value} {ds : List Bool} (h : BtAt w v ds) (hb : Below B w w') (hv : ∀ k, v.ownBlock = some k → k < B) : BtAt w' v ds :=
  h.kept (below_keep hb) (fun k hk => by have := hv k hk; omega)
theorem takeD_some {ds : List Bool} {n : Nat} (hn : n ≤ 62) (h : n ≤ ds.length) : takeD ds n = some (num (ds.take n), ds.drop n) ∧ getOut ds (n : Int) = (num (ds.take n), n, true) := by
  refine ⟨by unfold takeD; rw [if_pos h], ?_⟩
  unfold getOut
  rw [if_pos ⟨by omega, by omega, by omega⟩, Int.toNat_natCast]
theorem takeD_none {ds : List Bool} {n : Nat} (h : ¬ n ≤ ds.length) : takeD ds n = none ∧ getOut ds (n : Int) = (0, 0, false) := by
  refine ⟨by unfold takeD; rw [if_neg h], ?_⟩
  unfold getOut
  rw [if_neg (fun h1 => h (by omega))]
theorem num_small (ds : List Bool) (n : Nat) : num (ds.take n) < 2 ^ n := by
  have h1 := num_lt (ds.take n)
  have h2 : (2 : Nat) ^ (ds.take n).length ≤ 2 ^ n := Nat.pow_le_pow_right (by decide) (by simp; omega)
  omega
/-- What samples, takeResiduals answer. -/
def TookT (w w' : World) (l : List Nat) (v0 : Value) (T : Option (List Int × List Bool)) (e : Ending) : Prop :=
  match T with
  | none => ∃ x v, e = .returned (.tuple #[x, v, .bool false]) ∧ Below w.heap.size w w'
  | some q => ∃ x v p, e = .returned (.tuple #[x, v, .bool true]) ∧ OwnInts w' w.heap.size x q.1 ∧ BtAt w' v (left l p) ∧ q.2 = left l p ∧ (∀ k, v.ownBlock = some k → v0.ownBlock = some k) ∧ Below w.heap.size w w'

end Go.Proofs.Ytlonnoapbfjomaa
