/- The document's own answers, by their contracts: TakeOnes, Rest. -/
import Derived.Test.YtlonnoapbfjomaaRef1
namespace Go.Proofs.Ytlonnoapbfjomaa
set_option linter.unusedVariables false
set_option linter.unusedSimpArgs false
open Go.RowKit Dg

/-- How many ones are ahead, m at most. -/
def lead : List Bool → Nat → Nat
  | [], _ => 0
  | _ :: _, 0 => 0
  | true :: ds, m + 1 => lead ds m + 1
  | false :: _, _ + 1 => 0
theorem lead_le (ds : List Bool) : ∀ m, lead ds m ≤ m := by
  induction ds with
  | nil => intro m; simp [lead]
  | cons d ds ih =>
    intro m
    cases m with
    | zero => simp [lead]
    | succ m => cases d with
      | true => have := ih m; simp [lead]; omega
      | false => simp [lead]
theorem lead_le_length (ds : List Bool) : ∀ m, lead ds m ≤ ds.length := by
  induction ds with
  | nil => intro m; simp [lead]
  | cons d ds ih =>
    intro m
    cases m with
    | zero => simp [lead]
    | succ m => cases d with
      | true => have := ih m; simp [lead]; omega
      | false => simp [lead]
theorem lead_true (ds : List Bool) : ∀ m i, i < lead ds m → ds[i]? = some true := by
  induction ds with
  | nil => intro m i h; simp [lead] at h
  | cons d ds ih =>
    intro m i h
    cases m with
    | zero => simp [lead] at h
    | succ m => cases d with
      | true =>
        simp only [lead] at h
        cases i with
        | zero => rfl
        | succ i => rw [List.getElem?_cons_succ]; exact ih m i (by omega)
      | false => simp [lead] at h
theorem lead_false (ds : List Bool) : ∀ m, lead ds m < m → lead ds m < ds.length → ds[lead ds m]? = some false := by
  induction ds with
  | nil => intro m _ h; simp at h
  | cons d ds ih =>
    intro m h1 h2
    cases m with
    | zero => omega
    | succ m => cases d with
      | true =>
        simp only [lead, List.length_cons] at h1 h2 ⊢
        rw [List.getElem?_cons_succ]
        exact ih m (by omega) (by omega)
      | false => simp [lead]

/-- Ones: what comes, how many are taken, whether it may be. -/
def onesOut (ds : List Bool) (most : Int) : Nat × Nat × Bool :=
  if 0 ≤ most ∧ most ≤ 1024 then
    if lead ds most.toNat = most.toNat then (most.toNat, most.toNat, true)
    else if lead ds most.toNat = ds.length then (0, 0, false)
    else (lead ds most.toNat, lead ds most.toNat + 1, true)
  else (0, 0, false)

end Go.Proofs.Ytlonnoapbfjomaa
