/- Predictors whose coefficients are handed in: guesses, what is left, what is restored; no program. -/
import Derived.Test.YtlonnoapbfjomabGreatFix5
namespace Go.Proofs.YtlonnoapbfjomabGreat
set_option linter.unusedVariables false
set_option linter.unusedSimpArgs false
open Go.RowKit Dg

/-- A coefficient that may be; a number that counts. -/
def isC (c : Int) : Prop := -32768 ≤ c ∧ c ≤ 32767
instance (x : Int) : Decidable (isC x) := by unfold isC; infer_instance
def isN (x : Int) : Prop := -16777216 ≤ x ∧ x ≤ 16777216
instance (x : Int) : Decidable (isN x) := by unfold isN; infer_instance
def allC (l : List Int) : Prop := ∀ x ∈ l, isC x
instance (l : List Int) : Decidable (allC l) := by unfold allC; infer_instance
theorem allC.snoc {l : List Int} (h : allC l) {x : Int} (hx : isC x) : allC (l ++ [x]) := by
  intro y hy
  rcases List.mem_append.1 hy with h1 | h1
  · exact h y h1
  · simp at h1; subst h1; exact hx
theorem allC.take {l : List Int} (h : allC l) (n : Nat) : allC (l.take n) := fun x hx => h x (List.mem_of_mem_take hx)
/-- As many coefficients as may be, each one that may be. -/
def areC (l : List Int) : Prop := 1 ≤ l.length ∧ l.length ≤ 12 ∧ allC l
instance (l : List Int) : Decidable (areC l) := by unfold areC; infer_instance
/-- A product that counts. -/
def term (c x : Int) : Int := if isC c ∧ isN x then c * x else 0
theorem mul_bound {c x : Int} (hc : isC c) (hx : isN x) : -549755813888 ≤ c * x ∧ c * x ≤ 549755813888 := by
  obtain ⟨h1, h2⟩ := hc
  obtain ⟨h3, h4⟩ := hx
  have a1 : 0 ≤ (c + 32768) * (x + 16777216) := Int.mul_nonneg (by omega) (by omega)
  have a2 : 0 ≤ (c + 32768) * (16777216 - x) := Int.mul_nonneg (by omega) (by omega)
  have a3 : 0 ≤ (32768 - c) * (x + 16777216) := Int.mul_nonneg (by omega) (by omega)
  have a4 : 0 ≤ (32768 - c) * (16777216 - x) := Int.mul_nonneg (by omega) (by omega)
  constructor <;> grind
theorem term_small (c x : Int) : -549755813888 ≤ term c x ∧ term c x ≤ 549755813888 := by
  unfold term
  split
  · rename_i h; exact mul_bound h.1 h.2
  · omega
/-- The first terms of a guess. -/
def lsum (past cs : List Int) : Nat → Int
  | 0 => 0
  | k + 1 => lsum past cs k + term (cs.getD k 0) (past.getD (past.length - 1 - k) 0)
theorem lsum_small (past cs : List Int) (k : Nat) : -549755813888 * (k : Int) ≤ lsum past cs k ∧ lsum past cs k ≤ 549755813888 * (k : Int) := by
  induction k with
  | zero => simp [lsum]
  | succ k ih =>
    have := term_small (cs.getD k 0) (past.getD (past.length - 1 - k) 0)
    simp only [lsum]
    omega
/-- How many terms a guess has. -/
def terms (past cs : List Int) : Nat := min (min past.length cs.length) 12
theorem terms_le (past cs : List Int) : terms past cs ≤ past.length ∧ terms past cs ≤ cs.length ∧ terms past cs ≤ 12 := by unfold terms; omega
def lguess (past cs : List Int) : Int := lsum past cs (terms past cs) / 4096
theorem lguess_small (past cs : List Int) : -1610612736 ≤ lguess past cs ∧ lguess past cs ≤ 1610612736 := by
  have h1 := lsum_small past cs (terms past cs)
  have h2 := (terms_le past cs).2.2
  unfold lguess
  omega
/-- What the guesses leave. -/
def lresidZ (l cs : List Int) : List Int := (List.range (l.length - cs.length)).map fun j => l.getD (cs.length + j) 0 - lguess (l.take (cs.length + j)) cs
@[simp] theorem length_lresidZ (l cs : List Int) : (lresidZ l cs).length = l.length - cs.length := by simp [lresidZ]
theorem lresidZ_get (l cs : List Int) (i : Nat) (ho : cs.length ≤ i) (hi : i < l.length) : (lresidZ l cs)[i - cs.length]? = some (l.getD i 0 - lguess (l.take i) cs) := by
  unfold lresidZ
  rw [List.getElem?_map, List.getElem?_range (by omega)]
  simp only [Option.map_some]
  rw [show cs.length + (i - cs.length) = i by omega]
theorem lresidZ_next (l cs : List Int) (i : Nat) (ho : cs.length ≤ i) (hi : i < l.length) (y : Int) (hy : y = l.getD i 0 - lguess (l.take i) cs) : (lresidZ l cs).take (i + 1 - cs.length) = (lresidZ l cs).take (i - cs.length) ++ [y] := by
  rw [show i + 1 - cs.length = i - cs.length + 1 by omega]
  exact take_next _ _ _ (by rw [hy]; exact lresidZ_get l cs i ho hi)
/-- What Residual answers: the numbers, and how it ends. -/
def lresOut (l cs : List Int) : List Int × Int :=
  if ¬ areC cs ∨ l.length < cs.length then ([], 1) else if allS l then (if 64 < l.length then ([], 4) else (lresidZ l cs, 0)) else ([], 8)
theorem lresOut_len (l cs : List Int) : (lresOut l cs).1.length ≤ l.length := by
  unfold lresOut
  split
  · simp
  split
  · split <;> simp
  · simp
/-- The samples that have these residuals, behind what is there; none: a sample that may not be. -/
def lrestZ (cs : List Int) : List Int → List Int → Option (List Int)
  | x, [] => some x
  | x, r :: rs => if isS (lguess x cs + r) then lrestZ cs (x ++ [lguess x cs + r]) rs else none
def lrestOut (warm res cs : List Int) : List Int × Int :=
  if ¬ areC cs ∨ warm.length ≠ cs.length then ([], 1) else if allS warm then (match lrestZ cs warm res with | none => ([], 8) | some x => if 64 < x.length then ([], 4) else (x, 0)) else ([], 8)
theorem lrestZ_good {cs x res : List Int} {j : Nat} {r : Int} (h : res[j]? = some r) (hs : isS (lguess x cs + r)) (T : Option (List Int)) (hT : T = lrestZ cs x (res.drop j)) : T = lrestZ cs (x ++ [lguess x cs + r]) (res.drop (j + 1)) := by
  have hj : j < res.length := (List.getElem?_eq_some_iff.1 h).1
  have e : res[j] = r := (List.getElem?_eq_some_iff.1 h).2
  rw [hT, List.drop_eq_getElem_cons hj, e]
  simp only [lrestZ]
  rw [if_pos hs]
theorem lrestZ_bad {cs x res : List Int} {j : Nat} {r : Int} (h : res[j]? = some r) (hs : ¬ isS (lguess x cs + r)) (T : Option (List Int)) (hT : T = lrestZ cs x (res.drop j)) : T = none := by
  have hj : j < res.length := (List.getElem?_eq_some_iff.1 h).1
  have e : res[j] = r := (List.getElem?_eq_some_iff.1 h).2
  rw [hT, List.drop_eq_getElem_cons hj, e]
  simp only [lrestZ]
  rw [if_neg hs]
theorem lrestZ_end {cs x res : List Int} (T : Option (List Int)) (hT : T = lrestZ cs x (res.drop res.length)) : T = some x := by
  rw [hT, List.drop_length]
  rfl
theorem lrestOut_none {warm res cs : List Int} (h4 : areC cs) (hl : warm.length = cs.length) (hS : allS warm) (h : lrestZ cs warm res = none) : lrestOut warm res cs = ([], 8) := by
  unfold lrestOut
  rw [if_neg (by simp [h4, hl]), if_pos hS, h]
theorem lrestOut_long {warm res cs x : List Int} (h4 : areC cs) (hl : warm.length = cs.length) (hS : allS warm) (h : lrestZ cs warm res = some x) (hx : 64 < x.length) : lrestOut warm res cs = ([], 4) := by
  unfold lrestOut
  rw [if_neg (by simp [h4, hl]), if_pos hS, h]
  simp [hx]
theorem lrestOut_some {warm res cs x : List Int} (h4 : areC cs) (hl : warm.length = cs.length) (hS : allS warm) (h : lrestZ cs warm res = some x) (hx : ¬ 64 < x.length) : lrestOut warm res cs = (x, 0) := by
  unfold lrestOut
  rw [if_neg (by simp [h4, hl]), if_pos hS, h]
  simp [hx]
theorem lrestZ_len (cs : List Int) (res : List Int) : ∀ (x y : List Int), lrestZ cs x res = some y → y.length = x.length + res.length := by
  induction res with
  | nil => intro x y h; simp [lrestZ] at h; subst h; simp
  | cons r rs ih =>
    intro x y h
    simp only [lrestZ] at h
    split at h
    · have := ih _ _ h
      simp at this ⊢
      omega
    · cases h
theorem lrestOut_len (warm res cs : List Int) : (lrestOut warm res cs).1.length ≤ warm.length + res.length := by
  unfold lrestOut
  split
  · simp
  split
  · split
    · simp
    · rename_i x hx
      have := lrestZ_len _ _ _ _ hx
      split <;> simp <;> omega
  · simp

end Go.Proofs.YtlonnoapbfjomabGreat
