/- Predictors over lists of numbers: coefficients, guesses, what is left, what is restored; no program. -/
import Derived.Test.YtlonnoapbfjomabGreatIntsB
namespace Go.Proofs.YtlonnoapbfjomabGreat
set_option linter.unusedVariables false
set_option linter.unusedSimpArgs false
open Go.RowKit Dg

/-- A sample that may be. -/
def isS (x : Int) : Prop := -8388608 ≤ x ∧ x ≤ 8388607
instance (x : Int) : Decidable (isS x) := by unfold isS; infer_instance
def allS (l : List Int) : Prop := ∀ x ∈ l, isS x
instance (l : List Int) : Decidable (allS l) := by unfold allS; infer_instance
theorem allS.take {l : List Int} (h : allS l) (n : Nat) : allS (l.take n) := fun x hx => h x (List.mem_of_mem_take hx)
theorem allS.snoc {l : List Int} (h : allS l) {x : Int} (hx : isS x) : allS (l ++ [x]) := by
  intro y hy
  rcases List.mem_append.1 hy with h1 | h1
  · exact h y h1
  · simp at h1; subst h1; exact hx
theorem getD_of {l : List Int} {k : Nat} {x : Int} (h : l[k]? = some x) : l.getD k 0 = x := by simp [List.getD, h]
theorem allS.at {l : List Int} (h : allS l) {k : Nat} (hk : k < l.length) : isS (l.getD k 0) := by
  have e : l[k]? = some l[k] := by simp [hk]
  rw [getD_of e]
  exact h _ (List.getElem_mem hk)
/-- The fixed predictors' coefficients. -/
def coefs (o : Int) : List Int := if o = 1 then [1] else if o = 2 then [2, -1] else if o = 3 then [3, -3, 1] else if o = 4 then [4, -6, 4, -1] else []
theorem coefs_of {o : Int} (h : o = 0 ∨ o = 1 ∨ o = 2 ∨ o = 3 ∨ o = 4) : (coefs o).length = o.toNat ∧ ∀ c ∈ coefs o, -6 ≤ c ∧ c ≤ 6 := by
  rcases h with rfl | rfl | rfl | rfl | rfl <;> simp [coefs]
theorem coefs_ge (o : Int) (h0 : 0 ≤ o) (h4 : o ≤ 4) : ((coefs o).length : Int) = o ∧ ∀ c ∈ coefs o, -6 ≤ c ∧ c ≤ 6 := by
  have h := coefs_of (o := o) (by omega)
  exact ⟨by have := h.1; omega, h.2⟩
theorem coefs_le (o : Int) : (coefs o).length ≤ 4 := by
  unfold coefs
  split
  · simp
  split
  · simp
  split
  · simp
  split <;> simp
/-- The first terms of a guess: each coefficient with the number that lies so far ahead. -/
def gsum (past cs : List Int) : Nat → Int
  | 0 => 0
  | k + 1 => gsum past cs k + cs.getD k 0 * past.getD (past.length - 1 - k) 0
def guessZ (past cs : List Int) : Int := gsum past cs cs.length
theorem mul_small {c x : Int} (hc : -6 ≤ c ∧ c ≤ 6) (hx : isS x) : -50331648 ≤ c * x ∧ c * x ≤ 50331648 := by
  unfold isS at hx
  rcases (by omega : c = -6 ∨ c = -5 ∨ c = -4 ∨ c = -3 ∨ c = -2 ∨ c = -1 ∨ c = 0 ∨ c = 1 ∨ c = 2 ∨ c = 3 ∨ c = 4 ∨ c = 5 ∨ c = 6) with rfl | rfl | rfl | rfl | rfl | rfl | rfl | rfl | rfl | rfl | rfl | rfl | rfl <;> omega
theorem gsum_small {past cs : List Int} (hS : allS past) (hC : ∀ c ∈ cs, -6 ≤ c ∧ c ≤ 6) (hl : cs.length ≤ past.length) (k : Nat) (hk : k ≤ cs.length) : -50331648 * (k : Int) ≤ gsum past cs k ∧ gsum past cs k ≤ 50331648 * (k : Int) := by
  induction k with
  | zero => simp [gsum]
  | succ k ih =>
    have ih := ih (by omega)
    have hk' : k < cs.length := by omega
    have e : cs[k]? = some cs[k] := by simp [hk']
    have h1 := mul_small (hC cs[k] (List.getElem_mem hk')) (hS.at (k := past.length - 1 - k) (by omega))
    simp only [gsum]
    rw [getD_of e]
    omega
theorem guess_small {past cs : List Int} (hS : allS past) (hC : ∀ c ∈ cs, -6 ≤ c ∧ c ≤ 6) (hl : cs.length ≤ past.length) (h4 : cs.length ≤ 4) : -201326592 ≤ guessZ past cs ∧ guessZ past cs ≤ 201326592 := by
  have := gsum_small hS hC hl cs.length (Nat.le_refl _)
  unfold guessZ
  omega
/-- What the predictor of an order leaves. -/
def residZ (l : List Int) (o : Nat) : List Int := (List.range (l.length - o)).map fun j => l.getD (o + j) 0 - guessZ (l.take (o + j)) (coefs (o : Int))
@[simp] theorem length_residZ (l : List Int) (o : Nat) : (residZ l o).length = l.length - o := by simp [residZ]
theorem residZ_get (l : List Int) (o i : Nat) (ho : o ≤ i) (hi : i < l.length) : (residZ l o)[i - o]? = some (l.getD i 0 - guessZ (l.take i) (coefs (o : Int))) := by
  unfold residZ
  rw [List.getElem?_map, List.getElem?_range (by omega)]
  simp only [Option.map_some]
  rw [show o + (i - o) = i by omega]
theorem residZ_next (l : List Int) (o i : Nat) (ho : o ≤ i) (hi : i < l.length) (y : Int) (hy : y = l.getD i 0 - guessZ (l.take i) (coefs (o : Int))) : (residZ l o).take (i + 1 - o) = (residZ l o).take (i - o) ++ [y] := by
  rw [show i + 1 - o = i - o + 1 by omega]
  exact take_next _ _ _ (by rw [hy]; exact residZ_get l o i ho hi)
/-- What Residual answers: the numbers, and how it ends. -/
def resOut (l : List Int) (o : Int) : List Int × Int :=
  if o < 0 ∨ 4 < o ∨ (l.length : Int) < o then ([], 1) else if allS l then (if 64 < l.length then ([], 4) else (residZ l o.toNat, 0)) else ([], 8)
/-- The samples that have these residuals, behind what is there; none: a sample that may not be. -/
def restZ (cs : List Int) : List Int → List Int → Option (List Int)
  | x, [] => some x
  | x, r :: rs => if isS (guessZ x cs + r) then restZ cs (x ++ [guessZ x cs + r]) rs else none
def restOut (warm res : List Int) : List Int × Int :=
  if 4 < warm.length then ([], 1) else if allS warm then (match restZ (coefs (warm.length : Int)) warm res with | none => ([], 8) | some x => if 64 < x.length then ([], 4) else (x, 0)) else ([], 8)
theorem restZ_good {cs x res : List Int} {j : Nat} {r : Int} (h : res[j]? = some r) (hs : isS (guessZ x cs + r)) (T : Option (List Int)) (hT : T = restZ cs x (res.drop j)) : T = restZ cs (x ++ [guessZ x cs + r]) (res.drop (j + 1)) := by
  have hj : j < res.length := (List.getElem?_eq_some_iff.1 h).1
  have e : res[j] = r := (List.getElem?_eq_some_iff.1 h).2
  rw [hT, List.drop_eq_getElem_cons hj, e]
  simp only [restZ]
  rw [if_pos hs]
theorem restZ_bad {cs x res : List Int} {j : Nat} {r : Int} (h : res[j]? = some r) (hs : ¬ isS (guessZ x cs + r)) (T : Option (List Int)) (hT : T = restZ cs x (res.drop j)) : T = none := by
  have hj : j < res.length := (List.getElem?_eq_some_iff.1 h).1
  have e : res[j] = r := (List.getElem?_eq_some_iff.1 h).2
  rw [hT, List.drop_eq_getElem_cons hj, e]
  simp only [restZ]
  rw [if_neg hs]
theorem restZ_end {cs x res : List Int} (T : Option (List Int)) (hT : T = restZ cs x (res.drop res.length)) : T = some x := by
  rw [hT, List.drop_length]
  rfl

end Go.Proofs.YtlonnoapbfjomabGreat
