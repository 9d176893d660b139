/- LpcBack: the walk of the law. -/
import Derived.Test.YtlonnoapbfjomabGreatLpc5
namespace Go.Proofs.YtlonnoapbfjomabGreat
set_option linter.unusedVariables false
set_option linter.unusedSimpArgs false
open Go.RowKit Dg

theorem lresOut_ok (l cs : List Int) (hc : areC cs) (hl : cs.length ≤ l.length) (h64 : l.length ≤ 64) (hS : allS l) : (lresidZ l cs, 0) = lresOut l cs := by
  unfold lresOut
  rw [if_neg (by simp [hc]; omega), if_pos hS, if_neg (by omega)]
theorem lresOut_arg (l cs : List Int) (h : ¬ areC cs ∨ l.length < cs.length) : ([], 1) = lresOut l cs := by
  unfold lresOut
  rw [if_pos h]
theorem lrestZ_resid (l cs : List Int) (hS : allS l) (m : Nat) : ∀ n, cs.length ≤ n → n + m = l.length → lrestZ cs (l.take n) ((lresidZ l cs).drop (n - cs.length)) = some l := by
  induction m with
  | zero =>
    intro n hn he
    rw [List.drop_of_length_le (by simp; omega), List.take_of_length_le (by omega)]
    rfl
  | succ m ih =>
    intro n hn he
    have hlt : n < l.length := by omega
    have hg := lresidZ_get l cs n hn hlt
    have hd : n - cs.length < (lresidZ l cs).length := by simp; omega
    have e1 : (lresidZ l cs)[n - cs.length] = l.getD n 0 - lguess (l.take n) cs := (List.getElem?_eq_some_iff.1 hg).2
    rw [List.drop_eq_getElem_cons hd, e1]
    simp only [lrestZ]
    have e2 : lguess (l.take n) cs + (l.getD n 0 - lguess (l.take n) cs) = l.getD n 0 := by omega
    rw [e2, if_pos (hS.at hlt)]
    have e3 : l.take n ++ [l.getD n 0] = l.take (n + 1) := (take_next l n _ (by simp [List.getD, hlt])).symm
    rw [e3, show n - cs.length + 1 = n + 1 - cs.length by omega]
    exact ih (n + 1) (by omega) (by omega)
theorem lrestOut_resid (l cs : List Int) (hc : areC cs) (hl : cs.length ≤ l.length) (h64 : l.length ≤ 64) (hS : allS l) : (l, 0) = lrestOut (l.take cs.length) (lresidZ l cs) cs := by
  have h := lrestZ_resid l cs hS (l.length - cs.length) cs.length (Nat.le_refl _) (by omega)
  rw [Nat.sub_self, List.drop_zero] at h
  exact (lrestOut_some hc (by simp; omega) (hS.take _) h (by omega)).symm
theorem lresidZ_i64 (l cs : List Int) (hS : allS l) : ∀ x ∈ lresidZ l cs, I64 x := by
  intro x hx
  unfold lresidZ at hx
  obtain ⟨j, hj, rfl⟩ := List.mem_map.1 hx
  have hj' := List.mem_range.1 hj
  have h1 := hS.at (k := cs.length + j) (by omega)
  have h2 := lguess_small (l.take (cs.length + j)) cs
  unfold isS at h1
  unfold I64
  omega

end Go.Proofs.YtlonnoapbfjomabGreat
