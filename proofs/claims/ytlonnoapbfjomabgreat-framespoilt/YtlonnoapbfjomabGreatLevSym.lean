/- Samples with all signs turned, and backwards, have the same sums and coefficients; samples that are all alike; no program. -/
import Derived.Test.YtlonnoapbfjomabGreatLev4
namespace Go.Proofs.YtlonnoapbfjomabGreat
set_option linter.unusedVariables false
set_option linter.unusedSimpArgs false
open Go.RowKit Dg

def sumTo (f : Nat → Int) : Nat → Int
  | 0 => 0
  | m + 1 => sumTo f m + f m
theorem sumTo_congr {f g : Nat → Int} : ∀ m, (∀ i, i < m → f i = g i) → sumTo f m = sumTo g m
  | 0, _ => rfl
  | m + 1, h => by rw [sumTo, sumTo, sumTo_congr m (fun i hi => h i (by omega)), h m (by omega)]
theorem sumTo_shift (f : Nat → Int) : ∀ m, sumTo f (m + 1) = f 0 + sumTo (fun i => f (i + 1)) m
  | 0 => by simp [sumTo]
  | m + 1 => by rw [sumTo, sumTo_shift f m, sumTo, Int.add_assoc]
theorem sumTo_rev : ∀ (m : Nat) (f : Nat → Int), sumTo f m = sumTo (fun i => f (m - 1 - i)) m
  | 0, f => rfl
  | m + 1, f => by
    rw [sumTo_shift, sumTo_rev m, sumTo]
    have e : sumTo (fun i => f (m - 1 - i + 1)) m = sumTo (fun i => f (m + 1 - 1 - i)) m := sumTo_congr m (fun i hi => by rw [show m - 1 - i + 1 = m + 1 - 1 - i by omega])
    rw [e, show m + 1 - 1 - m = 0 by omega, Int.add_comm]
theorem corr_sum (x : List Int) (k m : Nat) : corr x k m = sumTo (fun i => x.getD (k + i) 0 * x.getD i 0) m := by
  induction m with
  | zero => rfl
  | succ m ih => simp only [corr, sumTo]; rw [ih]
theorem getD_rev (x : List Int) {i : Nat} (h : i < x.length) : x.reverse.getD i 0 = x.getD (x.length - 1 - i) 0 := by
  rw [List.getD, List.getD, List.getElem?_reverse h]
theorem autoZ_rev (x : List Int) (k : Nat) : autoZ x.reverse k = autoZ x k := by
  unfold autoZ
  rw [List.length_reverse, corr_sum, corr_sum, sumTo_rev (x.length - k) (fun i => x.getD (k + i) 0 * x.getD i 0)]
  refine sumTo_congr _ (fun i hi => ?_)
  rw [getD_rev x (by omega), getD_rev x (by omega), show k + (x.length - k - 1 - i) = x.length - 1 - i by omega, show x.length - k - 1 - i = x.length - 1 - (k + i) by omega, Int.mul_comm]
theorem getD_neg (x : List Int) (i : Nat) : (x.map fun v => -v).getD i 0 = -x.getD i 0 := by
  rw [List.getD, List.getD, List.getElem?_map]
  cases x[i]? <;> simp
theorem autoZ_neg (x : List Int) (k : Nat) : autoZ (x.map fun v => -v) k = autoZ x k := by
  unfold autoZ
  rw [List.length_map, corr_sum, corr_sum]
  refine sumTo_congr _ (fun i _ => ?_)
  simp only [getD_neg]
  rw [Int.neg_mul_neg]
/-- Lists of samples whose sums are the same. -/
def Alike (x y : List Int) : Prop := y.length = x.length ∧ allS y ∧ ∀ k, autoZ y k = autoZ x k
theorem Alike.autoL {x y : List Int} (h : Alike x y) (n : Nat) : autoL y n = autoL x n := by
  unfold Go.Proofs.YtlonnoapbfjomabGreat.autoL
  refine List.map_congr_left (fun k _ => h.2.2 k)
theorem Alike.out {x y : List Int} (h : Alike x y) (hx : allS x) (o : Int) : autoOut y o = autoOut x o := by
  unfold autoOut
  rw [h.autoL, h.1]
  simp [hx, h.2.1]
theorem Alike.co {x y : List Int} (h : Alike x y) (hx : allS x) (o : Int) (s : Nat) : coOut y o s = coOut x o s := by
  unfold coOut
  rw [h.autoL, h.1, h.2.2 0]
  simp [hx, h.2.1]
theorem alike_rev {x : List Int} (h : allS x) : Alike x x.reverse := ⟨by simp, fun v hv => h v (by simpa using hv), autoZ_rev x⟩
theorem alike_neg {x : List Int} (h : ∀ v ∈ x, -8388607 ≤ v ∧ v ≤ 8388607) : Alike x (x.map fun v => -v) := by
  refine ⟨by simp, fun v hv => ?_, autoZ_neg x⟩
  obtain ⟨u, hu, rfl⟩ := List.mem_map.1 hv
  have := h u hu
  unfold isS
  omega

theorem corr_same (n : Nat) (v : Int) (k m : Nat) (h : k + m ≤ n) : corr (List.replicate n v) k m = v * v * (m : Int) := by
  induction m with
  | zero => simp [corr]
  | succ m ih =>
    simp only [corr]
    have e1 : (List.replicate n v).getD (k + m) 0 = v := by simp [List.getD, List.getElem?_replicate, show k + m < n by omega]
    have e2 : (List.replicate n v).getD m 0 = v := by simp [List.getD, List.getElem?_replicate, show m < n by omega]
    rw [ih (by omega), e1, e2]
    have e3 : ((m + 1 : Nat) : Int) = (m : Int) + 1 := by omega
    rw [e3, Int.mul_add, Int.mul_one]
theorem autoZ_same (n : Nat) (v : Int) (k : Nat) (h : k ≤ n) : autoZ (List.replicate n v) k = v * v * ((n : Int) - (k : Int)) := by
  unfold autoZ
  rw [List.length_replicate, corr_same n v k (n - k) (by omega), show ((n - k : Nat) : Int) = (n : Int) - (k : Int) by omega]
theorem near {A C P r0 r1 : Int} {s : Nat} (hA : 1 ≤ A) (hC0 : 0 ≤ C) (hC : 19 * A ≤ 20 * C) (hP : P = 2 ^ s) (h0 : r0 = A / P) (h1 : r1 = C / P) (hs : IsShift A s) : 1 ≤ r0 ∧ 3801 * r0 ≤ 4096 * r1 := by
  have hP1 : (1 : Int) ≤ P := by rw [hP]; exact Int.pow_pos (by decide)
  rcases Nat.eq_zero_or_pos s with e | e
  · subst e
    have : P = 1 := by rw [hP]; rfl
    subst this
    rw [Int.ediv_one] at h0 h1
    omega
  · have h2 : 536870912 ≤ r0 := by
      have g1 := hs.2 (s - 1) (by omega)
      have e2 : (2 : Int) ^ s = 2 ^ (s - 1) * 2 := by
        have : s = (s - 1) + 1 := by omega
        rw [this, Int.pow_succ]
        simp
      have hp : (0 : Int) ≤ 2 ^ (s - 1) := Int.le_of_lt (Int.pow_pos (by decide))
      rw [h0, hP, e2, ← Int.ediv_ediv_of_nonneg hp]
      omega
    have f1 := Int.mul_ediv_add_emod A P
    have f2 := Int.emod_nonneg A (show P ≠ 0 by omega)
    have f3 := Int.mul_ediv_add_emod C P
    have f4 := Int.emod_lt_of_pos C (show 0 < P by omega)
    rw [← h0] at f1
    rw [← h1] at f3
    have f5 : P * 536870912 ≤ P * r0 := Int.mul_le_mul_of_nonneg_left h2 (by omega)
    have f6 : P * (3801 * r0) ≤ P * (4096 * r1) := by
      have g1 : P * (3801 * r0) = 3801 * (P * r0) := by rw [← Int.mul_assoc, Int.mul_comm P 3801, Int.mul_assoc]
      have g2 : P * (4096 * r1) = 4096 * (P * r1) := by rw [← Int.mul_assoc, Int.mul_comm P 4096, Int.mul_assoc]
      rw [g1, g2]
      omega
    exact ⟨by omega, Int.le_of_mul_le_mul_left f6 (by omega)⟩
theorem coOut_same (n : Nat) (v : Int) (s : Nat) (hn : 20 ≤ n) (hn2 : n ≤ 63) (hv1 : 1 ≤ v) (hv2 : v ≤ 1000000) (hs : IsShift (autoZ (List.replicate n v) 0) s) : ∃ k, 3800 < k ∧ k ≤ 4095 ∧ coOut (List.replicate n v) 1 s = ([k], true) := by
  obtain ⟨x, hx⟩ : ∃ x, x = List.replicate n v := ⟨_, rfl⟩
  rw [← hx] at hs ⊢
  have hS : allS x := fun y hy => by
    rw [hx] at hy
    have := List.eq_of_mem_replicate hy
    unfold isS
    omega
  have hl : x.length = n := by rw [hx]; simp
  obtain ⟨r, hr⟩ : ∃ r, r = scaleL (autoL x (1 + 1)) s := ⟨_, rfl⟩
  obtain ⟨r0, hr0⟩ : ∃ r0, r0 = autoZ x 0 / 2 ^ s := ⟨_, rfl⟩
  obtain ⟨r1, hr1⟩ : ∃ r1, r1 = autoZ x 1 / 2 ^ s := ⟨_, rfl⟩
  have e0 : r.getD 0 0 = r0 := by rw [hr0]; exact getD_of (by rw [hr]; exact scaleL_get (autoL_get x (by omega)))
  have e1 : r.getD 1 0 = r1 := by rw [hr1]; exact getD_of (by rw [hr]; exact scaleL_get (autoL_get x (by omega)))
  have hvv : 1 ≤ v * v := by
    have := Int.mul_le_mul_of_nonneg_left hv1 (show (0 : Int) ≤ v by omega)
    omega
  obtain ⟨q, hq⟩ : ∃ q, q = v * v := ⟨_, rfl⟩
  rw [← hq] at hvv
  have hn' : (20 : Int) ≤ (n : Int) := by omega
  have ha : autoZ x 0 = q * (n : Int) := by rw [hx, autoZ_same n v 0 (by omega), hq]; simp
  have hc : autoZ x 1 = q * ((n : Int) - 1) := by rw [hx, autoZ_same n v 1 (by omega), hq]; simp
  have hqn : q * 20 ≤ q * (n : Int) := Int.mul_le_mul_of_nonneg_left hn' (by omega)
  have hc2 : autoZ x 1 = q * (n : Int) - q := by rw [hc, Int.mul_sub, Int.mul_one]
  have hk := near (A := autoZ x 0) (C := autoZ x 1) (P := 2 ^ s) (r0 := r0) (r1 := r1) (s := s) (by omega) (by omega) (by omega) rfl hr0 hr1 hs
  obtain ⟨k, hkk⟩ : ∃ k, k = kOf r [] r0 := ⟨_, rfl⟩
  have hkb := kOf_small r [] r0
  have hk2 : 3801 ≤ k := by
    have g1 : kOf r [] r0 = min (max (r1 * 4096 / r0) (-4095)) 4095 := by
      unfold kOf
      simp only [List.length_nil, numTo, Nat.zero_add]
      rw [e1]
    have g2 : 3801 ≤ r1 * 4096 / r0 := by
      rw [Int.le_ediv_iff_mul_le (by omega)]
      omega
    omega
  refine ⟨k, by omega, by omega, ?_⟩
  have hL : [k] = (lev r 1).1 := by
    simp only [lev]
    rw [e0, ← hkk]
    rfl
  have := coOut_good (x := x) (n := 1) (s := s) (by omega) (by omega) (by omega) hS (by omega) (by rw [← hr0]; omega) [k] (by rw [hL, hr])
  have hAC : allC [k] := fun y hy => by simp at hy; subst hy; unfold isC; omega
  rw [if_pos hAC] at this
  exact this

end Go.Proofs.YtlonnoapbfjomabGreat
