/- Sums of products, numbers made small, Levinson's steps in whole numbers; no program. -/
import Derived.Test.YtlonnoapbfjomabGreatLpcMath
namespace Go.Proofs.YtlonnoapbfjomabGreat
set_option linter.unusedVariables false
set_option linter.unusedSimpArgs false
open Go.RowKit Dg

/-- The first products of samples that lie k apart. -/
def corr (x : List Int) (k : Nat) : Nat → Int
  | 0 => 0
  | m + 1 => corr x k m + x.getD (k + m) 0 * x.getD m 0
def autoZ (x : List Int) (k : Nat) : Int := corr x k (x.length - k)
def autoL (x : List Int) (n : Nat) : List Int := (List.range n).map (autoZ x)
@[simp] theorem length_autoL (x : List Int) (n : Nat) : (autoL x n).length = n := by simp [autoL]
theorem autoL_get (x : List Int) {n k : Nat} (h : k < n) : (autoL x n)[k]? = some (autoZ x k) := by
  unfold autoL
  rw [List.getElem?_map, List.getElem?_range h]
  rfl
theorem autoL_getD (x : List Int) {n k : Nat} (h : k < n) : (autoL x n).getD k 0 = autoZ x k := getD_of (autoL_get x h)
theorem autoL_next (x : List Int) (n : Nat) : autoL x (n + 1) = autoL x n ++ [autoZ x n] := by
  unfold autoL
  rw [List.range_succ, List.map_append]
  rfl
/-- What Auto answers: the sums, and how it ends. -/
def autoOut (x : List Int) (lags : Int) : List Int × Int :=
  if lags < 0 ∨ 12 < lags then ([], 1) else if allS x then (if 64 < x.length then ([], 4) else (autoL x (lags.toNat + 1), 0)) else ([], 8)
theorem allS.atD {l : List Int} (h : allS l) (k : Nat) : isS (l.getD k 0) := by
  by_cases hk : k < l.length
  · exact h.at hk
  · rw [List.getD, List.getElem?_eq_none (by omega)]
    exact ⟨by decide, by decide⟩
theorem mul_s {a b : Int} (ha : isS a) (hb : isS b) : -70368744177664 ≤ a * b ∧ a * b ≤ 70368744177664 := by
  obtain ⟨h1, h2⟩ := ha
  obtain ⟨h3, h4⟩ := hb
  have a1 : 0 ≤ (a + 8388608) * (b + 8388608) := Int.mul_nonneg (by omega) (by omega)
  have a2 : 0 ≤ (a + 8388608) * (8388608 - b) := Int.mul_nonneg (by omega) (by omega)
  have a3 : 0 ≤ (8388608 - a) * (b + 8388608) := Int.mul_nonneg (by omega) (by omega)
  have a4 : 0 ≤ (8388608 - a) * (8388608 - b) := Int.mul_nonneg (by omega) (by omega)
  constructor <;> grind
theorem corr_small {x : List Int} (h : allS x) (k m : Nat) : -70368744177664 * (m : Int) ≤ corr x k m ∧ corr x k m ≤ 70368744177664 * (m : Int) := by
  induction m with
  | zero => simp [corr]
  | succ m ih =>
    have := mul_s (h.atD (k + m)) (h.atD m)
    simp only [corr]
    omega
theorem sq_nn (a : Int) : 0 ≤ a * a := by
  rcases Int.le_total 0 a with h | h
  · exact Int.mul_nonneg h h
  · exact Int.mul_nonneg_of_nonpos_of_nonpos h h
theorem sq_le (a b : Int) : 2 * (a * b) ≤ a * a + b * b ∧ -(2 * (a * b)) ≤ a * a + b * b := by
  have h1 := sq_nn (a - b)
  have h2 := sq_nn (a + b)
  constructor <;> grind
theorem corr_pair (x : List Int) (k m : Nat) : 2 * corr x k m ≤ corr x 0 (k + m) - corr x 0 k + corr x 0 m ∧ -(2 * corr x k m) ≤ corr x 0 (k + m) - corr x 0 k + corr x 0 m := by
  induction m with
  | zero => simp [corr]
  | succ m ih =>
    have := sq_le (x.getD (k + m) 0) (x.getD m 0)
    have e : k + (m + 1) = (k + m) + 1 := by omega
    rw [e]
    simp only [corr, Nat.zero_add]
    omega
theorem corr_mono (x : List Int) (m d : Nat) : corr x 0 m ≤ corr x 0 (m + d) := by
  induction d with
  | zero => exact Int.le_refl _
  | succ d ih =>
    have e : m + (d + 1) = (m + d) + 1 := by omega
    rw [e]
    simp only [corr, Nat.zero_add]
    have := sq_nn (x.getD (m + d) 0)
    omega
theorem autoZ_le (x : List Int) (k : Nat) : -autoZ x 0 ≤ autoZ x k ∧ autoZ x k ≤ autoZ x 0 := by
  unfold autoZ
  by_cases hk : k ≤ x.length
  · have h1 := corr_pair x k (x.length - k)
    have h2 := corr_mono x (x.length - k) k
    have h3 := corr_mono x 0 k
    have e1 : k + (x.length - k) = x.length := by omega
    have e2 : x.length - k + k = x.length := by omega
    rw [e1] at h1
    rw [e2] at h2
    rw [Nat.zero_add] at h3
    have e3 : corr x 0 0 = 0 := rfl
    rw [Nat.sub_zero]
    omega
  · have e : x.length - k = 0 := by omega
    have h3 := corr_mono x 0 x.length
    rw [Nat.zero_add] at h3
    have e3 : corr x 0 0 = 0 := rfl
    rw [e, Nat.sub_zero]
    simp only [corr] at *
    omega
theorem autoZ_small {x : List Int} (h : allS x) (hl : x.length ≤ 64) (k : Nat) : -4503599627370496 ≤ autoZ x k ∧ autoZ x k ≤ 4503599627370496 := by
  have := corr_small h k (x.length - k)
  unfold autoZ
  omega
theorem autoZ_zero (x : List Int) : 0 ≤ autoZ x 0 := by have := autoZ_le x 0; omega

/-- Numbers that are small enough for Scaled. -/
def isB (x : Int) : Prop := -1152921504606846976 ≤ x ∧ x ≤ 1152921504606846976
instance (x : Int) : Decidable (isB x) := by unfold isB; infer_instance
def allB (l : List Int) : Prop := ∀ x ∈ l, isB x
instance (l : List Int) : Decidable (allB l) := by unfold allB; infer_instance
theorem allB.snoc {l : List Int} (h : allB l) {x : Int} (hx : isB x) : allB (l ++ [x]) := by
  intro y hy
  rcases List.mem_append.1 hy with h1 | h1
  · exact h y h1
  · simp at h1; subst h1; exact hx
theorem allB.at {l : List Int} (h : allB l) {k : Nat} (hk : k < l.length) : isB (l.getD k 0) := by
  have e : l[k]? = some l[k] := by simp [hk]
  rw [getD_of e]
  exact h _ (List.getElem_mem hk)
/-- The least power of two that brings a number below 2^30. -/
def IsShift (n : Int) (s : Nat) : Prop := n / 2 ^ s < 1073741824 ∧ ∀ t, t < s → 1073741824 ≤ n / 2 ^ t
theorem least (p : Nat → Prop) [DecidablePred p] (n : Nat) : (∃ s, s ≤ n ∧ p s) → ∃ s, s ≤ n ∧ p s ∧ ∀ t, t < s → ¬ p t := by
  induction n with
  | zero =>
    rintro ⟨s, h1, h2⟩
    have : s = 0 := by omega
    subst this
    exact ⟨0, Nat.le_refl _, h2, fun t ht => by omega⟩
  | succ n ih =>
    rintro ⟨s, h1, h2⟩
    by_cases h : ∃ s, s ≤ n ∧ p s
    · obtain ⟨s, h3, h4, h5⟩ := ih h
      exact ⟨s, by omega, h4, h5⟩
    · exact ⟨s, h1, h2, fun t ht hp => h ⟨t, by omega, hp⟩⟩
theorem shift_exists {n : Int} (h0 : 0 ≤ n) (h : n ≤ 1152921504606846976) : ∃ s, s ≤ 31 ∧ IsShift n s := by
  obtain ⟨s, h1, h2, h3⟩ := least (fun s => n / 2 ^ s < 1073741824) 31 ⟨31, Nat.le_refl _, by
    show n / 2 ^ 31 < 1073741824
    omega⟩
  exact ⟨s, h1, h2, fun t ht => by have := h3 t ht; omega⟩
theorem shift_le {n : Int} {s : Nat} (h : n ≤ 1152921504606846976) (hs : IsShift n s) : s ≤ 31 := by
  by_cases hk : s ≤ 31
  · exact hk
  · have := hs.2 31 (by omega)
    omega
theorem shift_one {n : Int} {s t : Nat} (hs : IsShift n s) (ht : IsShift n t) : s = t := by
  rcases Nat.lt_trichotomy s t with h | h | h
  · have h1 := ht.2 s h
    have h2 := hs.1
    omega
  · exact h
  · have h1 := hs.2 t h
    have h2 := ht.1
    omega
theorem shift_zero {n : Int} {s : Nat} (hs : IsShift n s) (h : n < 1073741824) : s = 0 := shift_one hs ⟨by simpa using h, fun t ht => by omega⟩
def scaleL (r : List Int) (s : Nat) : List Int := r.map fun v => v / 2 ^ s
@[simp] theorem length_scaleL (r : List Int) (s : Nat) : (scaleL r s).length = r.length := by simp [scaleL]
theorem scaleL_get {r : List Int} {s k : Nat} {x : Int} (h : r[k]? = some x) : (scaleL r s)[k]? = some (x / 2 ^ s) := by
  unfold scaleL
  rw [List.getElem?_map, h]
  rfl
/-- May there be an answer of Scaled? -/
def isR (r : List Int) : Prop := 0 < r.length ∧ 0 ≤ r.getD 0 0 ∧ allB r
instance (l : List Int) : Decidable (isR l) := by unfold isR; infer_instance
def scOut (r : List Int) (s : Nat) : List Int × Int := if isR r then (scaleL r s, (s : Int)) else ([], 0)
theorem div_pow_small {n m : Int} {s : Nat} (h0 : -n ≤ m) (h1 : m ≤ n) (hs : n / 2 ^ s < 1073741824) : -1073741824 ≤ m / 2 ^ s ∧ m / 2 ^ s < 1073741824 := by
  have hp : (0 : Int) < 2 ^ s := Int.pow_pos (by decide)
  have h2 : n < 1073741824 * 2 ^ s := (Int.ediv_lt_iff_lt_mul hp).1 hs
  constructor
  · rw [Int.le_ediv_iff_mul_le hp]
    omega
  · rw [Int.ediv_lt_iff_lt_mul hp]
    omega
theorem div_pow_any {m : Int} {s : Nat} (h : isB m) : isB (m / 2 ^ s) := by
  have hp : (1 : Int) ≤ 2 ^ s := Int.pow_pos (by decide)
  obtain ⟨h1, h2⟩ := h
  unfold isB
  constructor
  · rw [Int.le_ediv_iff_mul_le (by omega)]
    have := Int.mul_le_mul_of_nonneg_left hp (show (0 : Int) ≤ 1152921504606846976 by decide)
    omega
  · rw [← Int.lt_add_one_iff, Int.ediv_lt_iff_lt_mul (by omega)]
    have := Int.mul_le_mul_of_nonneg_left hp (show (0 : Int) ≤ 1152921504606846977 by decide)
    omega

/-- What a step divides: the first terms of it. -/
def numTo (r a : List Int) : Nat → Int
  | 0 => r.getD (a.length + 1) 0 * 4096
  | j + 1 => numTo r a j - a.getD j 0 * r.getD (a.length - j) 0
def kOf (r a : List Int) (e : Int) : Int := min (max (numTo r a a.length / e) (-4095)) 4095
theorem kOf_small (r a : List Int) (e : Int) : -4095 ≤ kOf r a e ∧ kOf r a e ≤ 4095 := by unfold kOf; omega
/-- The coefficients behind a step. -/
def turnL (a : List Int) (k : Int) : List Int := (List.range a.length).map fun j => a.getD j 0 - k * a.getD (a.length - 1 - j) 0 / 4096
@[simp] theorem length_turnL (a : List Int) (k : Int) : (turnL a k).length = a.length := by simp [turnL]
theorem turnL_get (a : List Int) (k : Int) {j : Nat} (h : j < a.length) : (turnL a k)[j]? = some (a.getD j 0 - k * a.getD (a.length - 1 - j) 0 / 4096) := by
  unfold turnL
  rw [List.getElem?_map, List.getElem?_range h]
  rfl
def eNext (k e : Int) : Int := e - k * k / 4096 * e / 4096
def lev (r : List Int) : Nat → List Int × Int
  | 0 => ([], r.getD 0 0)
  | i + 1 => (turnL (lev r i).1 (kOf r (lev r i).1 (lev r i).2) ++ [kOf r (lev r i).1 (lev r i).2], eNext (kOf r (lev r i).1 (lev r i).2) (lev r i).2)
@[simp] theorem length_lev (r : List Int) (i : Nat) : (lev r i).1.length = i := by
  induction i with
  | zero => rfl
  | succ i ih => simp [lev, ih]
theorem kk_small {k : Int} (h1 : -4095 ≤ k) (h2 : k ≤ 4095) : 0 ≤ k * k ∧ k * k ≤ 16769025 := by
  have a1 : 0 ≤ (k + 4095) * (4095 - k) := Int.mul_nonneg (by omega) (by omega)
  have a2 := sq_nn k
  constructor <;> grind
theorem qe_small {q e : Int} (h1 : 0 ≤ q) (h2 : q ≤ 4094) (he : 1 ≤ e) : 0 ≤ q * e ∧ q * e ≤ 4094 * e := by
  exact ⟨Int.mul_nonneg h1 (by omega), Int.mul_le_mul_of_nonneg_right h2 (by omega)⟩
theorem eNext_small {k e : Int} (h1 : -4095 ≤ k) (h2 : k ≤ 4095) (he : 1 ≤ e) : 1 ≤ eNext k e ∧ eNext k e ≤ e := by
  have hk := kk_small h1 h2
  have hq := qe_small (q := k * k / 4096) (e := e) (by omega) (by omega) he
  unfold eNext
  omega
theorem ka_small {k a M : Int} (h1 : -4095 ≤ k) (h2 : k ≤ 4095) (h3 : -M ≤ a) (h4 : a ≤ M) : -(4095 * M) ≤ k * a ∧ k * a ≤ 4095 * M := by
  have a1 : 0 ≤ (k + 4095) * (a + M) := Int.mul_nonneg (by omega) (by omega)
  have a2 : 0 ≤ (k + 4095) * (M - a) := Int.mul_nonneg (by omega) (by omega)
  have a3 : 0 ≤ (4095 - k) * (a + M) := Int.mul_nonneg (by omega) (by omega)
  have a4 : 0 ≤ (4095 - k) * (M - a) := Int.mul_nonneg (by omega) (by omega)
  constructor <;> grind
theorem lev_e {r : List Int} (h : 1 ≤ r.getD 0 0) (i : Nat) : 1 ≤ (lev r i).2 ∧ (lev r i).2 ≤ r.getD 0 0 := by
  induction i with
  | zero => exact ⟨h, Int.le_refl _⟩
  | succ i ih =>
    have hk := kOf_small r (lev r i).1 (lev r i).2
    have := eNext_small hk.1 hk.2 ih.1
    simp only [lev]
    omega
/-- How great coefficients can be on the way. -/
def within (a : List Int) (M : Int) : Prop := ∀ x ∈ a, -M ≤ x ∧ x ≤ M
theorem within.atD {a : List Int} {M : Int} (h : within a M) (h0 : 0 ≤ M) (k : Nat) : -M ≤ a.getD k 0 ∧ a.getD k 0 ≤ M := by
  by_cases hk : k < a.length
  · have e : a[k]? = some a[k] := by simp [hk]
    rw [getD_of e]
    exact h _ (List.getElem_mem hk)
  · rw [List.getD, List.getElem?_eq_none (by omega)]
    simp; omega
theorem turnL_within {a : List Int} {k M : Int} (h : within a M) (h0 : 4096 ≤ M) (h1 : -4095 ≤ k) (h2 : k ≤ 4095) : within (turnL a k ++ [k]) (2 * M) := by
  intro x hx
  rcases List.mem_append.1 hx with h3 | h3
  · unfold turnL at h3
    obtain ⟨j, hj, rfl⟩ := List.mem_map.1 h3
    have g1 := h.atD (by omega) j
    have g2 := h.atD (by omega) (a.length - 1 - j)
    have g3 := ka_small h1 h2 g2.1 g2.2
    omega
  · simp at h3
    subst h3
    omega
theorem lev_within (r : List Int) (i : Nat) : within (lev r i).1 (4096 * 2 ^ i) := by
  induction i with
  | zero => intro x hx; simp [lev] at hx
  | succ i ih =>
    have hk := kOf_small r (lev r i).1 (lev r i).2
    have hp : (1 : Int) ≤ 2 ^ i := Int.pow_pos (by decide)
    have := turnL_within ih (by omega) hk.1 hk.2
    simp only [lev]
    rw [show (4096 : Int) * 2 ^ (i + 1) = 2 * (4096 * 2 ^ i) by rw [Int.pow_succ]; omega]
    exact this
theorem lev_bound (r : List Int) {i : Nat} (h : i ≤ 12) : within (lev r i).1 16777216 := by
  intro x hx
  have h1 := lev_within r i x hx
  have h2 : (2 : Nat) ^ i ≤ 2 ^ 12 := Nat.pow_le_pow_right (by decide) h
  have h3 : (2 : Int) ^ i = ((2 ^ i : Nat) : Int) := by simp
  rw [h3] at h1
  omega
/-- Numbers that were scaled. -/
def allR (r : List Int) : Prop := ∀ x ∈ r, -1073741824 ≤ x ∧ x < 1073741824
theorem allR.atD {a : List Int} (h : allR a) (k : Nat) : -1073741824 ≤ a.getD k 0 ∧ a.getD k 0 < 1073741824 := by
  by_cases hk : k < a.length
  · have e : a[k]? = some a[k] := by simp [hk]
    rw [getD_of e]
    exact h _ (List.getElem_mem hk)
  · rw [List.getD, List.getElem?_eq_none (by omega)]
    simp
theorem ar_small {a b : Int} (h1 : -16777216 ≤ a) (h2 : a ≤ 16777216) (h3 : -1073741824 ≤ b) (h4 : b < 1073741824) : -18014398509481984 ≤ a * b ∧ a * b ≤ 18014398509481984 := by
  have a1 : 0 ≤ (a + 16777216) * (b + 1073741824) := Int.mul_nonneg (by omega) (by omega)
  have a2 : 0 ≤ (a + 16777216) * (1073741824 - b) := Int.mul_nonneg (by omega) (by omega)
  have a3 : 0 ≤ (16777216 - a) * (b + 1073741824) := Int.mul_nonneg (by omega) (by omega)
  have a4 : 0 ≤ (16777216 - a) * (1073741824 - b) := Int.mul_nonneg (by omega) (by omega)
  constructor <;> grind
theorem numTo_small {r a : List Int} (hr : allR r) (ha : within a 16777216) (j : Nat) : -4398046511104 - 18014398509481984 * (j : Int) ≤ numTo r a j ∧ numTo r a j ≤ 4398046511104 + 18014398509481984 * (j : Int) := by
  induction j with
  | zero =>
    have := hr.atD (a.length + 1)
    simp only [numTo]
    omega
  | succ j ih =>
    have h1 := ha.atD (by decide) j
    have h2 := hr.atD (a.length - j)
    have := ar_small h1.1 h1.2 h2.1 h2.2
    simp only [numTo]
    omega
theorem scale_R {x : List Int} {n s : Nat} (hs : IsShift (autoZ x 0) s) : allR (scaleL (autoL x n) s) := by
  intro y hy
  unfold scaleL autoL at hy
  obtain ⟨v, hv, rfl⟩ := List.mem_map.1 hy
  obtain ⟨k, -, rfl⟩ := List.mem_map.1 hv
  have := autoZ_le x k
  exact div_pow_small this.1 this.2 hs.1
theorem auto_R {x : List Int} (h : allS x) (hl : x.length ≤ 64) (n : Nat) (hn : 0 < n) : isR (autoL x n) := by
  refine ⟨by simpa using hn, ?_, ?_⟩
  · rw [autoL_getD x hn]; exact autoZ_zero x
  · intro y hy
    unfold autoL at hy
    obtain ⟨k, -, rfl⟩ := List.mem_map.1 hy
    have := autoZ_small h hl k
    unfold isB
    omega
/-- What Coefficients answers; s is the power of two of Scaled. -/
def coOut (x : List Int) (o : Int) (s : Nat) : List Int × Bool :=
  if o < 1 ∨ 12 < o ∨ (x.length : Int) ≤ o ∨ ¬ allS x ∨ 64 < x.length ∨ autoZ x 0 / 2 ^ s < 1 then ([], false)
  else if allC (lev (scaleL (autoL x (o.toNat + 1)) s) o.toNat).1 then ((lev (scaleL (autoL x (o.toNat + 1)) s) o.toNat).1, true) else ([], false)

end Go.Proofs.YtlonnoapbfjomabGreat
