/- The texts LevMath, IntsC, Lev1, Lev2, Lev3, one behind the other. -/
import Derived.Test.YthkfaackkcdcoaaPart04
import Derived.Test.YthkfaackkcdcoaaPart02

/- Sums of products, numbers made small, Levinson's steps in whole numbers; no program. -/
namespace Go.Proofs.Ythkfaackkcdcoaa
set_option linter.unusedVariables false
set_option linter.unusedSimpArgs false
open Go.RowKit Dg

/-- The first products of samples that lie k apart. -/
def corr (x : List Int) (k : Nat) : Nat → Int
  | 0 => 0
  | m + 1 => corr x k m + x.getD (k + m) 0 * x.getD m 0
def autoZ (x : List Int) (k : Nat) : Int := corr x k (x.length - k)
def autoL (x : List Int) (n : Nat) : List Int := (List.range n).map (autoZ x)
@[simp] theorem length_autoL (x : List Int) (n : Nat) : (autoL x n).length = n := by simp [autoL]
theorem autoL_get (x : List Int) {n k : Nat} (h : k < n) : (autoL x n)[k]? = some (autoZ x k) := by
  unfold autoL
  rw [List.getElem?_map, List.getElem?_range h]
  rfl
theorem autoL_getD (x : List Int) {n k : Nat} (h : k < n) : (autoL x n).getD k 0 = autoZ x k := getD_of (autoL_get x h)
theorem autoL_next (x : List Int) (n : Nat) : autoL x (n + 1) = autoL x n ++ [autoZ x n] := by
  unfold autoL
  rw [List.range_succ, List.map_append]
  rfl
/-- What Auto answers: the sums, and how it ends. -/
def autoOut (x : List Int) (lags : Int) : List Int × Int :=
  if lags < 0 ∨ 12 < lags then ([], 1) else if allS x then (if 64 < x.length then ([], 4) else (autoL x (lags.toNat + 1), 0)) else ([], 8)
theorem allS.atD {l : List Int} (h : allS l) (k : Nat) : isS (l.getD k 0) := by
  by_cases hk : k < l.length
  · exact h.at hk
  · rw [List.getD, List.getElem?_eq_none (by omega)]
    exact ⟨by decide, by decide⟩
theorem mul_s {a b : Int} (ha : isS a) (hb : isS b) : -70368744177664 ≤ a * b ∧ a * b ≤ 70368744177664 := by
  obtain ⟨h1, h2⟩ := ha
  obtain ⟨h3, h4⟩ := hb
  have a1 : 0 ≤ (a + 8388608) * (b + 8388608) := Int.mul_nonneg (by omega) (by omega)
  have a2 : 0 ≤ (a + 8388608) * (8388608 - b) := Int.mul_nonneg (by omega) (by omega)
  have a3 : 0 ≤ (8388608 - a) * (b + 8388608) := Int.mul_nonneg (by omega) (by omega)
  have a4 : 0 ≤ (8388608 - a) * (8388608 - b) := Int.mul_nonneg (by omega) (by omega)
  constructor <;> grind
theorem corr_small {x : List Int} (h : allS x) (k m : Nat) : -70368744177664 * (m : Int) ≤ corr x k m ∧ corr x k m ≤ 70368744177664 * (m : Int) := by
  induction m with
  | zero => simp [corr]
  | succ m ih =>
    have := mul_s (h.atD (k + m)) (h.atD m)
    simp only [corr]
    omega
theorem sq_nn (a : Int) : 0 ≤ a * a := by
  rcases Int.le_total 0 a with h | h
  · exact Int.mul_nonneg h h
  · exact Int.mul_nonneg_of_nonpos_of_nonpos h h
theorem sq_le (a b : Int) : 2 * (a * b) ≤ a * a + b * b ∧ -(2 * (a * b)) ≤ a * a + b * b := by
  have h1 := sq_nn (a - b)
  have h2 := sq_nn (a + b)
  constructor <;> grind
theorem corr_pair (x : List Int) (k m : Nat) : 2 * corr x k m ≤ corr x 0 (k + m) - corr x 0 k + corr x 0 m ∧ -(2 * corr x k m) ≤ corr x 0 (k + m) - corr x 0 k + corr x 0 m := by
  induction m with
  | zero => simp [corr]
  | succ m ih =>
    have := sq_le (x.getD (k + m) 0) (x.getD m 0)
    have e : k + (m + 1) = (k + m) + 1 := by omega
    rw [e]
    simp only [corr, Nat.zero_add]
    omega
theorem corr_mono (x : List Int) (m d : Nat) : corr x 0 m ≤ corr x 0 (m + d) := by
  induction d with
  | zero => exact Int.le_refl _
  | succ d ih =>
    have e : m + (d + 1) = (m + d) + 1 := by omega
    rw [e]
    simp only [corr, Nat.zero_add]
    have := sq_nn (x.getD (m + d) 0)
    omega
theorem autoZ_le (x : List Int) (k : Nat) : -autoZ x 0 ≤ autoZ x k ∧ autoZ x k ≤ autoZ x 0 := by
  unfold autoZ
  by_cases hk : k ≤ x.length
  · have h1 := corr_pair x k (x.length - k)
    have h2 := corr_mono x (x.length - k) k
    have h3 := corr_mono x 0 k
    have e1 : k + (x.length - k) = x.length := by omega
    have e2 : x.length - k + k = x.length := by omega
    rw [e1] at h1
    rw [e2] at h2
    rw [Nat.zero_add] at h3
    have e3 : corr x 0 0 = 0 := rfl
    rw [Nat.sub_zero]
    omega
  · have e : x.length - k = 0 := by omega
    have h3 := corr_mono x 0 x.length
    rw [Nat.zero_add] at h3
    have e3 : corr x 0 0 = 0 := rfl
    rw [e, Nat.sub_zero]
    simp only [corr] at *
    omega
theorem autoZ_small {x : List Int} (h : allS x) (hl : x.length ≤ 64) (k : Nat) : -4503599627370496 ≤ autoZ x k ∧ autoZ x k ≤ 4503599627370496 := by
  have := corr_small h k (x.length - k)
  unfold autoZ
  omega
theorem autoZ_zero (x : List Int) : 0 ≤ autoZ x 0 := by have := autoZ_le x 0; omega

/-- Numbers that are small enough for Scaled. -/
def isB (x : Int) : Prop := -1152921504606846976 ≤ x ∧ x ≤ 1152921504606846976
instance (x : Int) : Decidable (isB x) := by unfold isB; infer_instance
def allB (l : List Int) : Prop := ∀ x ∈ l, isB x
instance (l : List Int) : Decidable (allB l) := by unfold allB; infer_instance
theorem allB.snoc {l : List Int} (h : allB l) {x : Int} (hx : isB x) : allB (l ++ [x]) := by
  intro y hy
  rcases List.mem_append.1 hy with h1 | h1
  · exact h y h1
  · simp at h1; subst h1; exact hx
theorem allB.at {l : List Int} (h : allB l) {k : Nat} (hk : k < l.length) : isB (l.getD k 0) := by
  have e : l[k]? = some l[k] := by simp [hk]
  rw [getD_of e]
  exact h _ (List.getElem_mem hk)
/-- The least power of two that brings a number below 2^30. -/
def IsShift (n : Int) (s : Nat) : Prop := n / 2 ^ s < 1073741824 ∧ ∀ t, t < s → 1073741824 ≤ n / 2 ^ t
theorem least (p : Nat → Prop) [DecidablePred p] (n : Nat) : (∃ s, s ≤ n ∧ p s) → ∃ s, s ≤ n ∧ p s ∧ ∀ t, t < s → ¬ p t := by
  induction n with
  | zero =>
    rintro ⟨s, h1, h2⟩
    have : s = 0 := by omega
    subst this
    exact ⟨0, Nat.le_refl _, h2, fun t ht => by omega⟩
  | succ n ih =>
    rintro ⟨s, h1, h2⟩
    by_cases h : ∃ s, s ≤ n ∧ p s
    · obtain ⟨s, h3, h4, h5⟩ := ih h
      exact ⟨s, by omega, h4, h5⟩
    · exact ⟨s, h1, h2, fun t ht hp => h ⟨t, by omega, hp⟩⟩
theorem shift_exists {n : Int} (h0 : 0 ≤ n) (h : n ≤ 1152921504606846976) : ∃ s, s ≤ 31 ∧ IsShift n s := by
  obtain ⟨s, h1, h2, h3⟩ := least (fun s => n / 2 ^ s < 1073741824) 31 ⟨31, Nat.le_refl _, by
    show n / 2 ^ 31 < 1073741824
    omega⟩
  exact ⟨s, h1, h2, fun t ht => by have := h3 t ht; omega⟩
theorem shift_le {n : Int} {s : Nat} (h : n ≤ 1152921504606846976) (hs : IsShift n s) : s ≤ 31 := by
  by_cases hk : s ≤ 31
  · exact hk
  · have := hs.2 31 (by omega)
    omega
theorem shift_one {n : Int} {s t : Nat} (hs : IsShift n s) (ht : IsShift n t) : s = t := by
  rcases Nat.lt_trichotomy s t with h | h | h
  · have h1 := ht.2 s h
    have h2 := hs.1
    omega
  · exact h
  · have h1 := hs.2 t h
    have h2 := ht.1
    omega
theorem shift_zero {n : Int} {s : Nat} (hs : IsShift n s) (h : n < 1073741824) : s = 0 := shift_one hs ⟨by simpa using h, fun t ht => by omega⟩
def scaleL (r : List Int) (s : Nat) : List Int := r.map fun v => v / 2 ^ s
@[simp] theorem length_scaleL (r : List Int) (s : Nat) : (scaleL r s).length = r.length := by simp [scaleL]
theorem scaleL_get {r : List Int} {s k : Nat} {x : Int} (h : r[k]? = some x) : (scaleL r s)[k]? = some (x / 2 ^ s) := by
  unfold scaleL
  rw [List.getElem?_map, h]
  rfl
/-- May there be an answer of Scaled? -/
def isR (r : List Int) : Prop := 0 < r.length ∧ 0 ≤ r.getD 0 0 ∧ allB r
instance (l : List Int) : Decidable (isR l) := by unfold isR; infer_instance
def scOut (r : List Int) (s : Nat) : List Int × Int := if isR r then (scaleL r s, (s : Int)) else ([], 0)
theorem div_pow_small {n m : Int} {s : Nat} (h0 : -n ≤ m) (h1 : m ≤ n) (hs : n / 2 ^ s < 1073741824) : -1073741824 ≤ m / 2 ^ s ∧ m / 2 ^ s < 1073741824 := by
  have hp : (0 : Int) < 2 ^ s := Int.pow_pos (by decide)
  have h2 : n < 1073741824 * 2 ^ s := (Int.ediv_lt_iff_lt_mul hp).1 hs
  constructor
  · rw [Int.le_ediv_iff_mul_le hp]
    omega
  · rw [Int.ediv_lt_iff_lt_mul hp]
    omega
theorem div_pow_any {m : Int} {s : Nat} (h : isB m) : isB (m / 2 ^ s) := by
  have hp : (1 : Int) ≤ 2 ^ s := Int.pow_pos (by decide)
  obtain ⟨h1, h2⟩ := h
  unfold isB
  constructor
  · rw [Int.le_ediv_iff_mul_le (by omega)]
    have := Int.mul_le_mul_of_nonneg_left hp (show (0 : Int) ≤ 1152921504606846976 by decide)
    omega
  · rw [← Int.lt_add_one_iff, Int.ediv_lt_iff_lt_mul (by omega)]
    have := Int.mul_le_mul_of_nonneg_left hp (show (0 : Int) ≤ 1152921504606846977 by decide)
    omega

/-- What a step divides: the first terms of it. -/
def numTo (r a : List Int) : Nat → Int
  | 0 => r.getD (a.length + 1) 0 * 4096
  | j + 1 => numTo r a j - a.getD j 0 * r.getD (a.length - j) 0
def kOf (r a : List Int) (e : Int) : Int := min (max (numTo r a a.length / e) (-4095)) 4095
theorem kOf_small (r a : List Int) (e : Int) : -4095 ≤ kOf r a e ∧ kOf r a e ≤ 4095 := by unfold kOf; omega
/-- The coefficients behind a step. -/
def turnL (a : List Int) (k : Int) : List Int := (List.range a.length).map fun j => a.getD j 0 - k * a.getD (a.length - 1 - j) 0 / 4096
@[simp] theorem length_turnL (a : List Int) (k : Int) : (turnL a k).length = a.length := by simp [turnL]
theorem turnL_get (a : List Int) (k : Int) {j : Nat} (h : j < a.length) : (turnL a k)[j]? = some (a.getD j 0 - k * a.getD (a.length - 1 - j) 0 / 4096) := by
  unfold turnL
  rw [List.getElem?_map, List.getElem?_range h]
  rfl
def eNext (k e : Int) : Int := e - k * k / 4096 * e / 4096
def lev (r : List Int) : Nat → List Int × Int
  | 0 => ([], r.getD 0 0)
  | i + 1 => (turnL (lev r i).1 (kOf r (lev r i).1 (lev r i).2) ++ [kOf r (lev r i).1 (lev r i).2], eNext (kOf r (lev r i).1 (lev r i).2) (lev r i).2)
@[simp] theorem length_lev (r : List Int) (i : Nat) : (lev r i).1.length = i := by
  induction i with
  | zero => rfl
  | succ i ih => simp [lev, ih]
theorem kk_small {k : Int} (h1 : -4095 ≤ k) (h2 : k ≤ 4095) : 0 ≤ k * k ∧ k * k ≤ 16769025 := by
  have a1 : 0 ≤ (k + 4095) * (4095 - k) := Int.mul_nonneg (by omega) (by omega)
  have a2 := sq_nn k
  constructor <;> grind
theorem qe_small {q e : Int} (h1 : 0 ≤ q) (h2 : q ≤ 4094) (he : 1 ≤ e) : 0 ≤ q * e ∧ q * e ≤ 4094 * e := by
  exact ⟨Int.mul_nonneg h1 (by omega), Int.mul_le_mul_of_nonneg_right h2 (by omega)⟩
theorem eNext_small {k e : Int} (h1 : -4095 ≤ k) (h2 : k ≤ 4095) (he : 1 ≤ e) : 1 ≤ eNext k e ∧ eNext k e ≤ e := by
  have hk := kk_small h1 h2
  have hq := qe_small (q := k * k / 4096) (e := e) (by omega) (by omega) he
  unfold eNext
  omega
theorem ka_small {k a M : Int} (h1 : -4095 ≤ k) (h2 : k ≤ 4095) (h3 : -M ≤ a) (h4 : a ≤ M) : -(4095 * M) ≤ k * a ∧ k * a ≤ 4095 * M := by
  have a1 : 0 ≤ (k + 4095) * (a + M) := Int.mul_nonneg (by omega) (by omega)
  have a2 : 0 ≤ (k + 4095) * (M - a) := Int.mul_nonneg (by omega) (by omega)
  have a3 : 0 ≤ (4095 - k) * (a + M) := Int.mul_nonneg (by omega) (by omega)
  have a4 : 0 ≤ (4095 - k) * (M - a) := Int.mul_nonneg (by omega) (by omega)
  constructor <;> grind
theorem lev_e {r : List Int} (h : 1 ≤ r.getD 0 0) (i : Nat) : 1 ≤ (lev r i).2 ∧ (lev r i).2 ≤ r.getD 0 0 := by
  induction i with
  | zero => exact ⟨h, Int.le_refl _⟩
  | succ i ih =>
    have hk := kOf_small r (lev r i).1 (lev r i).2
    have := eNext_small hk.1 hk.2 ih.1
    simp only [lev]
    omega
/-- How great coefficients can be on the way. -/
def within (a : List Int) (M : Int) : Prop := ∀ x ∈ a, -M ≤ x ∧ x ≤ M
theorem within.atD {a : List Int} {M : Int} (h : within a M) (h0 : 0 ≤ M) (k : Nat) : -M ≤ a.getD k 0 ∧ a.getD k 0 ≤ M := by
  by_cases hk : k < a.length
  · have e : a[k]? = some a[k] := by simp [hk]
    rw [getD_of e]
    exact h _ (List.getElem_mem hk)
  · rw [List.getD, List.getElem?_eq_none (by omega)]
    simp; omega
theorem turnL_within {a : List Int} {k M : Int} (h : within a M) (h0 : 4096 ≤ M) (h1 : -4095 ≤ k) (h2 : k ≤ 4095) : within (turnL a k ++ [k]) (2 * M) := by
  intro x hx
  rcases List.mem_append.1 hx with h3 | h3
  · unfold turnL at h3
    obtain ⟨j, hj, rfl⟩ := List.mem_map.1 h3
    have g1 := h.atD (by omega) j
    have g2 := h.atD (by omega) (a.length - 1 - j)
    have g3 := ka_small h1 h2 g2.1 g2.2
    omega
  · simp at h3
    subst h3
    omega
theorem lev_within (r : List Int) (i : Nat) : within (lev r i).1 (4096 * 2 ^ i) := by
  induction i with
  | zero => intro x hx; simp [lev] at hx
  | succ i ih =>
    have hk := kOf_small r (lev r i).1 (lev r i).2
    have hp : (1 : Int) ≤ 2 ^ i := Int.pow_pos (by decide)
    have := turnL_within ih (by omega) hk.1 hk.2
    simp only [lev]
    rw [show (4096 : Int) * 2 ^ (i + 1) = 2 * (4096 * 2 ^ i) by rw [Int.pow_succ]; omega]
    exact this
theorem lev_bound (r : List Int) {i : Nat} (h : i ≤ 12) : within (lev r i).1 16777216 := by
  intro x hx
  have h1 := lev_within r i x hx
  have h2 : (2 : Nat) ^ i ≤ 2 ^ 12 := Nat.pow_le_pow_right (by decide) h
  have h3 : (2 : Int) ^ i = ((2 ^ i : Nat) : Int) := by simp
  rw [h3] at h1
  omega
/-- Numbers that were scaled. -/
def allR (r : List Int) : Prop := ∀ x ∈ r, -1073741824 ≤ x ∧ x < 1073741824
theorem allR.atD {a : List Int} (h : allR a) (k : Nat) : -1073741824 ≤ a.getD k 0 ∧ a.getD k 0 < 1073741824 := by
  by_cases hk : k < a.length
  · have e : a[k]? = some a[k] := by simp [hk]
    rw [getD_of e]
    exact h _ (List.getElem_mem hk)
  · rw [List.getD, List.getElem?_eq_none (by omega)]
    simp
theorem ar_small {a b : Int} (h1 : -16777216 ≤ a) (h2 : a ≤ 16777216) (h3 : -1073741824 ≤ b) (h4 : b < 1073741824) : -18014398509481984 ≤ a * b ∧ a * b ≤ 18014398509481984 := by
  have a1 : 0 ≤ (a + 16777216) * (b + 1073741824) := Int.mul_nonneg (by omega) (by omega)
  have a2 : 0 ≤ (a + 16777216) * (1073741824 - b) := Int.mul_nonneg (by omega) (by omega)
  have a3 : 0 ≤ (16777216 - a) * (b + 1073741824) := Int.mul_nonneg (by omega) (by omega)
  have a4 : 0 ≤ (16777216 - a) * (1073741824 - b) := Int.mul_nonneg (by omega) (by omega)
  constructor <;> grind
theorem numTo_small {r a : List Int} (hr : allR r) (ha : within a 16777216) (j : Nat) : -4398046511104 - 18014398509481984 * (j : Int) ≤ numTo r a j ∧ numTo r a j ≤ 4398046511104 + 18014398509481984 * (j : Int) := by
  induction j with
  | zero =>
    have := hr.atD (a.length + 1)
    simp only [numTo]
    omega
  | succ j ih =>
    have h1 := ha.atD (by decide) j
    have h2 := hr.atD (a.length - j)
    have := ar_small h1.1 h1.2 h2.1 h2.2
    simp only [numTo]
    omega
theorem scale_R {x : List Int} {n s : Nat} (hs : IsShift (autoZ x 0) s) : allR (scaleL (autoL x n) s) := by
  intro y hy
  unfold scaleL autoL at hy
  obtain ⟨v, hv, rfl⟩ := List.mem_map.1 hy
  obtain ⟨k, -, rfl⟩ := List.mem_map.1 hv
  have := autoZ_le x k
  exact div_pow_small this.1 this.2 hs.1
theorem auto_R {x : List Int} (h : allS x) (hl : x.length ≤ 64) (n : Nat) (hn : 0 < n) : isR (autoL x n) := by
  refine ⟨by simpa using hn, ?_, ?_⟩
  · rw [autoL_getD x hn]; exact autoZ_zero x
  · intro y hy
    unfold autoL at hy
    obtain ⟨k, -, rfl⟩ := List.mem_map.1 hy
    have := autoZ_small h hl k
    unfold isB
    omega
/-- What Coefficients answers; s is the power of two of Scaled. -/
def coOut (x : List Int) (o : Int) (s : Nat) : List Int × Bool :=
  if o < 1 ∨ 12 < o ∨ (x.length : Int) ≤ o ∨ ¬ allS x ∨ 64 < x.length ∨ autoZ x 0 / 2 ^ s < 1 then ([], false)
  else if allC (lev (scaleL (autoL x (o.toNat + 1)) s) o.toNat).1 then ((lev (scaleL (autoL x (o.toNat + 1)) s) o.toNat).1, true) else ([], false)

end Go.Proofs.Ythkfaackkcdcoaa

/- Numbers a third time: x[k:]; rows of noughts that were made. -/
namespace Go.Proofs.Ythkfaackkcdcoaa
set_option linter.unusedVariables false
set_option linter.unusedSimpArgs false
open Go.RowKit Dg

/-- Where 'x[k:]' begins. -/
def lowI (a : Option Addr) (cap k : Nat) : Option Addr := if cap = k then a else a.map fun x => x.add k
theorem slice_ints_lo (a : Option Addr) (n cap k : Nat) (hk : k ≤ n) (W : World) : (Instr.sliceAt 22 (.slice a n cap) (some (.int .i64 (k : Int))) none none).run Try.prog W = .ok (.slice (lowI a cap k) (n - k) (cap - k)) W := by
  obtain ⟨i0, hi, hz0, hz1, hz2⟩ := info_parts Try.info3
  simp [Instr.sliceAt, Instr.slice, Instr.sliceBounds, Instr.sliceBound, asIntOf, run_underlying Try.underlying22, sizeOf, typeInfo, hi, hz1, hk, lowI]
theorem IntsAt.drop {w : World} {a : Option Addr} {cap : Nat} {l : List Int} (h : IntsAt w a l) (hc : l.length ≤ cap) (k : Nat) : IntsAt w (lowI a cap k) (l.drop k) := by
  intro j x hx
  rw [List.getElem?_drop] at hx
  have hj : k + j < l.length := (List.getElem?_eq_some_iff.1 hx).1
  obtain ⟨b, off, rfl, hcell⟩ := h (k + j) x hx
  refine ⟨b, off + k, ?_, ?_⟩
  · unfold lowI
    rw [if_neg (by omega)]
    simp [Addr.add]
  · rw [Nat.add_assoc]
    exact hcell
theorem madeI (n : Nat) : (madeCells (Value.int .i64 0).cells (n * 1)).toList = i64s (List.replicate n 0) := by
  apply List.ext_getElem?
  intro k
  by_cases hk : k < n
  · simp [madeCells, i64s, hk, Value.cells, Nat.mod_one]
  · rw [List.getElem?_eq_none (by simp [madeCells]; omega), List.getElem?_eq_none (by simp; omega)]
/-- A row of noughts that was just made. -/
theorem OwnInts.made {w : World} {base : Nat} {v : Value} {Z : List Int} (hZ : Z = List.replicate Z.length 0) (h : w.ownsRow base 3 1 v Z.length (madeCells (Value.int .i64 0).cells Z.length).toList) : OwnInts w base v Z := by
  show World.ownsRow _ _ _ _ _ _ _
  have e := madeI Z.length
  rw [← hZ, Nat.mul_one] at e
  rw [← e]; exact h

end Go.Proofs.Ythkfaackkcdcoaa

/- The small functions of levin: which numbers may be, quotients, a step. -/
namespace Go.Proofs.Ythkfaackkcdcoaa
set_option linter.unusedVariables false
set_option linter.unusedSimpArgs false
open Go.RowKit Dg

set_option maxHeartbeats 1000000 in
theorem vare_any (w : World) (a : Option Addr) (cap : Nat) (l : List Int) (h : IntsAt w a l) (hl : l.length ≤ 1000000) (t : Bool) (ht : t = decide (allS l)) :
    Calls Try.prog 100 #[.slice a l.length cap] w fun e w' => e = .returned (.bool t) ∧ w = w' := by
  have H : Hid (IntsAt w a l) := h
  have HT : Hid (t = decide (allS l)) := ht
  clear h ht
  go_enter Try.func100, Try.ntmps100
  go_wp2
  go_loopw [7] (fun i wr => ∃ k : Nat, k ≤ l.length ∧ i = .int .i64 k ∧ Hid (allS (l.take k)) ∧ w = wr) (fun i _ => l.length - (intOf i).toNat)
  case atStart => exact ⟨0, Nat.zero_le _, rfl, fun x hx => by simp at hx, rfl⟩
  case round =>
    obtain ⟨k, hk, rfl, hall, rfl⟩ := hrel
    by_cases hkn : k < l.length
    · obtain ⟨x, hx⟩ : ∃ x, l[k]? = some x := ⟨l[k], by simp [hkn]⟩
      obtain ⟨b, off, rfl, hc⟩ := H.out k x hx
      have HX : Hid (l[k]? = some x) := hx
      clear hx
      have hbad : ¬ isS x → t = false := fun hn => by
        rw [HT.out]
        exact decide_eq_false (fun ha => hn (ha x (List.mem_of_getElem? HX.out)))
      by_cases hlo : x < -8388608
      · have ht := hbad (by unfold isS; omega)
        subst ht
        clear hbad
        go_wp2_with fail
        go_ret
        exact ⟨rfl, rfl⟩
      · by_cases hhi : 8388607 < x
        · have ht := hbad (by unfold isS; omega)
          subst ht
          clear hbad
          go_wp2_with fail
          go_ret
          exact ⟨rfl, rfl⟩
        · clear hbad
          go_wp2_with fail
          refine ⟨⟨k + 1, by omega, by go_num, ?_, by trivial⟩, by (simp [intOf]) <;> omega⟩
          show allS _
          rw [take_next l k x HX.out]
          exact hall.out.snoc (by unfold isS; omega)
    · have e : k = l.length := by omega
      subst e
      have ht : t = true := by
        have := hall.out
        rw [List.take_length] at this
        rw [HT.out]; exact decide_eq_true this
      subst ht
      go_wp2_with fail
      go_ret
      exact ⟨rfl, rfl⟩

set_option maxHeartbeats 1000000 in
theorem vsmall_any (w : World) (a : Option Addr) (cap : Nat) (l : List Int) (h : IntsAt w a l) (hl : l.length ≤ 1000000) (t : Bool) (ht : t = decide (allB l)) :
    Calls Try.prog 101 #[.slice a l.length cap] w fun e w' => e = .returned (.bool t) ∧ w = w' := by
  have H : Hid (IntsAt w a l) := h
  have HT : Hid (t = decide (allB l)) := ht
  clear h ht
  go_enter Try.func101, Try.ntmps101
  go_wp2
  go_loopw [7] (fun i wr => ∃ k : Nat, k ≤ l.length ∧ i = .int .i64 k ∧ Hid (allB (l.take k)) ∧ w = wr) (fun i _ => l.length - (intOf i).toNat)
  case atStart => exact ⟨0, Nat.zero_le _, rfl, fun x hx => by simp at hx, rfl⟩
  case round =>
    obtain ⟨k, hk, rfl, hall, rfl⟩ := hrel
    by_cases hkn : k < l.length
    · obtain ⟨x, hx⟩ : ∃ x, l[k]? = some x := ⟨l[k], by simp [hkn]⟩
      obtain ⟨b, off, rfl, hc⟩ := H.out k x hx
      have HX : Hid (l[k]? = some x) := hx
      clear hx
      have hbad : ¬ isB x → t = false := fun hn => by
        rw [HT.out]
        exact decide_eq_false (fun ha => hn (ha x (List.mem_of_getElem? HX.out)))
      by_cases hlo : x < -1152921504606846976
      · have ht := hbad (by unfold isB; omega)
        subst ht
        clear hbad
        go_wp2_with fail
        go_ret
        exact ⟨rfl, rfl⟩
      · by_cases hhi : 1152921504606846976 < x
        · have ht := hbad (by unfold isB; omega)
          subst ht
          clear hbad
          go_wp2_with fail
          go_ret
          exact ⟨rfl, rfl⟩
        · clear hbad
          go_wp2_with fail
          refine ⟨⟨k + 1, by omega, by go_num, ?_, by trivial⟩, by (simp [intOf]) <;> omega⟩
          show allB _
          rw [take_next l k x HX.out]
          exact hall.out.snoc (by unfold isB; omega)
    · have e : k = l.length := by omega
      subst e
      have ht : t = true := by
        have := hall.out
        rw [List.take_length] at this
        rw [HT.out]; exact decide_eq_true this
      subst ht
      go_wp2_with fail
      go_ret
      exact ⟨rfl, rfl⟩

set_option maxHeartbeats 1000000 in
theorem vcoefs_any (w : World) (a : Option Addr) (cap : Nat) (l : List Int) (h : IntsAt w a l) (hl : l.length ≤ 1000000) (t : Bool) (ht : t = decide (allC l)) :
    Calls Try.prog 85 #[.slice a l.length cap] w fun e w' => e = .returned (.bool t) ∧ w = w' := by
  have H : Hid (IntsAt w a l) := h
  have HT : Hid (t = decide (allC l)) := ht
  clear h ht
  go_enter Try.func85, Try.ntmps85
  go_wp2
  go_loopw [7] (fun i wr => ∃ k : Nat, k ≤ l.length ∧ i = .int .i64 k ∧ Hid (allC (l.take k)) ∧ w = wr) (fun i _ => l.length - (intOf i).toNat)
  case atStart => exact ⟨0, Nat.zero_le _, rfl, fun x hx => by simp at hx, rfl⟩
  case round =>
    obtain ⟨k, hk, rfl, hall, rfl⟩ := hrel
    by_cases hkn : k < l.length
    · obtain ⟨x, hx⟩ : ∃ x, l[k]? = some x := ⟨l[k], by simp [hkn]⟩
      obtain ⟨b, off, rfl, hc⟩ := H.out k x hx
      have HX : Hid (l[k]? = some x) := hx
      clear hx
      have hbad : ¬ isC x → t = false := fun hn => by
        rw [HT.out]
        exact decide_eq_false (fun ha => hn (ha x (List.mem_of_getElem? HX.out)))
      by_cases hlo : x < -32768
      · have ht := hbad (by unfold isC; omega)
        subst ht
        clear hbad
        go_wp2_with fail
        go_ret
        exact ⟨rfl, rfl⟩
      · by_cases hhi : 32767 < x
        · have ht := hbad (by unfold isC; omega)
          subst ht
          clear hbad
          go_wp2_with fail
          go_ret
          exact ⟨rfl, rfl⟩
        · clear hbad
          go_wp2_with fail
          refine ⟨⟨k + 1, by omega, by go_num, ?_, by trivial⟩, by (simp [intOf]) <;> omega⟩
          show allC _
          rw [take_next l k x HX.out]
          exact hall.out.snoc (by unfold isC; omega)
    · have e : k = l.length := by omega
      subst e
      have ht : t = true := by
        have := hall.out
        rw [List.take_length] at this
        rw [HT.out]; exact decide_eq_true this
      subst ht
      go_wp2_with fail
      go_ret
      exact ⟨rfl, rfl⟩

theorem floor_low {n d : Int} (hd : 0 < d) (h : n.tmod d < 0) : n.tdiv d - 1 = n / d := by
  have h1 := Int.mul_tdiv_add_tmod n d
  have h2 := Int.tmod_lt_of_pos n hd
  have h3 : -d < n.tmod d := by
    have := Int.neg_tmod n d
    have h4 := Int.tmod_lt_of_pos (-n) hd
    omega
  have h5 : d * (n.tdiv d - 1) = d * n.tdiv d - d := by rw [Int.mul_sub, Int.mul_one]
  exact (((Int.ediv_emod_unique hd (r := n.tmod d + d) (q := n.tdiv d - 1)).2 ⟨by omega, by omega, by omega⟩).1).symm
theorem floor_up {n d : Int} (hd : 0 < d) (h : 0 ≤ n.tmod d) : n.tdiv d = n / d := by
  have h1 := Int.mul_tdiv_add_tmod n d
  have h2 := Int.tmod_lt_of_pos n hd
  exact (((Int.ediv_emod_unique hd (r := n.tmod d) (q := n.tdiv d)).2 ⟨by omega, by omega, by omega⟩).1).symm
theorem div_in {n d M : Int} (hd : 1 ≤ d) (h1 : -M ≤ n) (h2 : n ≤ M) : -M ≤ n / d ∧ n / d ≤ M := by
  constructor
  · rw [Int.le_ediv_iff_mul_le (by omega)]
    have := Int.mul_le_mul_of_nonneg_left hd (show (0 : Int) ≤ M by omega)
    have h3 : -M * d = -(M * d) := by rw [Int.neg_mul]
    omega
  · rw [← Int.lt_add_one_iff, Int.ediv_lt_iff_lt_mul (by omega)]
    have := Int.mul_le_mul_of_nonneg_left hd (show (0 : Int) ≤ M + 1 by omega)
    omega
set_option maxHeartbeats 1000000 in
theorem vfloor_any (w : World) (n d g : Int) (hn1 : -4611686018427387904 ≤ n) (hn2 : n ≤ 4611686018427387904) (hd : 1 ≤ d) (hd2 : d ≤ 4611686018427387904) (hg : n / d = g) :
    Calls Try.prog 102 #[.int .i64 n, .int .i64 d] w fun e w' => e = .returned (.int .i64 g) ∧ w = w' := by
  have HG := hid_of hg
  have hb := div_in hd hn1 hn2
  rw [hg] at hb
  clear hg
  have hd0 : d ≠ 0 := by omega
  have hdn : d ≠ -1 := by omega
  by_cases hm : n.tmod d < 0
  · have HT : Hid (n.tdiv d - 1 = g) := by show _ = _; rw [← HG.out]; exact floor_low (by omega) hm
    have hq : n.tdiv d = g + 1 := by have := HT.out; omega
    go_enter Try.func102, Try.ntmps102
    go_wp2_with fail
    go_ret
    exact ⟨rfl, rfl⟩
  · have HT : Hid (n.tdiv d = g) := by show _ = _; rw [← HG.out]; exact floor_up (by omega) (by omega)
    have hq : n.tdiv d = g := HT.out
    go_enter Try.func102, Try.ntmps102
    go_wp2_with fail
    go_ret
    exact ⟨rfl, rfl⟩
set_option maxHeartbeats 1000000 in
theorem rdown2_any (w : World) (n d g : Int) (hn1 : -4611686018427387904 ≤ n) (hn2 : n ≤ 4611686018427387904) (hd : 1 ≤ d) (hd2 : d ≤ 4611686018427387904) (hg : n / d = g) :
    Calls Try.prog 72 #[.int .i64 n, .int .i64 d] w fun e w' => e = .returned (.int .i64 g) ∧ w = w' := by
  have HG := hid_of hg
  have hb := div_in hd hn1 hn2
  rw [hg] at hb
  clear hg
  have hd0 : d ≠ 0 := by omega
  have hdn : d ≠ -1 := by omega
  by_cases h0 : 0 ≤ n
  · have hq : n.tdiv d = g := by rw [← HG.out]; exact floor_up (by omega) (Int.tmod_nonneg d h0)
    go_enter Try.func72, Try.ntmps72
    go_wp2_with fail
    all_goals
      go_ret
      exact ⟨rfl, rfl⟩
  · have hneg : n < 0 := by omega
    by_cases hm : n.tmod d = 0
    · have hq : n.tdiv d = g := by rw [← HG.out]; exact floor_up (by omega) (by omega)
      have hmb : (n.tmod d != 0) = false := by simpa using hm
      go_enter Try.func72, Try.ntmps72
      go_wp2_with fail
      go_ret
      exact ⟨rfl, rfl⟩
    · have hm2 : n.tmod d < 0 := by
        have := Int.tmod_nonneg d (show 0 ≤ -n by omega)
        rw [Int.neg_tmod] at this
        omega
      have hq : n.tdiv d = g + 1 := by have h1 := floor_low (n := n) (d := d) (by omega) hm2; rw [HG.out] at h1; omega
      have hmb : (n.tmod d != 0) = true := by simpa using hm
      go_enter Try.func72, Try.ntmps72
      go_wp2_with fail
      go_ret
      exact ⟨rfl, rfl⟩

end Go.Proofs.Ythkfaackkcdcoaa

/- A step of levin: turn, turned. -/
namespace Go.Proofs.Ythkfaackkcdcoaa
set_option linter.unusedVariables false
set_option linter.unusedSimpArgs false
open Go.RowKit Dg

theorem owni_cell {w : World} {base g n c : Nat} {l : List Int} {j : Nat} {x : Int} (h : OwnInts w base (.slice (some ⟨g, 0, none⟩) n c) l) (hx : l[j]? = some x) :
    w.cell? ⟨g, j, none⟩ = some (.int .i64 x) ∧ w.frozen? ⟨g, j, none⟩ = false := by
  have hj : j < l.length := (List.getElem?_eq_some_iff.1 hx).1
  rcases h.2 with ⟨e1, e2⟩ | ⟨g', cap', cur, hv, hgb, hh, hncap, _, hcs, htake⟩
  · cases e1
  · cases hv
    refine ⟨?_, by simp [World.frozen?, hh]⟩
    have e : (i64s l)[j]? = some (.int .i64 x) := by rw [i64s_get, hx]; rfl
    rw [← htake, List.getElem?_take, if_pos (by omega)] at e
    simp only [World.cell?, hh]
    simpa using e
theorem i64s_set (l : List Int) (k : Nat) (x : Int) : (i64s l).set k (.int .i64 x) = i64s (l.set k x) := by simp [i64s]
theorem OwnInts.len {w : World} {base g n c : Nat} {l : List Int} (h : OwnInts w base (.slice (some ⟨g, 0, none⟩) n c) l) : n = l.length := by
  rcases h.2 with ⟨e1, _⟩ | ⟨g', cap', cur, hv, _⟩
  · cases e1
  · cases hv; rfl
theorem OwnInts.set {w : World} {base g n c : Nat} {l : List Int} (h : OwnInts w base (.slice (some ⟨g, 0, none⟩) n c) l) (j : Nat) (y : Int) (hj : j < n) :
    OwnInts (w.setCell ⟨g, j, none⟩ (.int .i64 y)) base (.slice (some ⟨g, 0, none⟩) n c) (l.set j y) := by
  have e := h.len
  subst e
  show World.ownsRow _ _ _ _ _ _ _
  rw [← i64s_set, List.length_set]
  exact ownsRow_set h j hj _
/-- A row of noughts whose first numbers are laid. -/
def filled (T : List Int) (N k : Nat) : List Int := T.take k ++ List.replicate (N - k) 0
theorem length_filled {T : List Int} {N k : Nat} (hT : T.length = N) (hk : k ≤ N) : (filled T N k).length = N := by simp [filled]; omega
theorem filled_set {T : List Int} {N k : Nat} {y : Int} (hT : T.length = N) (hy : T[k]? = some y) : (filled T N k).set k y = filled T N (k + 1) := by
  have hk : k < T.length := (List.getElem?_eq_some_iff.1 hy).1
  unfold filled
  have e : N - k = (N - (k + 1)) + 1 := by omega
  have hl : (T.take k).length = k := by simp; omega
  rw [e, List.replicate_succ, List.set_append_right _ _ (by omega), hl, Nat.sub_self, List.set_cons_zero, take_next T k y hy]
  simp
theorem filled_same {T : List Int} {N k : Nat} (hT : T.length = N) (hk : k < N) : (filled T N k).set k 0 = filled T N k := by
  unfold filled
  have e : N - k = (N - (k + 1)) + 1 := by omega
  have hl : (T.take k).length = k := by simp; omega
  rw [e, List.replicate_succ, List.set_append_right _ _ (by omega), hl, Nat.sub_self, List.set_cons_zero]
theorem filled_get {T : List Int} {N k : Nat} (hT : T.length = N) (hk : k < N) : (filled T N k)[k]? = some 0 := by
  unfold filled
  have hl : (T.take k).length = k := by simp; omega
  rw [List.getElem?_append_right (by omega), hl, Nat.sub_self]
  have e : N - k = (N - (k + 1)) + 1 := by omega
  rw [e, List.replicate_succ]
  rfl
theorem filled_zero (T : List Int) (N : Nat) : filled T N 0 = List.replicate N 0 := by simp [filled]
theorem filled_end {T : List Int} {N : Nat} (hT : T.length = N) : filled T N N = T := by
  unfold filled
  rw [Nat.sub_self, List.take_of_length_le (by omega)]
  simp

set_option maxHeartbeats 2000000 in
theorem vturn_any (w : World) (a ra : Option Addr) (n m cap rc : Nat) (cs r : List Int) (e k : Int) (hn : cs.length = n) (hm : r.length = m) (h : IntsAt w a cs) (hr : IntsAt w ra r) (h12 : cs.length ≤ 12) (hlr : cs.length + 1 < r.length) (hlr2 : r.length ≤ 1000000)
    (hR : allR r) (hW : within cs 16777216) (he1 : 1 ≤ e) (he2 : e ≤ 1073741824) (hk : k = kOf r cs e) :
    Calls Try.prog 83 #[.slice a n cap, .slice ra m rc, .int .i64 e] w fun e w' => e = .returned (.int .i64 k) ∧ w = w' := by
  subst hn hm
  have H : Hid (IntsAt w a cs) := h
  have HR : Hid (IntsAt w ra r) := hr
  have HA : Hid (allR r) := hR
  have HW : Hid (within cs 16777216) := hW
  have HK := hid_of hk
  clear h hr hR hW hk
  obtain ⟨x0, hx0⟩ : ∃ x, r[cs.length + 1]? = some x := ⟨r[cs.length + 1], by simp [hlr]⟩
  obtain ⟨b0, o0, rfl, hc0⟩ := HR.out (cs.length + 1) x0 hx0
  have hxb := HA.out.atD (cs.length + 1)
  rw [getD_of hx0] at hxb
  obtain ⟨hxb1, hxb2⟩ := hxb
  have HX0 : Hid (x0 * 4096 = numTo r cs 0) := by show _ = _; simp only [numTo]; rw [getD_of hx0]
  clear hx0
  go_enter Try.func83, Try.ntmps83
  go_wp2_with fail
  go_loopw [8, 21] (fun s i wr => ∃ (k : Nat) (t : Int), k ≤ cs.length ∧ s = .int .i64 t ∧ i = .int .i64 k ∧ Hid (t = numTo r cs k) ∧ w = wr) (fun _ i _ => cs.length - (intOf i).toNat)
  case atStart => exact ⟨0, x0 * 4096, Nat.zero_le _, rfl, rfl, HX0.out, rfl⟩
  case round =>
    obtain ⟨j, t, hj, rfl, rfl, ht, rfl⟩ := hrel
    have htb := numTo_small HA.out HW.out j
    rw [← ht.out] at htb
    obtain ⟨ht1, ht2⟩ := htb
    have ht1' : -1152921504606846976 ≤ t := by omega
    have ht2' : t ≤ 1152921504606846976 := by omega
    clear ht1 ht2
    by_cases hjn : j < cs.length
    · obtain ⟨c, hcx⟩ : ∃ x, cs[j]? = some x := ⟨cs[j], by simp [hjn]⟩
      obtain ⟨b1, o1, rfl, hc1⟩ := H.out j c hcx
      obtain ⟨m, hm⟩ : ∃ m, m = cs.length - j := ⟨_, rfl⟩
      have hml : m < r.length := by omega
      obtain ⟨x, hx⟩ : ∃ x, r[m]? = some x := ⟨r[m], by simp [hml]⟩
      have hc2 : w.cell? ⟨b0, o0 + m, none⟩ = some (.int .i64 x) := by
        obtain ⟨b2, o2, e2, hc2⟩ := HR.out m x hx
        cases e2
        exact hc2
      have hmI : (cs.length : Int) - (j : Int) = (m : Int) := by omega
      obtain ⟨p, hp⟩ : ∃ p, p = c * x := ⟨_, rfl⟩
      have g1 := HW.out.atD (by decide) j
      have g2 := HA.out.atD m
      rw [getD_of hcx] at g1
      rw [getD_of hx] at g2
      have hp12 := ar_small g1.1 g1.2 g2.1 g2.2
      rw [← hp] at hp12
      obtain ⟨hp1, hp2⟩ := hp12
      have HP : Hid (c * x = p) := hp.symm
      have HN : Hid (t - p = numTo r cs (j + 1)) := by
        show _ = _
        simp only [numTo]
        rw [getD_of hcx, ← hm, getD_of hx, ← ht.out, hp]
      clear hm hcx hx hp g1 g2
      go_wp2_with fail
      rw [HP.out, Go.IntWalk.wrap64_in p (by omega), Go.IntWalk.wrap64_in (t - p) (by omega)]
      exact ⟨⟨j + 1, t - p, by omega, rfl, by go_num, HN, by trivial⟩, by (simp [intOf]) <;> omega⟩
    · have e0 : j = cs.length := by omega
      obtain ⟨q, hq⟩ : ∃ q, t / e = q := ⟨_, rfl⟩
      have HQ := hid_of hq
      have HKQ : Hid (k = min (max q (-4095)) 4095) := by show _ = _; rw [HK.out, ← hq, ht.out, e0]; rfl
      clear hq HK
      rcases (by omega : q < -4095 ∨ (-4095 ≤ q ∧ q ≤ 4095) ∨ 4095 < q) with h1 | ⟨h1, h2⟩ | h1
      · have e1 : k = -4095 := by have := HKQ.out; omega
        subst e1
        go_wp2_with (go_at_call 102; refine (vfloor_any _ _ _ q (by omega) (by omega) he1 (by omega) HQ.out).mono ?_; rintro e w1 ⟨rfl, rfl⟩)
        go_ret
        exact ⟨rfl, rfl⟩
      · have e1 : k = q := by have := HKQ.out; omega
        subst e1
        go_wp2_with (go_at_call 102; refine (vfloor_any _ _ _ k (by omega) (by omega) he1 (by omega) HQ.out).mono ?_; rintro e w1 ⟨rfl, rfl⟩)
        go_ret
        exact ⟨rfl, rfl⟩
      · have e1 : k = 4095 := by have := HKQ.out; omega
        subst e1
        go_wp2_with (go_at_call 102; refine (vfloor_any _ _ _ q (by omega) (by omega) he1 (by omega) HQ.out).mono ?_; rintro e w1 ⟨rfl, rfl⟩)
        go_ret
        exact ⟨rfl, rfl⟩

set_option maxHeartbeats 2000000 in
theorem vturned_any (w : World) (a : Option Addr) (n cap : Nat) (cs : List Int) (k : Int) (hn : cs.length = n) (h : IntsAt w a cs) (h12 : cs.length ≤ 12)
    (hW : within cs 16777216) (hk1 : -4095 ≤ k) (hk2 : k ≤ 4095) (T : List Int) (hT : T = turnL cs k ++ [k]) :
    Calls Try.prog 84 #[.slice a n cap, .int .i64 k] w fun e w' => ∃ v, e = .returned v ∧ OwnInts w' w.heap.size v T ∧ Below w.heap.size w w' := by
  obtain ⟨i0, hi, hz0, hz1, hz2⟩ := info_parts Try.info3
  subst hn
  have H : Hid (IntsAt w a cs) := h
  have HW : Hid (within cs 16777216) := hW
  have HT := hid_of hT
  obtain ⟨N, hN⟩ : ∃ N, N = cs.length + 1 := ⟨_, rfl⟩
  have HTL : Hid (T.length = N) := by show _ = _; rw [hT]; simp [hN]
  have hNI : (cs.length : Int) + 1 = (N : Int) := by omega
  have hcN : cs.length < N := by omega
  have hN13 : N ≤ 13 := by omega
  have HTG : Hid (∀ j, j < cs.length → T[j]? = some (cs.getD j 0 - k * cs.getD (cs.length - 1 - j) 0 / 4096)) := by
    intro j hj
    rw [hT, List.getElem?_append_left (by simpa using hj)]
    exact turnL_get cs k hj
  have HTE : Hid (T[cs.length]? = some k) := by
    show _ = _
    rw [hT, List.getElem?_append_right (by simp)]
    simp
  clear h hW hT
  have HNE : Hid (N = cs.length + 1) := hN
  clear hN
  go_enter Try.func84, Try.ntmps84
  go_wp2_with (at_make; go_must (refine wpList_make_full _ rfl _ _ 22 rfl w.heap.size 3 i0 (.int .i64 0) 1 Try.underlying22 hi hz0 hz1 _ _ _ _ N rfl rfl rfl rfl (by rw [hz2]; omega) (by unfold maxLen; omega) (Nat.le_refl _) ?_))
  intro w1 hown hgr
  have HB1 : Hid (Below w.heap.size w w1) := (Below.refl _ _).grown hgr (Nat.le_refl _) (fun k hk => by cases hk)
  have HO1 : Hid (OwnInts w1 w.heap.size (.slice (some ⟨w.heap.size, 0, none⟩) N N) (filled T N 0)) := by
    show World.ownsRow _ _ _ _ _ _ _
    rw [filled_zero]
    have e := madeI N
    rw [Nat.mul_one] at e
    rw [← e, List.length_replicate]; exact hown
  obtain ⟨g, hg⟩ : ∃ g, g = w.heap.size := ⟨_, rfl⟩
  have HG : Hid (w.heap.size ≤ g) := by rw [hg]; exact Nat.le_refl _
  rw [← hg] at HO1 ⊢
  have HGE : Hid (g = w.heap.size) := hg
  clear hown hgr hg
  go_wp2_with fail
  go_loopw [16] (fun i wr => ∃ j : Nat, j ≤ cs.length ∧ i = .int .i64 (j : Int) ∧ Hid (OwnInts wr g (.slice (some ⟨g, 0, none⟩) N N) (filled T N j)) ∧ Hid (Below w.heap.size w wr)) (fun i _ => cs.length - (intOf i).toNat)
  case atStart => exact ⟨0, Nat.zero_le _, rfl, HO1.out, HB1.out⟩
  case round =>
    obtain ⟨j, hj, rfl, ho, hb⟩ := hrel
    by_cases hjn : j < cs.length
    · obtain ⟨c, hcx⟩ : ∃ x, cs[j]? = some x := ⟨cs[j], by simp [hjn]⟩
      obtain ⟨b1, o1, rfl, hc1⟩ := H.out.mono hb.out j c hcx
      obtain ⟨m, hm⟩ : ∃ m, m = cs.length - 1 - j := ⟨_, rfl⟩
      have hml : m < cs.length := by omega
      obtain ⟨x, hx⟩ : ∃ x, cs[m]? = some x := ⟨cs[m], by simp [hml]⟩
      have hc2 : wr.cell? ⟨b1, o1 + m, none⟩ = some (.int .i64 x) := by
        obtain ⟨b2, o2, e2, hc2⟩ := H.out.mono hb.out m x hx
        cases e2
        exact hc2
      have hmI : (cs.length : Int) - 1 - (j : Int) = (m : Int) := by omega
      have hjN : j < N := by omega
      obtain ⟨hrc, hrf⟩ := owni_cell ho.out (filled_get HTL.out hjN)
      obtain ⟨p, hp⟩ : ∃ p, p = k * x := ⟨_, rfl⟩
      have g1 := HW.out.atD (by decide) j
      have g2 := HW.out.atD (by decide) m
      rw [getD_of hcx] at g1
      rw [getD_of hx] at g2
      have hp12 := ka_small hk1 hk2 g2.1 g2.2
      rw [← hp] at hp12
      obtain ⟨hp1, hp2⟩ := hp12
      obtain ⟨g11, g12⟩ := g1
      have HP : Hid (k * x = p) := hp.symm
      have hTj := HTG.out j hjn
      rw [getD_of hcx, ← hm, getD_of hx, ← hp] at hTj
      have HTJ := hid_of hTj
      clear hm hcx hx hp g2 hTj
      go_wp2_with fail
      rw [HP.out, Go.IntWalk.wrap64_in p (by omega), Go.IntWalk.wrap64_in (c - p / 4096) (by omega)]
      refine ⟨⟨j + 1, by omega, by go_num, ?_, hb.out.setCell (by show _ ≤ g; exact HG.out) _⟩, by (simp [intOf]) <;> omega⟩
      show OwnInts _ _ _ _
      rw [← filled_set HTL.out HTJ.out]
      exact ho.out.set j _ hjN
    · have e0 : j = cs.length := by omega
      subst e0
      obtain ⟨hrc, hrf⟩ := owni_cell ho.out (filled_get HTL.out hcN)
      go_wp2_with fail
      go_ret
      refine ⟨_, rfl, ?_, hb.out.setCell (by show _ ≤ g; exact HG.out) _⟩
      have h1 := ho.out.set cs.length k hcN
      rw [filled_set HTL.out HTE.out, ← HNE.out, filled_end HTL.out] at h1
      rw [← HGE.out]
      exact h1

end Go.Proofs.Ythkfaackkcdcoaa

/- Auto and Scaled of levin. -/
namespace Go.Proofs.Ythkfaackkcdcoaa
set_option linter.unusedVariables false
set_option linter.unusedSimpArgs false
open Go.RowKit Dg

theorem set_get {l : List Int} {k : Nat} {y : Int} (h : k < l.length) : (l.set k y)[k]? = some y := by simp [h]
theorem corr_next {x : List Int} {k m i : Nat} {a b : Int} (hi : i = k + m) (ha : x[i]? = some a) (hb : x[m]? = some b) : corr x k (m + 1) = corr x k m + a * b := by
  simp only [corr]
  rw [← hi, getD_of ha, getD_of hb]

set_option maxRecDepth 100000 in
set_option maxHeartbeats 4000000 in
theorem vauto_any (w : World) (a : Option Addr) (cap : Nat) (l : List Int) (o : Int) (h : IntsAt w a l) (hl : l.length ≤ 1000000) (R : List Int × Int) (hR : R = autoOut l o) :
    Calls Try.prog 81 #[.slice a l.length cap, .int .i64 o] w fun e w' => Gave w w' R e := by
  obtain ⟨i0, hi, hz0, hz1, hz2⟩ := info_parts Try.info3
  unfold autoOut at hR
  have H : Hid (IntsAt w a l) := h
  clear h
  by_cases h1 : o < 0 ∨ 12 < o
  · rw [if_pos h1] at hR
    have HR := hid_of hR
    clear hR
    rcases (by omega : o < 0 ∨ (0 ≤ o ∧ 12 < o)) with h2 | ⟨h2, h3⟩
    all_goals
      clear h1
      go_enter Try.func81, Try.ntmps81
      go_wp2_with fail
      go_ret2
      exact Gave.none HR.out (Below.refl _ _)
  rw [if_neg h1] at hR
  obtain ⟨h2, h3⟩ : 0 ≤ o ∧ o ≤ 12 := by omega
  clear h1
  by_cases hS : allS l
  case neg =>
    rw [if_neg hS] at hR
    have HT : Hid (false = decide (allS l)) := (decide_eq_false hS).symm
    have HR := hid_of hR
    clear hR hS
    go_enter Try.func81, Try.ntmps81
    go_wp2_with (go_at_call 100; refine (vare_any _ _ _ _ H.out hl false HT.out).mono ?_; rintro e w1 ⟨rfl, rfl⟩)
    go_ret2
    exact Gave.none HR.out (Below.refl _ _)
  rw [if_pos hS] at hR
  have HT : Hid (true = decide (allS l)) := (decide_eq_true hS).symm
  by_cases h64 : 64 < l.length
  · rw [if_pos h64] at hR
    have HR := hid_of hR
    clear hR hS
    go_enter Try.func81, Try.ntmps81
    go_wp2_with (go_at_call 100; refine (vare_any _ _ _ _ H.out hl true HT.out).mono ?_; rintro e w1 ⟨rfl, rfl⟩)
    go_ret2
    exact Gave.none HR.out (Below.refl _ _)
  rw [if_neg h64] at hR
  have HS : Hid (allS l) := hS
  obtain ⟨N, hN⟩ : ∃ N, N = o.toNat + 1 := ⟨_, rfl⟩
  obtain ⟨T, hTT⟩ : ∃ T, T = autoL l N := ⟨_, rfl⟩
  have HTL : Hid (T.length = N) := by show _ = _; rw [hTT]; simp
  have HTG : Hid (∀ k, k < N → T[k]? = some (autoZ l k)) := by intro k hk; rw [hTT]; exact autoL_get l hk
  rw [← hN, ← hTT] at hR
  have HR := hid_of hR
  have HON : Hid (o + 1 = (N : Int)) := by show _ = _; omega
  have hN13 : N ≤ 13 := by omega
  have hN1 : 1 ≤ N := by omega
  have h64' : l.length ≤ 64 := by omega
  clear hR hS hTT hN h64
  go_enter Try.func81, Try.ntmps81
  go_wp2_with first
    | (go_at_call 100; refine (vare_any _ _ _ _ H.out hl true HT.out).mono ?_; rintro e w1 ⟨rfl, rfl⟩)
    | (at_make; go_must (refine wpList_make_full _ rfl _ _ 22 rfl w.heap.size 3 i0 (.int .i64 0) 1 Try.underlying22 hi hz0 hz1 _ _ _ _ N rfl rfl HON.out HON.out (by rw [hz2]; omega) (by unfold maxLen; omega) (Nat.le_refl _) ?_))
  intro w1 hown hgr
  have HB1 : Hid (Below w.heap.size w w1) := (Below.refl _ _).grown hgr (Nat.le_refl _) (fun k hk => by cases hk)
  have HO1 : Hid (OwnInts w1 w.heap.size (.slice (some ⟨w.heap.size, 0, none⟩) N N) (filled T N 0)) := by
    show World.ownsRow _ _ _ _ _ _ _
    rw [filled_zero]
    have e := madeI N
    rw [Nat.mul_one] at e
    rw [← e, List.length_replicate]; exact hown
  obtain ⟨g, hg⟩ : ∃ g, g = w.heap.size := ⟨_, rfl⟩
  have HG : Hid (w.heap.size ≤ g) := by rw [hg]; exact Nat.le_refl _
  rw [← hg] at HO1 ⊢
  have HGE : Hid (g = w.heap.size) := hg
  clear hown hgr hg
  go_wp2_with fail
  go_loopw [26] (fun i wr => ∃ k : Nat, k ≤ N ∧ i = .int .i64 (k : Int) ∧ Hid (OwnInts wr g (.slice (some ⟨g, 0, none⟩) N N) (filled T N k)) ∧ Hid (Below w.heap.size w wr)) (fun i _ => N - (intOf i).toNat)
  case atStart => exact ⟨0, Nat.zero_le _, rfl, HO1.out, HB1.out⟩
  case round =>
    obtain ⟨k, hk, rfl, ho, hb⟩ := hrel
    by_cases hkN : k < N
    · obtain ⟨fl, hfl⟩ : ∃ fl, fl = filled T N k := ⟨_, rfl⟩
      have HFL := hid_of hfl
      have HFN : Hid (fl.length = N) := by show _ = _; rw [hfl]; exact length_filled HTL.out (by omega)
      have HO : Hid (OwnInts wr g (.slice (some ⟨g, 0, none⟩) N N) (fl.set k 0)) := by
        show OwnInts _ _ _ _
        rw [hfl, filled_same HTL.out hkN]
        exact ho.out
      clear hfl ho
      have HBO : Hid (Below w.heap.size w wr) := hb.out
      clear hb HO1 HB1
      go_wp2_with fail
      go_loopw [8] (fun i ws => ∃ m : Nat, i = .int .i64 ((k + m : Nat) : Int) ∧ (k + m ≤ l.length ∨ m = 0) ∧ Hid (OwnInts ws g (.slice (some ⟨g, 0, none⟩) N N) (fl.set k (corr l k m))) ∧ Hid (Below w.heap.size w ws)) (fun i _ => l.length - (intOf i).toNat)
      case atStart => exact ⟨0, rfl, .inr rfl, HO.out, HBO.out⟩
      case round =>
        obtain ⟨m, rfl, hm, ho, hb⟩ := hrel
        by_cases hml : k + m < l.length
        · obtain ⟨i, hik⟩ : ∃ i, i = k + m := ⟨_, rfl⟩
          obtain ⟨x, hx⟩ : ∃ x, l[i]? = some x := ⟨l[i]'(by omega), by simp⟩
          obtain ⟨y, hy⟩ : ∃ y, l[m]? = some y := ⟨l[m]'(by omega), by simp⟩
          obtain ⟨b1, o1, rfl, hc1⟩ := H.out.mono hb.out i x hx
          have hc2 : wr.cell? ⟨b1, o1 + m, none⟩ = some (.int .i64 y) := by
            obtain ⟨b2, o2, e2, hc2⟩ := H.out.mono hb.out m y hy
            cases e2
            exact hc2
          have hiI : (i : Int) - (k : Int) = (m : Int) := by omega
          have hil : i < l.length := by omega
          have hmL : m < l.length := by omega
          obtain ⟨t, ht⟩ : ∃ t, t = corr l k m := ⟨_, rfl⟩
          have htb := corr_small HS.out k m
          rw [← ht] at htb ho
          obtain ⟨ht1, ht2⟩ := htb
          have ht1' : -9007199254740992 ≤ t := by omega
          have ht2' : t ≤ 9007199254740992 := by omega
          clear ht1 ht2
          obtain ⟨hrc, hrf⟩ := owni_cell ho.out (set_get (by rw [HFN.out]; exact hkN))
          obtain ⟨p, hp⟩ : ∃ p, p = x * y := ⟨_, rfl⟩
          have hp12 := mul_s (HS.out x (List.mem_of_getElem? hx)) (HS.out y (List.mem_of_getElem? hy))
          rw [← hp] at hp12
          obtain ⟨hp1, hp2⟩ := hp12
          have HP : Hid (x * y = p) := hp.symm
          have HN : Hid (corr l k (m + 1) = t + p) := by show _ = _; rw [corr_next hik hx hy, ← ht, hp]
          have HI1 : Hid (i + 1 = k + (m + 1)) := by show _ = _; omega
          rw [← hik]
          clear hik hm hml hx hy hp ht
          go_wp2_with fail
          go_region
          all_goals
            go_wp2_with fail
            rw [HP.out, Go.IntWalk.wrap64_in p (by omega), Go.IntWalk.wrap64_in (t + p) (by omega)]
            refine ⟨⟨m + 1, by rw [← HI1.out]; go_num, .inl (by have := HI1.out; omega), ?_, (hb.out.setCell (by show _ ≤ g; exact HG.out) _).drew⟩, by (simp [intOf]) <;> omega⟩
            show OwnInts _ _ _ _
            rw [HN.out]
            have h1 := ho.out.set k (t + p) hkN
            rw [List.set_set] at h1
            exact World.ownsRow.drew h1
        · have HE : Hid (OwnInts wr g (.slice (some ⟨g, 0, none⟩) N N) (filled T N (k + 1))) := by
            have e1 : corr l k m = autoZ l k := by
              unfold autoZ
              rcases hm with h | h
              · rw [show l.length - k = m by omega]
              · subst h
                rw [show l.length - k = 0 by omega]
            have h1 := ho.out
            rw [e1, HFL.out, filled_set HTL.out (HTG.out k hkN)] at h1
            exact h1
          obtain ⟨i, hik⟩ : ∃ i, i = k + m := ⟨_, rfl⟩
          have hil : l.length ≤ i := by omega
          rw [← hik]
          clear hik hm ho hml
          go_wp2_with fail
          exact ⟨⟨k + 1, by omega, by go_num, HE, hb⟩, by (simp [intOf]) <;> omega⟩
    · have e0 : k = N := by omega
      subst e0
      go_wp2_with fail
      go_ret2
      rw [HR.out]
      refine ⟨_, rfl, ?_, hb.out⟩
      have h1 := ho.out
      rw [filled_end HTL.out] at h1
      rw [← HGE.out]
      exact h1

set_option maxRecDepth 100000 in
set_option maxHeartbeats 4000000 in
theorem vscaled_any (w : World) (a : Option Addr) (cap : Nat) (l : List Int) (s : Nat) (h : IntsAt w a l) (hl : l.length ≤ 1000000) (hs : isR l → IsShift (l.getD 0 0) s) (R : List Int × Int) (hR : R = scOut l s) :
    Calls Try.prog 82 #[.slice a l.length cap] w fun e w' => Gave w w' R e := by
  obtain ⟨i0, hi, hz0, hz1, hz2⟩ := info_parts Try.info3
  unfold scOut at hR
  have H : Hid (IntsAt w a l) := h
  clear h
  by_cases h0 : l.length = 0
  · rw [if_neg (fun h => by have := h.1; omega)] at hR
    have HR := hid_of hR
    have hb0 : ((l.length : Int) == 0) = true := beq_iff_eq.2 (by omega)
    clear hR hs
    go_enter Try.func82, Try.ntmps82
    go_wp2_with fail
    go_ret2
    exact Gave.none HR.out (Below.refl _ _)
  have hb0 : ((l.length : Int) == 0) = false := beq_eq_false_iff_ne.2 (by omega)
  have h0' : 0 < l.length := by omega
  clear h0
  obtain ⟨x0, hx0⟩ : ∃ x, l[0]? = some x := ⟨l[0], by simp [h0']⟩
  obtain ⟨b0, o0, rfl, hc0⟩ := H.out 0 x0 hx0
  rw [Nat.add_zero] at hc0
  by_cases hx : x0 < 0
  · rw [if_neg (fun h => by have := h.2.1; rw [getD_of hx0] at this; omega)] at hR
    have HR := hid_of hR
    clear hR hs hx0
    go_enter Try.func82, Try.ntmps82
    go_wp2_with fail
    go_ret2
    exact Gave.none HR.out (Below.refl _ _)
  by_cases hB : allB l
  case neg =>
    rw [if_neg (fun h => hB h.2.2)] at hR
    have HT : Hid (false = decide (allB l)) := (decide_eq_false hB).symm
    have HR := hid_of hR
    clear hR hs hx0 hB
    go_enter Try.func82, Try.ntmps82
    go_wp2_with (go_at_call 101; refine (vsmall_any _ _ _ _ H.out hl false HT.out).mono ?_; rintro e w1 ⟨rfl, rfl⟩)
    go_ret2
    exact Gave.none HR.out (Below.refl _ _)
  have hRR : isR l := ⟨h0', by rw [getD_of hx0]; omega, hB⟩
  rw [if_pos hRR] at hR
  have hS := hs hRR
  rw [getD_of hx0] at hS
  have hxb := hB x0 (List.mem_of_getElem? hx0)
  obtain ⟨hx1, hx2⟩ := hxb
  have hs31 : s ≤ 31 := shift_le hx2 hS
  have HS := hid_of hS
  have HT : Hid (true = decide (allB l)) := (decide_eq_true hB).symm
  have HBB : Hid (allB l) := hB
  obtain ⟨T, hTT⟩ : ∃ T, T = scaleL l s := ⟨_, rfl⟩
  have HTL : Hid (T.length = l.length) := by show _ = _; rw [hTT]; simp
  have HTG : Hid (∀ (k : Nat) (x : Int), l[k]? = some x → T[k]? = some (x / 2 ^ s)) := by intro k x hk; rw [hTT]; exact scaleL_get hk
  rw [← hTT] at hR
  have HR := hid_of hR
  clear hR hS hTT hB hRR hs hx0
  go_enter Try.func82, Try.ntmps82
  go_wp2_with (go_at_call 101; refine (vsmall_any _ _ _ _ H.out hl true HT.out).mono ?_; rintro e w1 ⟨rfl, rfl⟩)
  go_loopw [4] (fun i wr => ∃ t : Nat, t ≤ s ∧ i = .int .i64 (t : Int) ∧ w = wr) (fun i _ => s - (intOf i).toNat)
  case atStart => exact ⟨0, Nat.zero_le _, rfl, rfl⟩
  case round =>
    obtain ⟨t, ht, rfl, rfl⟩ := hrel
    by_cases hts : t < s
    · have hbig : 1073741823 < x0 / 2 ^ t := by have := HS.out.2 t hts; omega
      go_wp2_with fail
      exact ⟨⟨t + 1, by omega, by go_num, by trivial⟩, by (simp [intOf]) <;> omega⟩
    · have e : t = s := by omega
      subst e
      have hbig : x0 / 2 ^ t ≤ 1073741823 := by have := HS.out.1; omega
      go_wp2_with (at_make; go_must (refine wpList_make_full _ rfl _ _ 22 rfl w.heap.size 3 i0 (.int .i64 0) 1 Try.underlying22 hi hz0 hz1 _ _ _ _ l.length rfl rfl rfl rfl (by rw [hz2]; omega) (by unfold maxLen; omega) (Nat.le_refl _) ?_))
      intro w1 hown hgr
      have HB1 : Hid (Below w.heap.size w w1) := (Below.refl _ _).grown hgr (Nat.le_refl _) (fun k hk => by cases hk)
      have HO1 : Hid (OwnInts w1 w.heap.size (.slice (some ⟨w.heap.size, 0, none⟩) l.length l.length) (filled T l.length 0)) := by
        show World.ownsRow _ _ _ _ _ _ _
        rw [filled_zero]
        have e := madeI l.length
        rw [Nat.mul_one] at e
        rw [← e, List.length_replicate]; exact hown
      obtain ⟨g, hg⟩ : ∃ g, g = w.heap.size := ⟨_, rfl⟩
      have HG : Hid (w.heap.size ≤ g) := by rw [hg]; exact Nat.le_refl _
      rw [← hg] at HO1 ⊢
      have HGE : Hid (g = w.heap.size) := hg
      clear hown hgr hg
      go_wp2_with fail
      go_loopw [35] (fun i wr => ∃ k : Nat, k ≤ l.length ∧ i = .int .i64 (k : Int) ∧ Hid (OwnInts wr g (.slice (some ⟨g, 0, none⟩) l.length l.length) (filled T l.length k)) ∧ Hid (Below w.heap.size w wr)) (fun i _ => l.length - (intOf i).toNat)
      case atStart => exact ⟨0, Nat.zero_le _, rfl, HO1.out, HB1.out⟩
      case round =>
        obtain ⟨k, hk, rfl, ho, hb⟩ := hrel
        by_cases hkN : k < l.length
        · obtain ⟨x, hx⟩ : ∃ x, l[k]? = some x := ⟨l[k], by simp [hkN]⟩
          have hc1 : wr.cell? ⟨b0, o0 + k, none⟩ = some (.int .i64 x) := by
            obtain ⟨b2, o2, e2, hc2⟩ := H.out.mono hb.out k x hx
            cases e2
            exact hc2
          obtain ⟨hrc, hrf⟩ := owni_cell ho.out (filled_get HTL.out hkN)
          have HTK := hid_of (HTG.out k x hx)
          have HX := hid_of hx
          clear hx
          go_wp2_with fail
          refine ⟨⟨k + 1, by omega, by go_num, ?_, hb.out.setCell (by show _ ≤ g; exact HG.out) _⟩, by (simp [intOf]) <;> omega⟩
          show OwnInts _ _ _ _
          rw [← filled_set HTL.out HTK.out]
          exact ho.out.set k _ hkN
        · have e0 : k = l.length := by omega
          subst e0
          go_wp2_with fail
          go_ret2
          rw [HR.out]
          refine ⟨_, rfl, ?_, hb.out⟩
          have h1 := ho.out
          rw [filled_end HTL.out] at h1
          rw [← HGE.out]
          exact h1

end Go.Proofs.Ythkfaackkcdcoaa
