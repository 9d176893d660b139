/- Walks over the small functions of package rice. -/
import Derived.Test.YtlonnoapbfjomabGreatWalk1
namespace Go.Proofs.YtlonnoapbfjomabGreat
set_option linter.unusedVariables false
set_option linter.unusedSimpArgs false
open Go.RowKit Dg

/-- A number that may be. -/
def isNum (z : Int) : Bool := decide (0 ≤ z ∧ z < 4294967296)
/-- A parameter that may be. -/
def isPar (k : Int) : Bool := decide (0 ≤ k ∧ k ≤ 24)
/-- A number that is written raw. -/
def isRawOf (z : Int) (k : Nat) : Bool := decide (24 ≤ z / 2 ^ k)
/-- Zig, as the document says it. -/
def zigOf (n : Int) : Int := if n < -1099511627776 ∨ 1099511627776 ≤ n then 0 else if n < 0 then -2 * n - 1 else 2 * n
/-- Zag, as the document says it. -/
def zagOf (z : Int) : Int := if z < 0 ∨ 2199023255552 ≤ z then 0 else if z % 2 = 1 then -((z + 1) / 2) else z / 2
/-- The size of a number that may be, with a parameter that may be. -/
def sizeIn (z : Int) (k : Nat) : Int := if 24 ≤ z / 2 ^ k then 56 else z / 2 ^ k + 1 + k
/-- The size of a number. -/
def sizeOf1 (z k : Int) : Int := if isNum z = true ∧ isPar k = true then sizeIn z k.toNat else 0

theorem isNum_true {z : Int} (h : isNum z = true) : 0 ≤ z ∧ z < 4294967296 := by simpa [isNum] using h
theorem isNum_false {z : Int} (h : isNum z = false) : z < 0 ∨ 4294967296 ≤ z := by simp [isNum] at h; omega
theorem isPar_true {z : Int} (h : isPar z = true) : 0 ≤ z ∧ z ≤ 24 := by simpa [isPar] using h
theorem isPar_false {z : Int} (h : isPar z = false) : z < 0 ∨ 24 < z := by simp [isPar] at h; omega

theorem quot_le (z : Int) (k : Nat) (hz : 0 ≤ z) : 0 ≤ z / 2 ^ k ∧ z / 2 ^ k ≤ z := by
  have hp : (0 : Int) < 2 ^ k := Int.pow_pos (by decide)
  exact ⟨Int.ediv_nonneg hz (by omega), Int.ediv_le_self _ hz⟩

set_option maxHeartbeats 400000 in
theorem isNumber_any (z : Int) (w : World) :
    Calls Tryz.prog 97 #[.int .i64 z] w fun e w' => e = .returned (.bool (isNum z)) ∧ w = w' := by
  obtain ⟨b, hb⟩ : ∃ b, b = isNum z := ⟨_, rfl⟩
  rw [← hb]
  match b, hb with
  | true, hb =>
    obtain ⟨h1, h2⟩ := isNum_true hb.symm
    clear hb
    go_enter Tryz.func97, Tryz.ntmps97
    go_wp2
    go_ret
    exact ⟨rfl, rfl⟩
  | false, hb =>
    rcases isNum_false hb.symm with h1 | h1
    · clear hb
      go_enter Tryz.func97, Tryz.ntmps97
      go_wp2
      go_ret
      exact ⟨rfl, rfl⟩
    · clear hb
      have h2 : 0 ≤ z := by omega
      go_enter Tryz.func97, Tryz.ntmps97
      go_wp2
      go_ret
      refine ⟨?_, rfl⟩
      show Ending.returned (.bool (decide (z < 4294967296))) = _
      rw [decide_eq_false (by omega)]

set_option maxHeartbeats 400000 in
theorem isParameter_any (z : Int) (w : World) :
    Calls Tryz.prog 99 #[.int .i64 z] w fun e w' => e = .returned (.bool (isPar z)) ∧ w = w' := by
  obtain ⟨b, hb⟩ : ∃ b, b = isPar z := ⟨_, rfl⟩
  rw [← hb]
  match b, hb with
  | true, hb =>
    obtain ⟨h1, h2⟩ := isPar_true hb.symm
    clear hb
    go_enter Tryz.func99, Tryz.ntmps99
    go_wp2
    go_ret
    exact ⟨rfl, rfl⟩
  | false, hb =>
    rcases isPar_false hb.symm with h1 | h1
    · clear hb
      go_enter Tryz.func99, Tryz.ntmps99
      go_wp2
      go_ret
      exact ⟨rfl, rfl⟩
    · clear hb
      have h2 : 0 ≤ z := by omega
      go_enter Tryz.func99, Tryz.ntmps99
      go_wp2
      go_ret
      refine ⟨?_, rfl⟩
      show Ending.returned (.bool (decide (z ≤ 24))) = _
      rw [decide_eq_false (by omega)]

set_option maxHeartbeats 400000 in
theorem isRaw_any (z : Int) (k : Nat) (w : World) (h0 : 0 ≤ z) (h1 : z < 4294967296) (hk : k ≤ 62) :
    Calls Tryz.prog 100 #[.int .i64 z, .int .i64 k] w fun e w' => e = .returned (.bool (isRawOf z k)) ∧ w = w' := by
  go_enter Tryz.func100, Tryz.ntmps100
  go_wp2
  go_ret
  exact ⟨rfl, rfl⟩

set_option maxHeartbeats 1000000 in
theorem zig_any (n : Int) (w : World) :
    Calls Tryz.prog 84 #[.int .i64 n] w fun e w' => e = .returned (.int .i64 (zigOf n)) ∧ w = w' := by
  by_cases h1 : n < -1099511627776
  · have e : zigOf n = 0 := by simp [zigOf, h1]
    rw [e]
    go_enter Tryz.func84, Tryz.ntmps84
    go_wp2
    go_ret
    exact ⟨rfl, rfl⟩
  · by_cases h2 : 1099511627776 ≤ n
    · have e : zigOf n = 0 := by simp [zigOf, h2]
      rw [e]
      go_enter Tryz.func84, Tryz.ntmps84
      go_wp2
      go_ret
      exact ⟨rfl, rfl⟩
    · by_cases h3 : n < 0
      · have e : zigOf n = -2 * n - 1 := by simp only [zigOf]; rw [if_neg (by omega), if_pos h3]
        rw [e]
        clear e
        go_enter Tryz.func84, Tryz.ntmps84
        go_wp2
        go_ret
        exact ⟨rfl, rfl⟩
      · have e : zigOf n = 2 * n := by simp only [zigOf]; rw [if_neg (by omega), if_neg h3]
        rw [e]
        clear e
        go_enter Tryz.func84, Tryz.ntmps84
        go_wp2
        go_ret
        exact ⟨rfl, rfl⟩

theorem tdiv2_neg (z : Int) (h : 0 ≤ z) : (-(z + 1)).tdiv 2 = -((z + 1) / 2) := by
  rw [Int.neg_tdiv, Int.tdiv_eq_ediv_of_nonneg (by omega)]
theorem tdiv2_pos (z : Int) (h : 0 ≤ z) : z.tdiv 2 = z / 2 := Int.tdiv_eq_ediv_of_nonneg h
theorem tmod2_pos (z : Int) (h : 0 ≤ z) : z.tmod 2 = z % 2 := Int.tmod_eq_emod_of_nonneg h

set_option maxHeartbeats 1000000 in
theorem zag_any (n : Int) (w : World) :
    Calls Tryz.prog 96 #[.int .i64 n] w fun e w' => e = .returned (.int .i64 (zagOf n)) ∧ w = w' := by
  by_cases h1 : n < 0
  · have e : zagOf n = 0 := by simp [zagOf, h1]
    rw [e]
    go_enter Tryz.func96, Tryz.ntmps96
    go_wp2
    go_ret
    exact ⟨rfl, rfl⟩
  · by_cases h2 : 2199023255552 ≤ n
    · have e : zagOf n = 0 := by simp [zagOf, h2]
      rw [e]
      go_enter Tryz.func96, Tryz.ntmps96
      go_wp2
      go_ret
      exact ⟨rfl, rfl⟩
    · by_cases h3 : n % 2 = 1
      · have e : zagOf n = -((n + 1) / 2) := by simp only [zagOf]; rw [if_neg (by omega), if_pos h3]
        rw [e]
        clear e
        have hm : n.tmod 2 = 1 := by rw [tmod2_pos n (by omega)]; exact h3
        have hd := tdiv2_neg n (by omega)
        go_enter Tryz.func96, Tryz.ntmps96
        go_wp2
        all_goals go_ret
        all_goals exact ⟨rfl, rfl⟩
      · have e : zagOf n = n / 2 := by simp only [zagOf]; rw [if_neg (by omega), if_neg h3]
        rw [e]
        clear e
        have hm : n.tmod 2 = 0 := by rw [tmod2_pos n (by omega)]; omega
        have hd := tdiv2_pos n (by omega)
        go_enter Tryz.func96, Tryz.ntmps96
        go_wp2
        all_goals go_ret
        all_goals exact ⟨rfl, rfl⟩

set_option maxHeartbeats 1000000 in
theorem size_in (z : Int) (k : Nat) (w : World) (hz : isNum z = true) (hk : k ≤ 24) :
    Calls Tryz.prog 107 #[.int .i64 z, .int .i64 k] w fun e w' => e = .returned (.int .i64 (sizeIn z k)) ∧ w = w' := by
  have hp : isPar (k : Int) = true := by simp [isPar]; omega
  obtain ⟨h1, h2⟩ := isNum_true hz
  obtain ⟨h3, h4⟩ := quot_le z k h1
  by_cases hr : 24 ≤ z / 2 ^ k
  · have er : isRawOf z k = true := by simp [isRawOf, hr]
    have e : sizeIn z k = 56 := by simp [sizeIn, hr]
    rw [e]
    clear e
    go_enter Tryz.func107, Tryz.ntmps107
    go_wp2_with first
      | (go_at_call 97; refine (isNumber_any z w).mono ?_; rw [hz]; rintro e w2 ⟨rfl, rfl⟩)
      | (go_at_call 99; refine (isParameter_any k w).mono ?_; rw [hp]; rintro e w2 ⟨rfl, rfl⟩)
      | (go_at_call 100; refine (isRaw_any z k w h1 h2 (by omega)).mono ?_; rw [er]; rintro e w2 ⟨rfl, rfl⟩)
    go_ret
    exact ⟨rfl, rfl⟩
  · have er : isRawOf z k = false := by simp [isRawOf, hr]
    have e : sizeIn z k = z / 2 ^ k + 1 + k := by simp [sizeIn, hr]
    rw [e]
    clear e
    go_enter Tryz.func107, Tryz.ntmps107
    go_wp2_with first
      | (go_at_call 97; refine (isNumber_any z w).mono ?_; rw [hz]; rintro e w2 ⟨rfl, rfl⟩)
      | (go_at_call 99; refine (isParameter_any k w).mono ?_; rw [hp]; rintro e w2 ⟨rfl, rfl⟩)
      | (go_at_call 100; refine (isRaw_any z k w h1 h2 (by omega)).mono ?_; rw [er]; rintro e w2 ⟨rfl, rfl⟩)
    go_ret
    exact ⟨rfl, rfl⟩

set_option maxHeartbeats 1000000 in
theorem size_any (z k : Int) (w : World) :
    Calls Tryz.prog 107 #[.int .i64 z, .int .i64 k] w fun e w' => e = .returned (.int .i64 (sizeOf1 z k)) ∧ w = w' := by
  by_cases hz : isNum z = true
  · by_cases hk : isPar k = true
    · have e : sizeOf1 z k = sizeIn z k.toNat := by simp [sizeOf1, hz, hk]
      obtain ⟨h1, h2⟩ := isPar_true hk
      have ek : k = (k.toNat : Int) := by omega
      rw [e]
      have := size_in z k.toNat w hz (by omega)
      rw [← ek] at this
      exact this
    · have e : sizeOf1 z k = 0 := by simp [sizeOf1, hk]
      rw [e]
      clear e
      have hk : isPar k = false := by simpa using hk
      go_enter Tryz.func107, Tryz.ntmps107
      go_wp2_with first
        | (go_at_call 97; refine (isNumber_any z w).mono ?_; rw [hz]; rintro e w2 ⟨rfl, rfl⟩)
        | (go_at_call 99; refine (isParameter_any k w).mono ?_; rw [hk]; rintro e w2 ⟨rfl, rfl⟩)
      go_ret
      exact ⟨rfl, rfl⟩
  · have e : sizeOf1 z k = 0 := by simp [sizeOf1, hz]
    rw [e]
    clear e
    have hz : isNum z = false := by simpa using hz
    go_enter Tryz.func107, Tryz.ntmps107
    go_wp2_with first
      | (go_at_call 97; refine (isNumber_any z w).mono ?_; rw [hz]; rintro e w2 ⟨rfl, rfl⟩)
    go_ret
    exact ⟨rfl, rfl⟩

theorem size_wake : sizeOf1 5 1 = 4 := by decide
theorem zig_wake : zigOf (-1) = 1 := by decide

end Go.Proofs.YtlonnoapbfjomabGreat
