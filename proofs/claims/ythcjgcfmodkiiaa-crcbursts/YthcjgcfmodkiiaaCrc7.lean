/- Plain mathematics of bursts: digits turned in a row: no program in sight. -/
import Derived.Test.YthcjgcfmodkiiaaCrc1
namespace Go.Proofs.Ythcjgcfmodkiiaa
set_option linter.unusedVariables false
set_option linter.unusedSimpArgs false
open Dg Cr

/-- A byte with one digit turned. -/
def flip (c k : Nat) : Nat := c ^^^ 128 / 2 ^ (k % 8)
theorem mask_lt (k : Nat) : 128 / 2 ^ (k % 8) < 256 := Nat.lt_of_le_of_lt (Nat.div_le_self _ _) (by decide)
theorem mask_pos (k : Nat) : 0 < 128 / 2 ^ (k % 8) := by
  have : k % 8 ≤ 7 := by omega
  exact Nat.div_pos (Nat.le_trans (Nat.pow_le_pow_right (by decide) this) (by decide)) (Nat.pow_pos (by decide))
theorem flip_lt (c k : Nat) (hc : c < 256) : flip c k < 256 := Nat.xor_lt_two_pow (n := 8) hc (mask_lt k)
theorem xor_cancel (a b : Nat) : a ^^^ b ^^^ b = a := by rw [Nat.xor_assoc, Nat.xor_self, Nat.xor_zero]
theorem flip_flip (c k : Nat) : flip (flip c k) k = c := xor_cancel _ _
theorem flip_ne (c k : Nat) : flip c k ≠ c := by
  intro h
  have h1 : c ^^^ (c ^^^ 128 / 2 ^ (k % 8)) = c ^^^ c := by have := congrArg (c ^^^ ·) h; exact this
  rw [← Nat.xor_assoc, Nat.xor_self, Nat.zero_xor] at h1
  have := mask_pos k
  omega
theorem flip_num (c k : Nat) (hc : c < 256) : bits BinOp.xor IntKind.u8 (c : Int) (128 / 2 ^ (k % 8)) = ((flip c k : Nat) : Int) := by
  have e : (128 : Int) / 2 ^ (k % 8) = ((128 / 2 ^ (k % 8) : Nat) : Int) := by push_cast; rfl
  rw [e, u8_xor_nat _ _ hc (mask_lt k)]; rfl

theorem digitOf_bit (x j : Nat) : digitOf x j = x.testBit (7 - j) := by
  rw [Nat.testBit_eq_decide_div_mod_eq]; unfold digitOf
  by_cases h : x / 2 ^ (7 - j) % 2 = 1 <;> simp [h]
theorem digitOf_flip (c k j : Nat) (hj : j < 8) : digitOf (flip c k) j = (digitOf c j ^^ decide (j = k % 8)) := by
  have hk : k % 8 < 8 := by omega
  have e : 128 / 2 ^ (k % 8) = 2 ^ (7 - k % 8) := by
    have := Nat.pow_div (show k % 8 ≤ 7 by omega) (show 0 < 2 by decide)
    rw [← this]
  rw [digitOf_bit, digitOf_bit, flip, e, Nat.testBit_xor, Nat.testBit_two_pow]
  congr 1
  by_cases h : j = k % 8
  · subst h; simp
  · have : ¬ (7 - k % 8 = 7 - j) := by omega
    simp [h, this]

/-- A row with its k-th digit turned. -/
def turn (l : List Nat) (k : Nat) : List Nat := l.set (k / 8) (flip (l.getD (k / 8) 0) k)
@[simp] theorem length_turn (l : List Nat) (k : Nat) : (turn l k).length = l.length := by simp [turn]
theorem turn_lt (l : List Nat) (k : Nat) (h : ∀ x ∈ l, x < 256) : ∀ x ∈ turn l k, x < 256 := by
  intro x hx
  rcases List.mem_or_eq_of_mem_set hx with h1 | h1
  · exact h x h1
  · rw [h1]
    apply flip_lt
    by_cases hk : k / 8 < l.length
    · have : l.getD (k / 8) 0 = l[k / 8] := by simp [List.getD, hk]
      rw [this]; exact h _ (by simp)
    · simp [List.getD, List.getElem?_eq_none (show l.length ≤ k / 8 by omega)]
theorem turn_digit (l : List Nat) (k j : Nat) : (unpack (turn l k))[j]? = (unpack l)[j]?.map (· ^^ decide (j = k)) := by
  rw [unpack_get, unpack_get, turn, List.getElem?_set]
  by_cases h : k / 8 = j / 8
  · rw [if_pos h]
    by_cases hl : k / 8 < l.length
    · rw [if_pos hl, ← h]
      have e : l[k / 8]? = some l[k / 8] := by simp [hl]
      have e2 : l.getD (k / 8) 0 = l[k / 8] := by simp [List.getD, hl]
      rw [e, e2]
      simp only [Option.map_some]
      rw [digitOf_flip _ _ _ (by omega)]
      have : decide (j % 8 = k % 8) = decide (j = k) := by
        by_cases hjk : j = k
        · simp [hjk]
        · have : ¬ j % 8 = k % 8 := by omega
          simp [hjk, this]
      rw [this]
    · rw [if_neg hl, ← h, List.getElem?_eq_none (show l.length ≤ k / 8 by omega)]; rfl
  · rw [if_neg h]
    have hjk : ¬ j = k := fun e => h (by rw [e])
    cases l[j / 8]? <;> simp [hjk]

/-- The first i digits of a burst, turned from the place at on. -/
def turned (l : List Nat) (at_ b : Nat) : Nat → List Nat
  | 0 => l
  | i + 1 => if b / 2 ^ i % 2 = 1 then turn (turned l at_ b i) (at_ + i) else turned l at_ b i
@[simp] theorem length_turned (l : List Nat) (at_ b i : Nat) : (turned l at_ b i).length = l.length := by
  induction i with
  | zero => rfl
  | succ i ih => simp only [turned]; split <;> simp [ih]
theorem turned_lt (l : List Nat) (at_ b i : Nat) (h : ∀ x ∈ l, x < 256) : ∀ x ∈ turned l at_ b i, x < 256 := by
  induction i with
  | zero => exact h
  | succ i ih => simp only [turned]; split; exact turn_lt _ _ ih; exact ih
theorem turned_digit (l : List Nat) (at_ b : Nat) : ∀ i j, (unpack (turned l at_ b i))[j]? = (unpack l)[j]?.map (· ^^ (decide (at_ ≤ j) && decide (j < at_ + i) && b.testBit (j - at_)))
  | 0, j => by
    have : (decide (at_ ≤ j) && decide (j < at_ + 0) && b.testBit (j - at_)) = false := by
      by_cases h : at_ ≤ j
      · have : ¬ j < at_ := by omega
        simp [this]
      · simp [h]
    rw [this]; cases h : (unpack l)[j]? <;> simp [turned, h]
  | i + 1, j => by
    have ih := turned_digit l at_ b i j
    have hb : b.testBit i = decide (b / 2 ^ i % 2 = 1) := Nat.testBit_eq_decide_div_mod_eq
    by_cases h : b / 2 ^ i % 2 = 1
    · rw [turned, if_pos h, turn_digit, ih]
      cases (unpack l)[j]? with
      | none => rfl
      | some d =>
        simp only [Option.map_some]
        congr 1
        by_cases hj : j = at_ + i
        · have e : j - at_ = i := by omega
          have h1 : ¬ j < at_ + i := by omega
          have h2 : j < at_ + (i + 1) := by omega
          have h3 : at_ ≤ j := by omega
          rw [e, hb]
          simp [hj, h]
        · have : decide (j < at_ + (i + 1)) = decide (j < at_ + i) := by
            by_cases h1 : j < at_ + i
            · simp [h1, show j < at_ + (i + 1) by omega]
            · simp [h1, show ¬ j < at_ + (i + 1) by omega]
          rw [this]; simp [hj]
    · rw [turned, if_neg h, ih]
      cases (unpack l)[j]? with
      | none => rfl
      | some d =>
        simp only [Option.map_some]
        congr 2
        by_cases hj : j = at_ + i
        · have e : j - at_ = i := by omega
          rw [e, hb]; simp [h]
        · have : decide (j < at_ + (i + 1)) = decide (j < at_ + i) := by
            by_cases h1 : j < at_ + i
            · simp [h1, show j < at_ + (i + 1) by omega]
            · simp [h1, show ¬ j < at_ + (i + 1) by omega]
          rw [this]

/-- A burst in a row with its sum behind it: the sum is no longer the row's. -/
theorem burst_told (l : List Nat) (at_ b : Nat) (h256 : ∀ x ∈ l, x < 256) (hat : at_ + 32 ≤ 8 * l.length) (hb0 : b ≠ 0) (hb : b < 4294967296) (hz : crc ones l = 0#32) :
    crc ones (turned l at_ b 32) ≠ 0#32 := by
  intro h
  obtain ⟨j, hj⟩ : ∃ j, b.testBit j = true := by
    apply Classical.byContradiction
    intro hn
    apply hb0
    apply Nat.eq_of_testBit_eq
    intro i
    rw [Nat.zero_testBit]
    cases hi : b.testBit i with
    | false => rfl
    | true => exact absurd ⟨i, hi⟩ hn
  have hj32 : j < 32 := by
    apply Classical.byContradiction
    intro hn
    have : b < 2 ^ j := Nat.lt_of_lt_of_le (show b < 2 ^ 32 by omega) (Nat.pow_le_pow_right (by decide) (by omega))
    rw [Nat.testBit_lt_two_pow this] at hj
    cases hj
  have e : unpack (turned l at_ b 32) = List.zipWith (· ^^ ·) (unpack l) (List.replicate at_ false ++ (List.range 32).map (fun i => b.testBit i) ++ List.replicate (8 * l.length - (at_ + 32)) false) := by
    apply List.ext_getElem?
    intro k
    rw [turned_digit, List.getElem?_zipWith]
    by_cases hk : k < 8 * l.length
    · obtain ⟨d, hd⟩ : ∃ d, (unpack l)[k]? = some d := ⟨(unpack l)[k]'(by simpa using hk), by simp [hk]⟩
      rw [hd]
      by_cases h1 : k < at_
      · rw [List.append_assoc, List.getElem?_append_left (by simpa using h1), List.getElem?_replicate, if_pos h1]
        simp [show ¬ at_ ≤ k by omega]
      · rw [List.append_assoc, List.getElem?_append_right (by simp; omega)]
        by_cases h2 : k < at_ + 32
        · rw [List.getElem?_append_left (by simp; omega)]
          simp [show at_ ≤ k by omega, h2, show k - at_ < 32 by omega]
        · rw [List.getElem?_append_right (by simp; omega), List.getElem?_replicate, if_pos (by simp; omega)]
          simp [h2]
    · rw [List.getElem?_eq_none (by simp; omega)]; rfl
  rw [crc_digits _ _ (turned_lt l at_ b 32 h256), e] at h
  have h2 := feeds_xor (unpack l) (List.replicate at_ false ++ (List.range 32).map (fun i => b.testBit i) ++ List.replicate (8 * l.length - (at_ + 32)) false) ones 0#32 (by simp; omega)
  rw [BitVec.xor_zero] at h2
  rw [h2, ← crc_digits l ones h256, hz, BitVec.zero_xor] at h
  exact burst _ _ _ (by simp) j (by simp [List.getD, hj32, hj]) h
theorem burst_unlike (l : List Nat) (at_ b n : Nat) (h256 : ∀ x ∈ l, x < 256) (hat : at_ + 32 ≤ 8 * l.length) (hb0 : b ≠ 0) (hb : b < 4294967296) (hz : crc ones l = 0#32) :
    (turned l at_ b 32).drop n ≠ bytes4 (crc ones ((turned l at_ b 32).take n)).toNat := by
  intro h
  apply burst_told l at_ b h256 hat hb0 hb hz
  rw [← List.take_append_drop n (turned l at_ b 32), h]
  exact crc_whole _ _

end Go.Proofs.Ythcjgcfmodkiiaa
