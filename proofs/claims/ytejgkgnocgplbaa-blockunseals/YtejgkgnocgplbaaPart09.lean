/- The texts Crc7, BlkMath, BytesB, BlkC, BlkD, Tone, ListsI, Crc2, one behind the other. -/
import Derived.Test.YtejgkgnocgplbaaPart08
import Derived.Test.YtejgkgnocgplbaaPart07
import Derived.Laws.AppendOwnNone
import Derived.Test.YtejgkgnocgplbaaPart03
import Derived.Deep.CutRange
import Derived.Test.YtejgkgnocgplbaaPart02
import Derived.Deep.Matrix
import Derived.Test.YtejgkgnocgplbaaPart04
import Derived.Laws.BitsAll

/- Plain mathematics of bursts: digits turned in a row: no program in sight. -/
namespace Go.Proofs.Ytejgkgnocgplbaa
set_option linter.unusedVariables false
set_option linter.unusedSimpArgs false
open Dg Cr

/-- A byte with one digit turned. -/
def flip (c k : Nat) : Nat := c ^^^ 128 / 2 ^ (k % 8)
theorem mask_lt (k : Nat) : 128 / 2 ^ (k % 8) < 256 := Nat.lt_of_le_of_lt (Nat.div_le_self _ _) (by decide)
theorem mask_pos (k : Nat) : 0 < 128 / 2 ^ (k % 8) := by
  have : k % 8 ≤ 7 := by omega
  exact Nat.div_pos (Nat.le_trans (Nat.pow_le_pow_right (by decide) this) (by decide)) (Nat.pow_pos (by decide))
theorem flip_lt (c k : Nat) (hc : c < 256) : flip c k < 256 := Nat.xor_lt_two_pow (n := 8) hc (mask_lt k)
theorem xor_cancel (a b : Nat) : a ^^^ b ^^^ b = a := by rw [Nat.xor_assoc, Nat.xor_self, Nat.xor_zero]
theorem flip_flip (c k : Nat) : flip (flip c k) k = c := xor_cancel _ _
theorem flip_ne (c k : Nat) : flip c k ≠ c := by
  intro h
  have h1 : c ^^^ (c ^^^ 128 / 2 ^ (k % 8)) = c ^^^ c := by have := congrArg (c ^^^ ·) h; exact this
  rw [← Nat.xor_assoc, Nat.xor_self, Nat.zero_xor] at h1
  have := mask_pos k
  omega
theorem flip_num (c k : Nat) (hc : c < 256) : bits BinOp.xor IntKind.u8 (c : Int) (128 / 2 ^ (k % 8)) = ((flip c k : Nat) : Int) := by
  have e : (128 : Int) / 2 ^ (k % 8) = ((128 / 2 ^ (k % 8) : Nat) : Int) := by push_cast; rfl
  rw [e, u8_xor_nat _ _ hc (mask_lt k)]; rfl

theorem digitOf_bit (x j : Nat) : digitOf x j = x.testBit (7 - j) := by
  rw [Nat.testBit_eq_decide_div_mod_eq]; unfold digitOf
  by_cases h : x / 2 ^ (7 - j) % 2 = 1 <;> simp [h]
theorem digitOf_flip (c k j : Nat) (hj : j < 8) : digitOf (flip c k) j = (digitOf c j ^^ decide (j = k % 8)) := by
  have hk : k % 8 < 8 := by omega
  have e : 128 / 2 ^ (k % 8) = 2 ^ (7 - k % 8) := by
    have := Nat.pow_div (show k % 8 ≤ 7 by omega) (show 0 < 2 by decide)
    rw [← this]
  rw [digitOf_bit, digitOf_bit, flip, e, Nat.testBit_xor, Nat.testBit_two_pow]
  congr 1
  by_cases h : j = k % 8
  · subst h; simp
  · have : ¬ (7 - k % 8 = 7 - j) := by omega
    simp [h, this]

/-- A row with its k-th digit turned. -/
def turn (l : List Nat) (k : Nat) : List Nat := l.set (k / 8) (flip (l.getD (k / 8) 0) k)
@[simp] theorem length_turn (l : List Nat) (k : Nat) : (turn l k).length = l.length := by simp [turn]
theorem turn_lt (l : List Nat) (k : Nat) (h : ∀ x ∈ l, x < 256) : ∀ x ∈ turn l k, x < 256 := by
  intro x hx
  rcases List.mem_or_eq_of_mem_set hx with h1 | h1
  · exact h x h1
  · rw [h1]
    apply flip_lt
    by_cases hk : k / 8 < l.length
    · have : l.getD (k / 8) 0 = l[k / 8] := by simp [List.getD, hk]
      rw [this]; exact h _ (by simp)
    · simp [List.getD, List.getElem?_eq_none (show l.length ≤ k / 8 by omega)]
theorem turn_digit (l : List Nat) (k j : Nat) : (unpack (turn l k))[j]? = (unpack l)[j]?.map (· ^^ decide (j = k)) := by
  rw [unpack_get, unpack_get, turn, List.getElem?_set]
  by_cases h : k / 8 = j / 8
  · rw [if_pos h]
    by_cases hl : k / 8 < l.length
    · rw [if_pos hl, ← h]
      have e : l[k / 8]? = some l[k / 8] := by simp [hl]
      have e2 : l.getD (k / 8) 0 = l[k / 8] := by simp [List.getD, hl]
      rw [e, e2]
      simp only [Option.map_some]
      rw [digitOf_flip _ _ _ (by omega)]
      have : decide (j % 8 = k % 8) = decide (j = k) := by
        by_cases hjk : j = k
        · simp [hjk]
        · have : ¬ j % 8 = k % 8 := by omega
          simp [hjk, this]
      rw [this]
    · rw [if_neg hl, ← h, List.getElem?_eq_none (show l.length ≤ k / 8 by omega)]; rfl
  · rw [if_neg h]
    have hjk : ¬ j = k := fun e => h (by rw [e])
    cases l[j / 8]? <;> simp [hjk]

/-- The first i digits of a burst, turned from the place at on. -/
def turned (l : List Nat) (at_ b : Nat) : Nat → List Nat
  | 0 => l
  | i + 1 => if b / 2 ^ i % 2 = 1 then turn (turned l at_ b i) (at_ + i) else turned l at_ b i
@[simp] theorem length_turned (l : List Nat) (at_ b i : Nat) : (turned l at_ b i).length = l.length := by
  induction i with
  | zero => rfl
  | succ i ih => simp only [turned]; split <;> simp [ih]
theorem turned_lt (l : List Nat) (at_ b i : Nat) (h : ∀ x ∈ l, x < 256) : ∀ x ∈ turned l at_ b i, x < 256 := by
  induction i with
  | zero => exact h
  | succ i ih => simp only [turned]; split; exact turn_lt _ _ ih; exact ih
theorem turned_digit (l : List Nat) (at_ b : Nat) : ∀ i j, (unpack (turned l at_ b i))[j]? = (unpack l)[j]?.map (· ^^ (decide (at_ ≤ j) && decide (j < at_ + i) && b.testBit (j - at_)))
  | 0, j => by
    have : (decide (at_ ≤ j) && decide (j < at_ + 0) && b.testBit (j - at_)) = false := by
      by_cases h : at_ ≤ j
      · have : ¬ j < at_ := by omega
        simp [this]
      · simp [h]
    rw [this]; cases h : (unpack l)[j]? <;> simp [turned, h]
  | i + 1, j => by
    have ih := turned_digit l at_ b i j
    have hb : b.testBit i = decide (b / 2 ^ i % 2 = 1) := Nat.testBit_eq_decide_div_mod_eq
    by_cases h : b / 2 ^ i % 2 = 1
    · rw [turned, if_pos h, turn_digit, ih]
      cases (unpack l)[j]? with
      | none => rfl
      | some d =>
        simp only [Option.map_some]
        congr 1
        by_cases hj : j = at_ + i
        · have e : j - at_ = i := by omega
          have h1 : ¬ j < at_ + i := by omega
          have h2 : j < at_ + (i + 1) := by omega
          have h3 : at_ ≤ j := by omega
          rw [e, hb]
          simp [hj, h]
        · have : decide (j < at_ + (i + 1)) = decide (j < at_ + i) := by
            by_cases h1 : j < at_ + i
            · simp [h1, show j < at_ + (i + 1) by omega]
            · simp [h1, show ¬ j < at_ + (i + 1) by omega]
          rw [this]; simp [hj]
    · rw [turned, if_neg h, ih]
      cases (unpack l)[j]? with
      | none => rfl
      | some d =>
        simp only [Option.map_some]
        congr 2
        by_cases hj : j = at_ + i
        · have e : j - at_ = i := by omega
          rw [e, hb]; simp [h]
        · have : decide (j < at_ + (i + 1)) = decide (j < at_ + i) := by
            by_cases h1 : j < at_ + i
            · simp [h1, show j < at_ + (i + 1) by omega]
            · simp [h1, show ¬ j < at_ + (i + 1) by omega]
          rw [this]

/-- A burst in a row with its sum behind it: the sum is no longer the row's. -/
theorem burst_told (l : List Nat) (at_ b : Nat) (h256 : ∀ x ∈ l, x < 256) (hat : at_ + 32 ≤ 8 * l.length) (hb0 : b ≠ 0) (hb : b < 4294967296) (hz : crc ones l = 0#32) :
    crc ones (turned l at_ b 32) ≠ 0#32 := by
  intro h
  obtain ⟨j, hj⟩ : ∃ j, b.testBit j = true := by
    apply Classical.byContradiction
    intro hn
    apply hb0
    apply Nat.eq_of_testBit_eq
    intro i
    rw [Nat.zero_testBit]
    cases hi : b.testBit i with
    | false => rfl
    | true => exact absurd ⟨i, hi⟩ hn
  have hj32 : j < 32 := by
    apply Classical.byContradiction
    intro hn
    have : b < 2 ^ j := Nat.lt_of_lt_of_le (show b < 2 ^ 32 by omega) (Nat.pow_le_pow_right (by decide) (by omega))
    rw [Nat.testBit_lt_two_pow this] at hj
    cases hj
  have e : unpack (turned l at_ b 32) = List.zipWith (· ^^ ·) (unpack l) (List.replicate at_ false ++ (List.range 32).map (fun i => b.testBit i) ++ List.replicate (8 * l.length - (at_ + 32)) false) := by
    apply List.ext_getElem?
    intro k
    rw [turned_digit, List.getElem?_zipWith]
    by_cases hk : k < 8 * l.length
    · obtain ⟨d, hd⟩ : ∃ d, (unpack l)[k]? = some d := ⟨(unpack l)[k]'(by simpa using hk), by simp [hk]⟩
      rw [hd]
      by_cases h1 : k < at_
      · rw [List.append_assoc, List.getElem?_append_left (by simpa using h1), List.getElem?_replicate, if_pos h1]
        simp [show ¬ at_ ≤ k by omega]
      · rw [List.append_assoc, List.getElem?_append_right (by simp; omega)]
        by_cases h2 : k < at_ + 32
        · rw [List.getElem?_append_left (by simp; omega)]
          simp [show at_ ≤ k by omega, h2, show k - at_ < 32 by omega]
        · rw [List.getElem?_append_right (by simp; omega), List.getElem?_replicate, if_pos (by simp; omega)]
          simp [h2]
    · rw [List.getElem?_eq_none (by simp; omega)]; rfl
  rw [crc_digits _ _ (turned_lt l at_ b 32 h256), e] at h
  have h2 := feeds_xor (unpack l) (List.replicate at_ false ++ (List.range 32).map (fun i => b.testBit i) ++ List.replicate (8 * l.length - (at_ + 32)) false) ones 0#32 (by simp; omega)
  rw [BitVec.xor_zero] at h2
  rw [h2, ← crc_digits l ones h256, hz, BitVec.zero_xor] at h
  exact burst _ _ _ (by simp) j (by simp [List.getD, hj32, hj]) h
theorem burst_unlike (l : List Nat) (at_ b n : Nat) (h256 : ∀ x ∈ l, x < 256) (hat : at_ + 32 ≤ 8 * l.length) (hb0 : b ≠ 0) (hb : b < 4294967296) (hz : crc ones l = 0#32) :
    (turned l at_ b 32).drop n ≠ bytes4 (crc ones ((turned l at_ b 32).take n)).toNat := by
  intro h
  apply burst_told l at_ b h256 hat hb0 hb hz
  rw [← List.take_append_drop n (turned l at_ b 32), h]
  exact crc_whole _ _

end Go.Proofs.Ytejgkgnocgplbaa

/- Blocks: a sector of bytes, as many samples as fit, all samples; no program. -/
namespace Go.Proofs.Ytejgkgnocgplbaa
set_option linter.unusedVariables false
set_option linter.unusedSimpArgs false
open Go.RowKit Dg Cr

/-- The sum of bytes; bytes and noughts up to 124; these and their sum. -/
def sumN (l : List Nat) : Nat := (crc ones l).toNat
theorem sumN_lt (l : List Nat) : sumN l < 4294967296 := (crc ones l).isLt
def fillF (l : List Nat) : List Nat := l ++ List.replicate (124 - l.length) 0
def sealL (l : List Nat) : List Nat := fillF l ++ bytes4 (sumN (fillF l))
def sealOut (l : List Nat) : List Nat × Int := if 124 < l.length then ([], 4) else (sealL l, 0)
def wholeP (l : List Nat) : Prop := l.length = 128 ∧ l.drop 124 = bytes4 (sumN (l.take 124))
instance (l : List Nat) : Decidable (wholeP l) := by unfold wholeP; infer_instance
def unsealOut (l : List Nat) : List Nat × Int := if wholeP l then (l.take 124, 0) else ([], 2)
def openOut (l : List Nat) : List Int × Int := if wholeP l then decOut 2 (l.take 124) else ([], 2)
theorem length_fillF {l : List Nat} (h : l.length ≤ 124) : (fillF l).length = 124 := by simp [fillF]; omega
theorem length_sealL {l : List Nat} (h : l.length ≤ 124) : (sealL l).length = 128 := by simp [sealL, length_fillF h]
theorem fillF_lt {l : List Nat} (h : ∀ x ∈ l, x < 256) : ∀ x ∈ fillF l, x < 256 := fun x hx => by
  rcases List.mem_append.1 hx with h1 | h1
  · exact h x h1
  · have := List.eq_of_mem_replicate h1; omega
theorem sealL_lt {l : List Nat} (h : ∀ x ∈ l, x < 256) : ∀ x ∈ sealL l, x < 256 := fun x hx => by
  rcases List.mem_append.1 hx with h1 | h1
  · exact fillF_lt h x h1
  · exact bytes4_lt _ x h1
theorem take_sealL {l : List Nat} (h : l.length ≤ 124) : (sealL l).take 124 = fillF l := by
  unfold sealL
  rw [List.take_left' (length_fillF h)]
theorem drop_sealL {l : List Nat} (h : l.length ≤ 124) : (sealL l).drop 124 = bytes4 (sumN (fillF l)) := by
  unfold sealL
  rw [List.drop_left' (length_fillF h)]
theorem whole_seal {l : List Nat} (h : l.length ≤ 124) : wholeP (sealL l) := ⟨length_sealL h, by rw [drop_sealL h, take_sealL h]⟩
theorem unseal_seal {l : List Nat} (h : l.length ≤ 124) : unsealOut (sealL l) = (fillF l, 0) := by
  unfold unsealOut
  rw [if_pos (whole_seal h), take_sealL h]
theorem crc_sealL {l : List Nat} : crc ones (sealL l) = 0#32 := by unfold sealL sumN; exact crc_whole _ _
/-- Four bytes are those of a number. -/
theorem four_num (m : List Nat) (h : m.length = 4) (h256 : ∀ x ∈ m, x < 256) : ∃ s : BitVec 32, m = bytes4 s.toNat := by
  match m, h with
  | [a, b, c, d], _ =>
    have ha := h256 a (by simp)
    have hb := h256 b (by simp)
    have hc := h256 c (by simp)
    have hd := h256 d (by simp)
    refine ⟨BitVec.ofNat 32 (a * 16777216 + b * 65536 + c * 256 + d), ?_⟩
    have e : (BitVec.ofNat 32 (a * 16777216 + b * 65536 + c * 256 + d)).toNat = a * 16777216 + b * 65536 + c * 256 + d := by
      rw [BitVec.toNat_ofNat]
      omega
    rw [e]
    unfold bytes4
    congr 1
    · omega
    · congr 1
      · omega
      · congr 1
        · omega
        · congr 1
          omega
/-- A sector is whole just if its sum with the last four bytes is nought. -/
theorem whole_zero {l : List Nat} (h : l.length = 128) (h256 : ∀ x ∈ l, x < 256) : wholeP l ↔ crc ones l = 0#32 := by
  constructor
  · rintro ⟨-, h1⟩
    rw [← List.take_append_drop 124 l, h1]
    exact crc_whole _ _
  · intro h0
    refine ⟨h, ?_⟩
    obtain ⟨s, hs⟩ := four_num (l.drop 124) (by simp [h]) (fun x hx => h256 x (List.mem_of_mem_drop hx))
    rw [← List.take_append_drop 124 l, hs, crc_append, crc_bytes4] at h0
    have h1 := xor_eq_zero (upN_eq_zero _ h0)
    rw [hs]
    unfold sumN
    rw [h1]
theorem whole_burst {l : List Nat} (h : wholeP l) (h256 : ∀ x ∈ l, x < 256) {at_ b : Nat} (hat : at_ + 32 ≤ 1024) (hb0 : b ≠ 0) (hb : b < 4294967296) : ¬ wholeP (turned l at_ b 32) := fun h1 => by
  have hz := (whole_zero h.1 h256).1 h
  exact burst_unlike l at_ b 124 h256 (by have := h.1; omega) hb0 hb hz h1.2

/-- The power of two of levin's Scaled. -/
noncomputable def shiftOf (l : List Int) : Nat := Classical.choose (shift_may l)
theorem shiftOf_is (l : List Int) : mayX l → IsShift (autoZ l 0) (shiftOf l) := Classical.choose_spec (shift_may l)
/-- Encode of samples. -/
noncomputable def encB (l : List Int) : List Nat := pack (bestF l (shiftOf l) 19)
theorem encB_lt (l : List Int) : ∀ x ∈ encB l, x < 256 := pack_lt _
theorem encB_len (l : List Int) : (encB l).length ≤ 10000 := by
  have := bestF_len l (shiftOf l) 19
  unfold encB
  rw [length_pack]
  omega
theorem encB_verb {l : List Int} (h : mayX l) : (encB l).length ≤ 2 + 3 * l.length := by
  have := bestF_verb h (shiftOf l)
  unfold encB
  rw [length_pack]
  omega
theorem encB_out {l : List Int} (h : mayX l) : encOut l (shiftOf l) = (encB l, 0) := encOut_may h _
theorem encB_back {l : List Int} (h : mayX l) (k : Nat) : decOut 2 (encB l ++ List.replicate k 0) = (l, 0) := by
  obtain ⟨i, -, hi, -⟩ := bestF_any h (shiftOf l)
  have h1 := decD_pack hi (List.replicate k 0)
  rw [unpack_zeros, noOnes_zeros, if_pos rfl] at h1
  unfold decOut encB
  rw [h1]
theorem open_seal {l : List Int} (h : mayX l) (hl : (encB l).length ≤ 124) : openOut (sealL (encB l)) = (l, 0) := by
  unfold openOut
  rw [if_pos (whole_seal hl), take_sealL hl]
  exact encB_back h _
/-- The greatest number of at most k samples that fit. -/
noncomputable def packM (x : List Int) : Nat → Nat
  | 0 => 0
  | k + 1 => if (encB (x.take (k + 1))).length ≤ 124 then k + 1 else packM x k
theorem packM_le (x : List Int) (k : Nat) : packM x k ≤ k := by
  induction k with
  | zero => exact Nat.le_refl _
  | succ k ih =>
    unfold packM
    split
    · exact Nat.le_refl _
    · omega
theorem packM_fits (x : List Int) (k : Nat) (h : 0 < packM x k) : (encB (x.take (packM x k))).length ≤ 124 := by
  induction k with
  | zero => simp [packM] at h
  | succ k ih =>
    unfold packM at h ⊢
    split
    · rename_i h1; exact h1
    · rename_i h1
      rw [if_neg h1] at h
      exact ih h
theorem packM_most (x : List Int) (k : Nat) : ∀ j, packM x k < j → j ≤ k → 124 < (encB (x.take j)).length := by
  induction k with
  | zero => intro j h1 h2; omega
  | succ k ih =>
    intro j h1 h2
    unfold packM at h1
    split at h1
    · omega
    · rename_i h3
      by_cases e : j = k + 1
      · subst e; omega
      · exact ih j h1 (by omega)
theorem may_take {x : List Int} (hS : allS x) {k : Nat} (hk1 : 1 ≤ k) (hk64 : k ≤ 64) (hkl : k ≤ x.length) : mayX (x.take k) :=
  ⟨by simp; omega, by simp; omega, hS.take k⟩
theorem packM_verb {x : List Int} (hS : allS x) (k : Nat) (hk64 : k ≤ 64) (hkl : k ≤ x.length) : min k 40 ≤ packM x k := by
  induction k with
  | zero => simp
  | succ k ih =>
    unfold packM
    split
    · omega
    · rename_i h1
      have h2 := ih (by omega) (by omega)
      by_cases hk : k + 1 ≤ 40
      · have h3 := encB_verb (may_take hS (k := k + 1) (by omega) hk64 hkl)
        simp at h3
        omega
      · omega
/-- How many samples a block takes. -/
noncomputable def manyN (x : List Int) : Nat := packM x (min x.length 64)
noncomputable def packL (x : List Int) : List Nat := sealL (encB (x.take (manyN x)))
noncomputable def packOut (x : List Int) : List Nat × Nat × Int := if x.length = 0 then ([], 0, 4) else if allS x then (packL x, manyN x, 0) else ([], 0, 8)
theorem manyN_le (x : List Int) : manyN x ≤ x.length ∧ manyN x ≤ 64 := by
  have := packM_le x (min x.length 64)
  unfold manyN
  omega
theorem manyN_least {x : List Int} (hS : allS x) : min x.length 40 ≤ manyN x := by
  have := packM_verb hS (min x.length 64) (by omega) (by omega)
  unfold manyN
  omega
theorem manyN_pos {x : List Int} (hS : allS x) (h : 1 ≤ x.length) : 1 ≤ manyN x := by
  have := manyN_least hS
  omega
theorem manyN_fits {x : List Int} (hS : allS x) (h : 1 ≤ x.length) : (encB (x.take (manyN x))).length ≤ 124 := packM_fits x _ (manyN_pos hS h)
theorem manyN_may {x : List Int} (hS : allS x) (h : 1 ≤ x.length) : mayX (x.take (manyN x)) := may_take hS (manyN_pos hS h) (manyN_le x).2 (manyN_le x).1
theorem packL_open {x : List Int} (hS : allS x) (h : 1 ≤ x.length) : openOut (packL x) = (x.take (manyN x), 0) := open_seal (manyN_may hS h) (manyN_fits hS h)
theorem packL_len {x : List Int} (hS : allS x) (h : 1 ≤ x.length) : (packL x).length = 128 := length_sealL (manyN_fits hS h)
theorem packL_lt (x : List Int) : ∀ y ∈ packL x, y < 256 := sealL_lt (encB_lt _)
theorem manyN_more {x : List Int} {k : Nat} (h1 : manyN x < k) (h2 : k ≤ x.length) (h3 : k ≤ 64) : 124 < (encB (x.take k)).length := packM_most x _ k h1 (by omega)
/-- All samples, block behind block. -/
noncomputable def allT : Nat → List Int → List (List Nat × Nat)
  | 0, _ => []
  | f + 1, x => if x.length = 0 then [] else (packL x, manyN x) :: allT f (x.drop (manyN x))
noncomputable def blocksOf (x : List Int) : List (List Nat × Nat) := allT x.length x
theorem allS_drop {x : List Int} (h : allS x) (k : Nat) : allS (x.drop k) := fun y hy => h y (List.mem_of_mem_drop hy)
theorem allT_fuel {x : List Int} (hS : allS x) : ∀ f g, x.length ≤ f → x.length ≤ g → allT f x = allT g x := by
  intro f
  induction f generalizing x with
  | zero =>
    intro g h1 h2
    cases g with
    | zero => rfl
    | succ g => simp only [allT]; rw [if_pos (by omega)]
  | succ f ih =>
    intro g h1 h2
    by_cases h0 : x.length = 0
    · cases g with
      | zero => simp [allT, h0]
      | succ g => simp [allT, h0]
    · have hp := manyN_pos hS (by omega)
      cases g with
      | zero => omega
      | succ g =>
        simp only [allT]
        rw [if_neg h0, if_neg h0, ih (allS_drop hS _) g (by simp; omega) (by simp; omega)]
theorem blocksOf_nil {x : List Int} (h : x.length = 0) : blocksOf x = [] := by unfold blocksOf; rw [h]; rfl
theorem blocksOf_cons {x : List Int} (hS : allS x) (h : 1 ≤ x.length) : blocksOf x = (packL x, manyN x) :: blocksOf (x.drop (manyN x)) := by
  obtain ⟨f, hf⟩ : ∃ f, x.length = f + 1 := ⟨x.length - 1, by omega⟩
  have hp := manyN_pos hS h
  unfold blocksOf
  rw [hf]
  simp only [allT]
  rw [if_neg (by omega), allT_fuel (allS_drop hS _) f (x.drop (manyN x)).length (by simp; omega) (Nat.le_refl _)]

end Go.Proofs.Ytejgkgnocgplbaa

/- Slices of bytes that can be read, their parts; appends of them to rows of the call's own. -/
namespace Go.Proofs.Ytejgkgnocgplbaa
set_option linter.unusedVariables false
set_option linter.unusedSimpArgs false
open Go.RowKit Dg

/-- A slice of bytes that can be read, and its room. -/
structure Bs (w : World) (a : Option Addr) (cap : Nat) (l : List Nat) : Prop where
  at_ : SlAt w (.slice a l.length cap) l
  le : l.length ≤ cap
  nil : a = none → cap = 0
theorem Bs.below {w w' : World} {a : Option Addr} {cap : Nat} {l : List Nat} (h : Bs w a cap l) (hb : Below w.heap.size w w') : Bs w' a cap l := ⟨h.at_.below hb, h.le, h.nil⟩
theorem Bs.kept {w w' : World} {a : Option Addr} {cap : Nat} {l : List Nat} {F : Nat → Prop} (h : Bs w a cap l) (hk : Kept F w w') (hF : l ≠ [] → ∀ k, (Value.slice a l.length cap).ownBlock = some k → ¬ F k) : Bs w' a cap l := ⟨h.at_.kept' hk hF, h.le, h.nil⟩
/-- Where b[k:] lies. -/
def lowA (a : Option Addr) (cap k : Nat) : Option Addr := if cap = k then a else a.map (·.add k)
theorem Bs.lo {w : World} {a : Option Addr} {cap : Nat} {l : List Nat} (h : Bs w a cap l) (k : Nat) (hk : k ≤ l.length) : Bs w (lowA a cap k) (cap - k) (l.drop k) := by
  unfold lowA
  by_cases hck : cap = k
  · have hl := h.le
    rw [if_pos hck]
    refine ⟨?_, by simp; omega, fun e => by have := h.nil e; omega⟩
    rw [List.drop_eq_nil_of_le (by omega)]
    exact SlAt.none_of _ _ _ rfl
  · rw [if_neg hck]
    cases a with
    | none => have := h.nil rfl; have := h.le; omega
    | some x =>
      refine ⟨?_, by have := h.le; simp; omega, fun e => by cases e⟩
      rw [List.length_drop]
      exact h.at_.drop k hk rfl
theorem Bs.hi {w : World} {a : Option Addr} {cap : Nat} {l : List Nat} (h : Bs w a cap l) (k : Nat) (hk : k ≤ l.length) : SlAt w (.slice a k cap) (l.take k) := h.at_.take k hk rfl
theorem Bs.of_row {w : World} {a : Option Addr} {len cap n : Nat} {zs : List Int} (hr : IsRow .u8 w a len cap zs) : ∃ l : List Nat, l.length = min len n ∧ (∀ x ∈ l, x < 256) ∧ Bs w a cap l ∧ len ≤ cap ∧ cap ≤ maxLen ∧ (a = none → len = 0 ∧ cap = 0) := by
  obtain ⟨l, hll, h256, hsl, hc1, hc2, hc3⟩ := cut_row (n := n) hr
  exact ⟨l, hll, h256, ⟨by rw [hll]; exact hsl, by omega, fun e => (hc3 e).2⟩, hc1, hc2, hc3⟩
theorem OwnBytes.bs {w : World} {base : Nat} {v : Value} {l : List Nat} (h : OwnBytes w base v l) : ∃ a cap, v = .slice a l.length cap ∧ Bs w a cap l := by
  have h' : w.ownsRow base 5 1 v l.length (u8s l) := h
  rcases h.2 with ⟨rfl, hn⟩ | ⟨g, cap, cur, rfl, hb, hh, hn, _, hcs, htake⟩
  · exact ⟨none, 0, by rw [hn], by rw [hn]; exact SlAt.of_owns h', by omega, fun _ => rfl⟩
  · exact ⟨some ⟨g, 0, none⟩, cap, rfl, SlAt.of_owns h', hn, fun e => by cases e⟩

theorem slice_hi (a : Option Addr) (n cap k : Nat) (hk : k ≤ cap) (W : World) : (Instr.sliceAt 32 (.slice a n cap) none (some (.int .i64 (k : Int))) none).run Try.prog W = .ok (.slice a k cap) W := by
  obtain ⟨i0, hi, hz0, hz1, hz2⟩ := info_parts Try.info5
  simp [Instr.sliceAt, Instr.slice, Instr.sliceBounds, Instr.sliceBound, asIntOf, run_underlying Try.underlying32, sizeOf, typeInfo, hi, hk]
  cases a <;> simp [Addr.add]
theorem slice_lo (a : Option Addr) (n cap k : Nat) (hk : k ≤ n) (W : World) : (Instr.sliceAt 32 (.slice a n cap) (some (.int .i64 (k : Int))) none none).run Try.prog W = .ok (.slice (lowA a cap k) (n - k) (cap - k)) W := by
  obtain ⟨i0, hi, hz0, hz1, hz2⟩ := info_parts Try.info5
  simp [Instr.sliceAt, Instr.slice, Instr.sliceBounds, Instr.sliceBound, asIntOf, run_underlying Try.underlying32, sizeOf, typeInfo, hi, hz1, hk, lowA]

/-- 'append(s, x...)' of bytes to a row of the call's own. -/
theorem wpList_append_bytes (w : World) {ops : Array Oper} {rest : List Oper} {o : Oper} {a : Act} {Q : Exit → Act → World → Prop}
    (hgd : o.guard = none) (s x : Operand) (ho : o.op = .call { callee := .builtin .append, args := #[s, x], argTypes := #[32, 32] })
    (base : Nat) (v : Value) (l : List Nat) (hs : a.eval s = v) (hown : OwnBytes w base v l) (xa : Option Addr) (xc : Nat) (m : List Nat) (hx : a.eval x = .slice xa m.length xc) (hm : Bs w xa xc m)
    (hl : l.length + m.length ≤ 1000000) (hbase : base ≤ w.heap.size)
    (h : ∀ v' w', Hid (OwnBytes w' base v' (l ++ m)) → Hid (Kept (fun k => v.ownBlock = some k) w w') → Hid (∀ k, v'.ownBlock = some k → v.ownBlock = some k ∨ w.heap.size ≤ k) → wpList Try.prog ops Q rest (a.put o.dst v') w') : wpList Try.prog ops Q (o :: rest) a w := by
  obtain ⟨i0, hi, hz0, hz1, hz2⟩ := info_parts Try.info5
  have hown' : w.ownsRow base 5 1 v l.length (u8s l) := hown
  cases xa with
  | none =>
    have hc := hm.nil rfl
    have hle := hm.le
    have hm0 : m = [] := List.eq_nil_of_length_eq_zero (by omega)
    subst hm0 hc
    refine wpList_append_own_none hgd s x 32 ho base 5 i0 1 Try.underlying32 hi v l.length (u8s l) hs hown' hx ?_
    refine h v w ?_ (Kept.refl _ _) (fun k hk => .inl hk)
    rw [List.append_nil]; exact hown
  | some ad =>
    have hcell : ∀ j u, (u8s m)[j]? = some u → w.cell? (ad.add j) = some u := by
      intro j u hu
      rw [u8s_get] at hu
      obtain ⟨y, hy, rfl⟩ := Option.map_eq_some_iff.1 hu
      obtain ⟨b, off, e, hc⟩ := sl_cell hm.at_ hy
      cases e
      have hadd : (⟨b, off, none⟩ : Addr).add j = ⟨b, off + j, none⟩ := by simp [Addr.add]
      rw [hadd]
      exact hc
    have hone : ∀ u ∈ u8s m, u.oneCell' = true := by intro u hu; simp [u8s] at hu; obtain ⟨y, _, rfl⟩ := hu; rfl
    by_cases hne : m = []
    · subst hne
      rcases hown'.2 with ⟨hv, hn⟩ | ⟨g, cap, cur, hv, hb, hh, hn, hcm, hcs, htake⟩
      · refine wpList_append_own _ hgd s x 32 ho base 5 i0 (.int .u8 0) 1 1 Try.underlying32 hi hz0 hz1 hz2 rfl (by decide) v l.length (u8s l) hs hown' ad 0 xc [] hx rfl (fun j u hu => by simp at hu) (fun u hu => by simp at hu) (by unfold maxLen; omega) (by omega) hbase ?_
        intro v' w' h1 h2 h3
        have hv' : v' = .slice none 0 0 := h3.2 ⟨hv, rfl⟩
        refine h v' w' ?_ (Kept.grown h2) (fun k hk => by rw [hv'] at hk; cases hk)
        show World.ownsRow _ _ _ _ _ _ _
        simpa [u8s_append] using h1
      · refine wpList_append_fits w hgd s x 32 ho base 5 i0 1 Try.underlying32 hi hz1 g l.length cap (u8s l) (hs.trans hv) (hv ▸ hown') ad 0 xc [] hx rfl (fun j u hu => by simp at hu) (fun u hu => by simp at hu) (by omega) ?_
        intro w' h1 h2
        refine h _ w' ?_ ?_ (fun k hk => .inl ?_)
        · show World.ownsRow _ _ _ _ _ _ _
          simpa [u8s_append] using h1
        · have := Kept.grown h2
          rw [hv]; exact this
        · rw [hv]; exact hk
    · refine wpList_append_mine _ hgd s x 32 ho base 5 i0 (.int .u8 0) 1 1 Try.underlying32 hi hz0 hz1 hz2 rfl (by decide) v l.length (u8s l) hs hown' ad m.length xc (u8s m) hx (by simp) hcell hone (List.length_pos_iff.2 hne) (by unfold maxLen; omega) (by omega) hbase ?_
      intro g cap w' h1 h2 h3
      refine h _ w' ?_ (Kept.grown h2.out) (fun k hk => ?_)
      · show World.ownsRow _ _ _ _ _ _ _
        rw [u8s_append, List.length_append]; exact h1.out
      · simp [Value.ownBlock] at hk
        subst hk
        exact h3.out

end Go.Proofs.Ytejgkgnocgplbaa

/- What the laws of block lean on: a bundle of contracts over a coder that lies somewhere between two places of memory. -/
namespace Go.Proofs.Ytejgkgnocgplbaa
set_option linter.unusedVariables false
set_option linter.unusedSimpArgs false
open Go.RowKit Dg Cr

/-- The blocks of a coder: from base on, below top. -/
def InCo (base top k : Nat) : Prop := base ≤ k ∧ k < top
/-- Rows of bytes of one's own in a slice. -/
def RowsB (w : World) (B : Nat) (a : Option Addr) (R : List (List Nat)) : Prop :=
  ∀ (r : Nat) (L : List Nat), R[r]? = some L → ∃ b off g c, a = some ⟨b, off, none⟩ ∧ B ≤ b ∧ w.cell? ⟨b, off + r, none⟩ = some (.slice (some ⟨g, 0, none⟩) L.length c) ∧ OwnBytes w B (.slice (some ⟨g, 0, none⟩) L.length c) L
theorem RowsB.kept {w w' : World} {B : Nat} {a : Option Addr} {R : List (List Nat)} {F : Nat → Prop} (h : RowsB w B a R) (hk : Kept F w w') (hF : ∀ k, F k → k < B ∨ w.heap.size ≤ k) : RowsB w' B a R := by
  intro r L hL
  obtain ⟨b, off, g, c, h1, h2, h3, h4⟩ := h r L hL
  have hb := World.block_lt_of_cell? w _ h3
  refine ⟨b, off, g, c, h1, h2, ?_, ?_⟩
  · rw [hk.cell hb (fun hf => by rcases hF b hf with h | h; omega; exact absurd hb (Nat.not_lt.2 h))]
    exact h3
  · refine ownsRow_other h4 hk (fun k hk' hf => ?_)
    have := World.ownsRow.lt h4 k hk'
    rcases hF k hf with h | h <;> omega
/-- What is known of a coder of package block. -/
structure Blk (Co : World → Nat → Nat → Nat → Nat → Nat → Prop) : Prop where
  lt : ∀ {w b base top n m}, Co w b base top n m → base ≤ b ∧ b < top ∧ top ≤ w.heap.size
  keep : ∀ {w w' b base top n m} {F : Nat → Prop}, Co w b base top n m → Kept F w w' → (∀ k, InCo base top k → ¬ F k) → Co w' b base top n m
  newB : ∀ w, Calls Try.prog 7 #[] w fun e w' => ∃ b top, e = .returned (.pointer (some ⟨b, 0, none⟩)) ∧ Co w' b w.heap.size top 0 0 ∧ Below w.heap.size w w'
  sealB : ∀ w b base top n m a cap l R, Co w b base top n m → Bs w a cap l → (l ≠ [] → ∀ y, a = some y → ¬ InCo base top y.block) → l.length ≤ 100000 → n ≤ 100000 → (∀ x ∈ l, x < 256) → R = sealOut l →
    Calls Try.prog 13 #[.pointer (some ⟨b, 0, none⟩), .slice a l.length cap] w fun e w' => ∃ v, e = .returned (.tuple #[v, .int .i64 R.2]) ∧ OwnBytes w' w.heap.size v R.1 ∧ Co w' b base top (if R.2 = 0 then n + 1 else n) m ∧ Kept (InCo base top) w w'
  allNo : ∀ w b base top n m a cap x, Co w b base top n m → Ns w a cap x → (x ≠ [] → ∀ y, a = some y → ¬ InCo base top y.block) → x.length ≤ 100000 → ¬ allS x →
    Calls Try.prog 8 #[.pointer (some ⟨b, 0, none⟩), .slice a x.length cap] w fun e w' => ∃ v u, e = .returned (.tuple #[v, u, .int .i64 8]) ∧ Co w' b base top n m ∧ Kept (InCo base top) w w'
  allB : ∀ w b base top n m a cap x k, Co w b base top n m → Ns w a cap x → (x ≠ [] → ∀ y, a = some y → ¬ InCo base top y.block) → x.length ≤ 100000 → n ≤ 100000 → allS x → k = (blocksOf x).length →
    Calls Try.prog 8 #[.pointer (some ⟨b, 0, none⟩), .slice a x.length cap] w fun e w' => ∃ va ca vb cb, e = .returned (.tuple #[.slice va k ca, .slice vb k cb, .int .i64 0]) ∧ RowsB w' w.heap.size va ((blocksOf x).map (·.1)) ∧ OwnInts w' w.heap.size (.slice vb k cb) ((blocksOf x).map fun p => ((p.2 : Nat) : Int)) ∧ Co w' b base top (n + k) m ∧ Kept (InCo base top) w w'

def UnsealC (Co : World → Nat → Nat → Nat → Nat → Nat → Prop) : Prop := ∀ w b base top n m a cap l R, Co w b base top n m → Bs w a cap l → (l ≠ [] → ∀ y, a = some y → ¬ InCo base top y.block) → l.length ≤ 100000 → m ≤ 100000 → (∀ x ∈ l, x < 256) → R = unsealOut l →
    Calls Try.prog 14 #[.pointer (some ⟨b, 0, none⟩), .slice a l.length cap] w fun e w' => ∃ v, e = .returned (.tuple #[v, .int .i64 R.2]) ∧ OwnBytes w' w.heap.size v R.1 ∧ Co w' b base top n (if R.2 = 0 then m + 1 else m) ∧ Kept (InCo base top) w w'
def PackC (Co : World → Nat → Nat → Nat → Nat → Nat → Prop) : Prop := ∀ w b base top n m a cap x R, Co w b base top n m → Ns w a cap x → (x ≠ [] → ∀ y, a = some y → ¬ InCo base top y.block) → x.length ≤ 100000 → n ≤ 100000 → R = packOut x →
    Calls Try.prog 9 #[.pointer (some ⟨b, 0, none⟩), .slice a x.length cap] w fun e w' => ∃ v, e = .returned (.tuple #[v, .int .i64 (R.2.1 : Nat), .int .i64 R.2.2]) ∧ OwnBytes w' w.heap.size v R.1 ∧ Co w' b base top (if R.2.2 = 0 then n + 1 else n) m ∧ Kept (InCo base top) w w'

/-- What a call on the coder does to what lies from W on. -/
theorem co_below {W w w' : World} {base top : Nat} (hb : Below W.heap.size W w) (hk : Kept (InCo base top) w w') (hB : W.heap.size ≤ base) : Below W.heap.size W w' :=
  hk.below_of hb (fun k hf => Nat.le_trans hB hf.1) hb.size
theorem Blk.grow {Co : World → Nat → Nat → Nat → Nat → Nat → Prop} (C : Blk Co) {w w' : World} {b base top n m : Nat} (h : Co w b base top n m) (hb : Below w.heap.size w w') : Co w' b base top n m :=
  C.keep (F := fun _ => False) h (Kept.of_below hb) (fun _ _ h => h)
theorem Blk.draws {Co : World → Nat → Nat → Nat → Nat → Nat → Prop} (C : Blk Co) {w : World} {b base top n m : Nat} (h : Co w b base top n m) (d : Nat) : Co (w.drewN d) b base top n m :=
  C.keep (F := fun _ => False) h ⟨rfl, rfl, rfl, Nat.le_refl _, fun _ _ _ => rfl⟩ (fun _ _ h => h)

theorem packOut_len (x : List Int) : (packOut x).1.length ≤ 128 := by
  unfold packOut
  split
  · simp
  · split
    · rename_i h0 hS
      show (packL x).length ≤ 128
      rw [packL_len hS (by omega)]
      exact Nat.le_refl _
    · simp
theorem Ns.lt {w : World} {a : Option Addr} {cap : Nat} {x : List Int} (h : Ns w a cap x) (hx : x ≠ []) : ∀ y, a = some y → y.block < w.heap.size := by
  intro y hy
  cases x with
  | nil => exact absurd rfl hx
  | cons v x =>
    obtain ⟨b0, o0, e0, hc0⟩ := h.at_ 0 v rfl
    rw [hy] at e0
    cases e0
    exact World.block_lt_of_cell? w _ hc0
theorem Ns.kept {w w' : World} {a : Option Addr} {cap : Nat} {x : List Int} {F : Nat → Prop} (h : Ns w a cap x) (hk : Kept F w w') (hF : x ≠ [] → ∀ y, a = some y → ¬ F y.block) : Ns w' a cap x := by
  cases x with
  | nil => exact ⟨IntsAt.nil _ _, h.le, h.nil⟩
  | cons v x => exact ⟨h.at_.kept hk (hF (by simp)), h.le, h.nil⟩
theorem fenc_n (w : World) (s n : Nat) (a : Option Addr) (cap : Nat) (l : List Int) (hn : l.length = n) (hl : Ns w a cap l) (hll : l.length ≤ 1000000) (hs : mayX l → IsShift (autoZ l 0) s) (R : List Nat × Int) (hR : R = encOut l s) :
    Calls Try.prog 24 #[.slice a n cap] w fun e w' => GaveN w w' R e := by
  subst hn
  exact fenc_any w s a cap l hl hll hs R hR
theorem Ns.part {w : World} {a : Option Addr} {cap : Nat} {l : List Int} (h : Ns w a cap l) (k : Nat) (hk : k ≤ l.length) : Ns w a cap (l.take k) := ⟨h.at_.take k, by have := h.le; simp; omega, h.nil⟩
theorem far_block {F : Nat → Prop} {a : Option Addr} {n c : Nat} (h : ∀ y, a = some y → ¬ F y.block) : ∀ k, (Value.slice a n c).ownBlock = some k → ¬ F k := by
  intro k hk
  cases a with
  | none => simp [Value.ownBlock] at hk
  | some y =>
    simp [Value.ownBlock] at hk
    subst hk
    exact h y rfl
/-- What was made behind the coder is none of its own. -/
theorem far_own {w : World} {B base top : Nat} {e : TypeId} {a : Option Addr} {n m c : Nat} {xs : List Value} (h : w.ownsRow B e 1 (.slice a n c) m xs) (hB : top ≤ B) : ∀ y, a = some y → ¬ InCo base top y.block := by
  intro y hy hf
  subst hy
  rcases h.2 with ⟨e1, -⟩ | ⟨g', cap', cur, hv, hgb, -⟩
  · cases e1
  · cases hv
    have h1 : g' < top := hf.2
    omega
theorem far_old {w : World} {base top : Nat} {a : Option Addr} {n c : Nat} {l : List Nat} (h : SlAt w (.slice a n c) l) (hB : w.heap.size ≤ base) : l ≠ [] → ∀ y, a = some y → ¬ InCo base top y.block := by
  intro hne y hy hf
  have h1 := SlAt.lt h hne y.block (by rw [hy]; rfl)
  have h2 := hf.1
  omega
theorem Bs.co {w w' : World} {a : Option Addr} {cap base top : Nat} {l : List Nat} (h : Bs w a cap l) (hk : Kept (InCo base top) w w') (hf : l ≠ [] → ∀ y, a = some y → ¬ InCo base top y.block) : Bs w' a cap l := h.kept hk (fun hne => far_block (hf hne))
theorem own_co {w w' : World} {B base top : Nat} {e : TypeId} {a : Option Addr} {n m c : Nat} {xs : List Value} (h : w.ownsRow B e 1 (.slice a n c) m xs) (hk : Kept (InCo base top) w w') (hB : top ≤ B) : w'.ownsRow B e 1 (.slice a n c) m xs :=
  ownsRow_other h hk (far_block (far_own h hB))
set_option maxHeartbeats 1000000 in
theorem wakes9_any {Co : World → Nat → Nat → Nat → Nat → Nat → Prop} (C : Blk Co) (w : World) : Calls Try.prog 11 #[] w fun e w' => e = .returned (.bool true) ∧ Below w.heap.size w w' := by
  obtain ⟨S, hS⟩ : ∃ S, S = sealL [] := ⟨_, rfl⟩
  have hSl : ((S.length : Int) == 128) = true := beq_iff_eq.2 (by rw [hS, length_sealL (by simp)]; rfl)
  have HR : Hid ((S, 0) = sealOut []) := by show _ = _; unfold sealOut; rw [if_neg (by simp), hS]
  have HK : Hid (0 = (blocksOf []).length) := by show _ = _; rw [blocksOf_nil rfl]; rfl
  clear hS
  go_enter Try.func11, Try.ntmps11
  go_wp2_with fail
  refine (C.newB w).mono ?_
  rintro e w1 ⟨b, top, rfl, hco, hb1⟩
  have HCO := hid_of hco
  have HB1 := hid_of hb1
  clear hco hb1
  go_wp2_with fail
  refine (C.allB w1 b _ top 0 0 none 0 [] 0 HCO.out ⟨IntsAt.nil _ _, Nat.le_refl _, fun _ => rfl⟩ (fun h => absurd rfl h) (by simp) (by decide) (fun x hx => by simp at hx) HK.out).mono ?_
  rintro e w2 ⟨va, ca, vb, cb, rfl, -, -, hco2, hk2⟩
  have HCO2 := hid_of hco2
  have HB2 := hid_of (co_below HB1.out hk2 (Nat.le_refl _))
  clear hco2 hk2
  go_wp2_with fail
  refine (C.sealB w2 b _ top _ 0 none 0 [] _ HCO2.out ⟨SlAt.nil _, Nat.le_refl _, fun _ => rfl⟩ (fun h => absurd rfl h) (by simp) (by decide) (fun x hx => by simp at hx) HR.out).mono ?_
  rintro e w3 ⟨v3, rfl, h3, hco3, hk3⟩
  obtain ⟨a3, c3, rfl, -⟩ := SlAt.of_owns h3
  have HB3 := hid_of (co_below HB2.out hk3 (Nat.le_refl _))
  clear h3 hco3 hk3
  go_wp2
  go_ret
  exact ⟨rfl, HB3.out⟩

end Go.Proofs.Ytejgkgnocgplbaa

/- Blocks one behind the other; rests of rows of numbers. -/
namespace Go.Proofs.Ytejgkgnocgplbaa
set_option linter.unusedVariables false
set_option linter.unusedSimpArgs false
open Go.RowKit Dg Cr

theorem allT_len (f : Nat) (x : List Int) : (allT f x).length ≤ f := by
  induction f generalizing x with
  | zero => exact Nat.le_refl _
  | succ f ih =>
    unfold allT
    split
    · simp
    · have := ih (x.drop (manyN x))
      simp
      exact this
theorem blocksOf_len (x : List Int) : (blocksOf x).length ≤ x.length := allT_len _ _
theorem blocksOf_end {x : List Int} (hS : allS x) (h : blocksOf x = []) : x.length = 0 := by
  rcases Nat.eq_zero_or_pos x.length with h0 | h0
  · exact h0
  · rw [blocksOf_cons hS h0] at h
    cases h
/-- The block that comes next. -/
theorem blocksOf_step {X R : List Int} {i : Nat} (hS : allS R) (h : blocksOf R = (blocksOf X).drop i) (hi : i < (blocksOf X).length) : 1 ≤ R.length ∧ (blocksOf X)[i]? = some (packL R, manyN R) ∧ blocksOf (R.drop (manyN R)) = (blocksOf X).drop (i + 1) := by
  have hpos : 1 ≤ R.length := by
    rcases Nat.eq_zero_or_pos R.length with h0 | h0
    · rw [blocksOf_nil h0] at h
      have := congrArg List.length h
      simp at this
      omega
    · exact h0
  have h1 := blocksOf_cons hS hpos
  rw [h] at h1
  refine ⟨hpos, ?_, ?_⟩
  · have h2 := congrArg (fun q : List (List Nat × Nat) => q[0]?) h1
    simpa using h2
  · have h2 := congrArg List.tail h1
    rw [List.tail_drop] at h2
    exact h2.symm
theorem Ns.rest {w : World} {a : Option Addr} {cap : Nat} {l : List Int} (h : Ns w a cap l) (k : Nat) (hk : k ≤ l.length) : Ns w (lowI a cap k) (cap - k) (l.drop k) := by
  refine ⟨h.at_.drop h.le k, by have := h.le; simp; omega, fun e => ?_⟩
  unfold lowI at e
  split at e
  · omega
  · cases a with
    | none => have := h.nil rfl; omega
    | some y => cases e
theorem lowI_block {a : Option Addr} {cap k B : Nat} (h : ∀ y, a = some y → y.block < B) : ∀ y, lowI a cap k = some y → y.block < B := by
  intro y hy
  unfold lowI at hy
  split at hy
  · exact h y hy
  · cases a with
    | none => cases hy
    | some z =>
      cases hy
      have h1 := h z rfl
      have e : (z.add k).block = z.block := by unfold Addr.add; split <;> rfl
      rw [e]
      exact h1
theorem allS_app {x y : List Int} (hx : allS x) (hy : allS y) : allS (x ++ y) := fun v hv => by
  rcases List.mem_append.1 hv with h | h
  · exact hx v h
  · exact hy v h
/-- Rows of bytes of one's own in a slice, all of it below T. -/
def RowsT (w : World) (B T : Nat) (a : Option Addr) (R : List (List Nat)) : Prop :=
  ∀ (r : Nat) (L : List Nat), R[r]? = some L → ∃ b off g c, a = some ⟨b, off, none⟩ ∧ B ≤ b ∧ b < T ∧ g < T ∧ w.cell? ⟨b, off + r, none⟩ = some (.slice (some ⟨g, 0, none⟩) L.length c) ∧ OwnBytes w B (.slice (some ⟨g, 0, none⟩) L.length c) L
theorem RowsB.below {w : World} {B : Nat} {a : Option Addr} {R : List (List Nat)} (h : RowsB w B a R) : RowsT w B w.heap.size a R := fun r L hL => by
  obtain ⟨b, off, g, c, h1, h2, h3, h4⟩ := h r L hL
  exact ⟨b, off, g, c, h1, h2, World.block_lt_of_cell? w _ h3, (World.ownsRow.lt h4 g rfl).2, h3, h4⟩
theorem RowsT.kept {w w' : World} {B T : Nat} {a : Option Addr} {R : List (List Nat)} {F : Nat → Prop} (h : RowsT w B T a R) (hk : Kept F w w') (hF : ∀ k, F k → k < B ∨ T ≤ k) : RowsT w' B T a R := by
  intro r L hL
  obtain ⟨b, off, g, c, h1, h2, h3, h4, h5, h6⟩ := h r L hL
  have hb := World.block_lt_of_cell? w _ h5
  refine ⟨b, off, g, c, h1, h2, h3, h4, ?_, ?_⟩
  · rw [hk.cell hb (fun hf => by rcases hF b hf with h | h <;> omega)]
    exact h5
  · refine ownsRow_other h6 hk (fun k hk' hf => ?_)
    have h7 := World.ownsRow.lt h6 k hk'
    simp [Value.ownBlock] at hk'
    rcases hF k hf with h | h <;> omega
/-- Every block but the last one has 40 samples at least. -/
theorem blocksOf_forty {X R : List Int} {i : Nat} (hS : allS R) (hnext : blocksOf (R.drop (manyN R)) = (blocksOf X).drop (i + 1)) (hi : i + 1 < (blocksOf X).length) : 40 ≤ manyN R := by
  have h1 := manyN_least hS
  rcases Nat.lt_or_ge (manyN R) 40 with h | h
  · exfalso
    have h2 := (manyN_le R).1
    have h3 : (R.drop (manyN R)).length = 0 := by simp; omega
    rw [blocksOf_nil h3] at hnext
    have := congrArg List.length hnext
    simp at this
    omega
  · exact h

end Go.Proofs.Ytejgkgnocgplbaa

/- Samples that go on: law08's Tone. -/
namespace Go.Proofs.Ytejgkgnocgplbaa
set_option linter.unusedVariables false
set_option linter.unusedSimpArgs false
open Go.RowKit Dg

theorem within_quiet8 (v n : Int) (w : World) (k : Nat) (hv1 : -9223372036854775808 ≤ v) (hv2 : v ≤ 9223372036854775807) (hn1 : 1 ≤ n) (hn2 : n ≤ 4611686018427387904) :
    Calls Try.prog 15 #[.int .i64 v, .int .i64 n] (w.drewN k) fun e w'' => e = .returned (.int .i64 (v % n)) ∧ ∃ m, w'' = w.drewN m :=
  (within_any v n (w.drewN k) hv1 hv2 hn1 hn2).mono fun e w'' ⟨h1, h2⟩ => ⟨h1, k, h2.symm⟩
theorem prod_in {b i B I : Int} (h1 : -B ≤ b) (h2 : b ≤ B) (h3 : 0 ≤ i) (h4 : i ≤ I) (hB : 0 ≤ B) : -(B * I) ≤ b * i ∧ b * i ≤ B * I := by
  have a1 : 0 ≤ (b + B) * i := Int.mul_nonneg (by omega) h3
  have a2 : 0 ≤ (B - b) * i := Int.mul_nonneg (by omega) h3
  have a3 : 0 ≤ B * (I - i) := Int.mul_nonneg hB (by omega)
  constructor <;> grind

set_option maxRecDepth 100000 in
set_option maxHeartbeats 8000000 in
theorem tone_any (w : World) (a : Option Addr) (cap : Nat) (l : List Int) (n kind noise : Int) (N : Nat) (h : IntsAt w a l) (hl : l.length ≤ maxLen) (hI : ∀ x ∈ l, I64 x) (hn : I64 n) (hk : I64 kind) (hno : I64 noise) (hN : n % 65 = (N : Int)) :
    Calls Try.prog 5 #[.slice a l.length cap, .int .i64 n, .int .i64 kind, .int .i64 noise] w fun e w' => ∃ v xs, e = .returned v ∧ OwnInts w' w.heap.size v xs ∧ xs.length = N ∧ (∀ x ∈ xs, -300000 ≤ x ∧ x ≤ 300000) ∧ Below w.heap.size w w' := by
  obtain ⟨i0, hi, hz0, hz1, hz2⟩ := info_parts Try.info3
  unfold maxLen at hl
  have H := hid_of h
  have HI := hid_of hI
  have HN := hid_of hN
  obtain ⟨hn1, hn2⟩ := hn
  obtain ⟨hk1, hk2⟩ := hk
  obtain ⟨ho1, ho2⟩ := hno
  have hN64 : N ≤ 64 := by omega
  obtain ⟨z, hz⟩ : ∃ z, noise % 4000 = z := ⟨_, rfl⟩
  have HZ := hid_of hz
  have hzb1 : 0 ≤ z := by omega
  have hzb2 : z < 4000 := by omega
  obtain ⟨q, hq⟩ : ∃ q, kind % 4 = q := ⟨_, rfl⟩
  have HQ := hid_of hq
  have hq4 : q = 0 ∨ q = 1 ∨ q = 2 ∨ q = 3 := by omega
  clear h hI hN hz hq
  go_enter Try.func5, Try.ntmps5
  go_wp2_with fail
  refine (within_any n 65 w hn1 hn2 (by decide) (by decide)).mono ?_
  rw [HN.out]
  rintro e w1 ⟨rfl, rfl⟩
  go_wp2_with fail
  refine (within_any noise 4000 w ho1 ho2 (by decide) (by decide)).mono ?_
  rw [HZ.out]
  rintro e w1 ⟨rfl, rfl⟩
  go_upto_if 21 with fail
  go_cut [9, 10, 11] from 22 to 36 (fun va vb vc wx => ∃ (A B C : Int) (d : Nat), va = .int .i64 A ∧ vb = .int .i64 B ∧ vc = .int .i64 C ∧ -50000 ≤ A ∧ A ≤ 50000 ∧ -1000 ≤ B ∧ B ≤ 1000 ∧ -20 ≤ C ∧ C ≤ 20 ∧ wx = w.drewN d)
  case first =>
    by_cases hlen : 2 < l.length
    · obtain ⟨x0, h0⟩ : ∃ x, l[0]? = some x := ⟨l[0]'(by omega), by simp⟩
      obtain ⟨x1, h1⟩ : ∃ x, l[1]? = some x := ⟨l[1]'(by omega), by simp⟩
      obtain ⟨x2, h2⟩ : ∃ x, l[2]? = some x := ⟨l[2]'(by omega), by simp⟩
      obtain ⟨b, off, rfl, hc0⟩ := H.out 0 x0 h0
      have hc1 : w.cell? ⟨b, off + 1, none⟩ = some (.int .i64 x1) := by
        obtain ⟨b2, o2, e2, hc2⟩ := H.out 1 x1 h1
        cases e2
        exact hc2
      have hc2 : w.cell? ⟨b, off + 2, none⟩ = some (.int .i64 x2) := by
        obtain ⟨b2, o2, e2, hc2⟩ := H.out 2 x2 h2
        cases e2
        exact hc2
      rw [Nat.add_zero] at hc0
      obtain ⟨g01, g02⟩ := HI.out x0 (List.mem_of_getElem? h0)
      obtain ⟨g11, g12⟩ := HI.out x1 (List.mem_of_getElem? h1)
      obtain ⟨g21, g22⟩ := HI.out x2 (List.mem_of_getElem? h2)
      clear h0 h1 h2
      go_wp2_with fail
      go_quiet ((go_at_call 15; refine within_quiet8 _ _ _ _ (by omega) (by omega) (by decide) (by decide)))
      go_wp2_with fail
      go_meet
      exact ⟨x0 % 100000 - 50000, x1 % 2000 - 1000, x2 % 40 - 20, _, rfl, rfl, rfl, by omega, by omega, by omega, by omega, by omega, by omega, rfl⟩
    · go_wp2_with fail
      go_meet
      exact ⟨0, 0, 0, 0, rfl, rfl, rfl, by decide, by decide, by decide, by decide, by decide, by decide, rfl⟩
  case rest =>
    obtain ⟨A, B, C, d, rfl, rfl, rfl, hA1, hA2, hB1, hB2, hC1, hC2, rfl⟩ := hcut
    go_wp2_with fail
    go_loopw [12, 13] (fun v i wr => ∃ (j : Nat) (xs : List Int), j ≤ N ∧ i = .int .i64 (j : Int) ∧ xs.length ≤ 1000000 ∧ Hid (xs.length = j) ∧ Hid (∀ x ∈ xs, -300000 ≤ x ∧ x ≤ 300000) ∧ Hid (OwnInts wr w.heap.size v xs) ∧ Hid (Below w.heap.size w wr)) (fun _ i _ => N - (intOf i).toNat)
    case atStart => exact ⟨0, [], Nat.zero_le _, rfl, by decide, rfl, fun x hx => by simp at hx, OwnInts.nil _ _, below_drewN (Below.refl _ _) d⟩
    case round =>
      obtain ⟨j, xs, hj, rfl, hxl, HXL, hxs, ho, hb⟩ := hrel
      have hsz : w.heap.size ≤ wr.heap.size := hb.out.size
      by_cases hjn : j < N
      · obtain ⟨p, hp⟩ : ∃ p, B * (j : Int) = p := ⟨_, rfl⟩
        have hpb := prod_in (b := B) (i := (j : Int)) (B := 1000) (I := 64) (by omega) (by omega) (by omega) (by omega) (by decide)
        rw [hp] at hpb
        obtain ⟨hp1, hp2⟩ := hpb
        obtain ⟨c1, hc1⟩ : ∃ c1, C * (j : Int) = c1 := ⟨_, rfl⟩
        have hc1b := prod_in (b := C) (i := (j : Int)) (B := 20) (I := 64) (by omega) (by omega) (by omega) (by omega) (by decide)
        rw [hc1] at hc1b
        obtain ⟨hc11, hc12⟩ := hc1b
        obtain ⟨c2, hc2⟩ : ∃ c2, c1 * (j : Int) = c2 := ⟨_, rfl⟩
        have hc2b := prod_in (b := c1) (i := (j : Int)) (B := 1280) (I := 64) (by omega) (by omega) (by omega) (by omega) (by decide)
        rw [hc2] at hc2b
        obtain ⟨hc21, hc22⟩ := hc2b
        obtain ⟨r, hr⟩ : ∃ r, B * ((j : Int) % 7) = r := ⟨_, rfl⟩
        have hrb := prod_in (b := B) (i := (j : Int) % 7) (B := 1000) (I := 6) (by omega) (by omega) (by omega) (by omega) (by decide)
        rw [hr] at hrb
        obtain ⟨hr1, hr2⟩ := hrb
        have HW1 : Hid (wrap64 (B * (j : Int)) = p) := by show _ = _; rw [hp]; exact Go.IntWalk.wrap64_in p (by omega)
        have HW2 : Hid (wrap64 (C * (j : Int)) = c1) := by show _ = _; rw [hc1]; exact Go.IntWalk.wrap64_in c1 (by omega)
        have HW3 : Hid (wrap64 (c1 * (j : Int)) = c2) := by show _ = _; rw [hc2]; exact Go.IntWalk.wrap64_in c2 (by omega)
        have HW4 : Hid (wrap64 (B * ((j : Int) % 7)) = r) := by show _ = _; rw [hr]; exact Go.IntWalk.wrap64_in r (by omega)
        have hend : ∀ (y : Int) (v' : Value) (w' : World), -300000 ≤ y ∧ y ≤ 300000 → Hid (OwnInts w' w.heap.size v' (xs ++ [y])) → Hid (Below w.heap.size wr w') →
            ∃ (j' : Nat) (xs' : List Int), j' ≤ N ∧ Value.int .i64 ((j : Int) + 1) = .int .i64 (j' : Int) ∧ xs'.length ≤ 1000000 ∧ Hid (xs'.length = j') ∧ Hid (∀ x ∈ xs', -300000 ≤ x ∧ x ≤ 300000) ∧ Hid (OwnInts w' w.heap.size v' xs') ∧ Hid (Below w.heap.size w w') := by
          intro y v' w' hy g1 g2
          refine ⟨j + 1, xs ++ [y], by omega, by go_num, by have := HXL.out; simp; omega, by show _ = _; simp [HXL.out], ?_, g1, hb.out.trans g2.out⟩
          intro x hx
          rcases List.mem_append.1 hx with h1 | h1
          · exact hxs.out x h1
          · simp at h1; subst h1; exact hy
        have HEND := hid_of hend
        clear hp hc1 hc2 hr hend
        have hways : (l.length ≤ j) ∨ (j < l.length ∧ z ≤ 0) ∨ (j < l.length ∧ 0 < z) := by omega
        rcases hways with hj1 | ⟨hj1, hj2⟩ | ⟨hj1, hj2⟩
        · rcases hq4 with rfl | rfl | rfl | rfl
          all_goals
            go_wp2_with first
              | (go_at_call_of 15 (Value.int IntKind.i64 kind); refine (within_any kind 4 _ hk1 hk2 (by decide) (by decide)).mono ?_; rw [HQ.out]; rintro e w1 ⟨rfl, rfl⟩)
              | (at_builtin; go_must (refine wpList_append_int _ rfl (.tmp 89) (.tmp 91) 23 rfl w.heap.size i0 Try.underlying23 hi hz0 hz1 hz2 _ xs rfl ho.out _ rfl hxl hsz ?_))
            intro v' w' g1 g2
            go_wp2_with fail
            refine ⟨HEND.out _ v' w' ?_ g1 g2, by (simp [intOf]) <;> omega⟩
            first
              | omega
              | (rw [HW1.out, Go.IntWalk.wrap64_in (A + p) (by omega)]; omega)
              | (rw [HW1.out, HW2.out, HW3.out, Go.IntWalk.wrap64_in (p + c2) (by omega), Go.IntWalk.wrap64_in (A + (p + c2)) (by omega)]; omega)
              | (rw [HW4.out, Go.IntWalk.wrap64_in (A + r) (by omega)]; omega)
        · rcases hq4 with rfl | rfl | rfl | rfl
          all_goals
            go_wp2_with first
              | (go_at_call_of 15 (Value.int IntKind.i64 kind); refine (within_any kind 4 _ hk1 hk2 (by decide) (by decide)).mono ?_; rw [HQ.out]; rintro e w1 ⟨rfl, rfl⟩)
              | (at_builtin; go_must (refine wpList_append_int _ rfl (.tmp 89) (.tmp 91) 23 rfl w.heap.size i0 Try.underlying23 hi hz0 hz1 hz2 _ xs rfl ho.out _ rfl hxl hsz ?_))
            intro v' w' g1 g2
            go_wp2_with fail
            refine ⟨HEND.out _ v' w' ?_ g1 g2, by (simp [intOf]) <;> omega⟩
            first
              | omega
              | (rw [HW1.out, Go.IntWalk.wrap64_in (A + p) (by omega)]; omega)
              | (rw [HW1.out, HW2.out, HW3.out, Go.IntWalk.wrap64_in (p + c2) (by omega), Go.IntWalk.wrap64_in (A + (p + c2)) (by omega)]; omega)
              | (rw [HW4.out, Go.IntWalk.wrap64_in (A + r) (by omega)]; omega)
        · obtain ⟨x, hx⟩ : ∃ x, l[j]? = some x := ⟨l[j], by simp [hj1]⟩
          obtain ⟨b, off, rfl, hc⟩ := H.out.mono hb.out j x hx
          obtain ⟨hx1, hx2⟩ := HI.out x (List.mem_of_getElem? hx)
          obtain ⟨u, hu⟩ : ∃ u, x % z = u := ⟨_, rfl⟩
          have hu1 := Int.emod_nonneg x (show z ≠ 0 by omega)
          have hu2 := Int.emod_lt_of_pos x hj2
          rw [hu] at hu1 hu2
          have HU := hid_of hu
          clear hx hu
          rcases hq4 with rfl | rfl | rfl | rfl
          all_goals
            go_wp2_with first
              | (go_at_call_of 15 (Value.int IntKind.i64 kind); refine (within_any kind 4 _ hk1 hk2 (by decide) (by decide)).mono ?_; rw [HQ.out]; rintro e w1 ⟨rfl, rfl⟩)
              | (go_at_call_of 15 (Value.int IntKind.i64 x); refine (within_any x z _ hx1 hx2 (by omega) (by omega)).mono ?_; rw [HU.out]; rintro e w1 ⟨rfl, rfl⟩)
              | (at_builtin; go_must (refine wpList_append_int _ rfl (.tmp 89) (.tmp 91) 23 rfl w.heap.size i0 Try.underlying23 hi hz0 hz1 hz2 _ xs rfl ho.out _ rfl hxl hsz ?_))
            intro v' w' g1 g2
            go_wp2_with fail
            refine ⟨HEND.out _ v' w' ?_ g1 g2, by (simp [intOf]) <;> omega⟩
            first
              | omega
              | (rw [HW1.out, Go.IntWalk.wrap64_in (A + p) (by omega), Go.IntWalk.wrap64_in (A + p + u) (by omega)]; omega)
              | (rw [HW1.out, HW2.out, HW3.out, Go.IntWalk.wrap64_in (p + c2) (by omega), Go.IntWalk.wrap64_in (A + (p + c2)) (by omega), Go.IntWalk.wrap64_in (A + (p + c2) + u) (by omega)]; omega)
              | (rw [HW4.out, Go.IntWalk.wrap64_in (A + r) (by omega), Go.IntWalk.wrap64_in (A + r + u) (by omega)]; omega)
      · have e : j = N := by omega
        subst e
        go_wp2_with fail
        go_ret
        exact ⟨_, xs, rfl, ho.out, HXL.out, hxs.out, hb.out⟩

end Go.Proofs.Ytejgkgnocgplbaa

/- A slice of rows of numbers that came in, as the walks want it. -/
namespace Go.Proofs.Ytejgkgnocgplbaa
set_option linter.unusedVariables false
set_option linter.unusedSimpArgs false
open Go.ChangeShapes Go.WideShapes Go.ChangeAt Go.RowKit Go.Deep

/-- Rows of numbers that can be read. -/
def RowsIAt (w : World) (a : Option Addr) (len : Nat) (A : Nat → Option Addr) (L C : Nat → Nat) (Z : Nat → List Int) : Prop :=
  ∀ r, r < len → ∃ b off, a = some ⟨b, off, none⟩ ∧ b < w.heap.size ∧ w.cell? ⟨b, off + r, none⟩ = some (.slice (A r) (L r) (C r)) ∧ IsRow .i64 w (A r) (L r) (C r) (Z r)

theorem Try.cellsI : Try.prog.cellsOf 23 = 1 := by kernel_rfl
theorem Try.cells3i : Try.prog.cellsOf 3 = 1 := by kernel_rfl
theorem open_rowsI {H : Type} {enc : TypeId × Value → H} {W : World} {a : Option Addr} {len cap : Nat} {d : DataW H} {p : List MemPlace}
    (h : DataW.Trod enc Try.prog W 0 (fun _ => true) true 22 (.slice a len cap) d p) : ∃ A L C Z, len ≤ maxLen ∧ RowsIAt W a len A L C Z := by
  obtain ⟨fuel, hf⟩ := h
  rcases open_int_rows Try.underlying22 Try.underlying23 Try.underlying3 Try.cellsI Try.cells3i hf with ⟨hcs, _⟩ | ⟨x, l, c, A, L, C, Z, hcs, _, hl, hm, _, hrow⟩
  · simp [Value.cells] at hcs
    obtain ⟨rfl, rfl, rfl⟩ := hcs
    exact ⟨fun _ => none, fun _ => 0, fun _ => 0, fun _ => [], by decide, fun r hr => by omega⟩
  · simp [Value.cells] at hcs
    obtain ⟨rfl, rfl, rfl⟩ := hcs
    refine ⟨A, L, C, Z, by omega, fun r hr => ?_⟩
    obtain ⟨h1, h2, h3, h4, h5, h6, h7⟩ := hrow r (by omega)
    have hsp : x.spot = none := by
      have := spot_of_cell (hrow 0 (by omega)).1
      simpa [Addr.add] using this
    obtain ⟨b, off, s⟩ := x
    simp at hsp
    subst hsp
    have hadd : (⟨b, off, none⟩ : Addr).add r = ⟨b, off + r, none⟩ := by simp [Addr.add]
    rw [hadd] at h1
    refine ⟨b, off, rfl, World.block_lt_of_cell? W _ h1, h1, ?_⟩
    cases hA : A r with
    | none =>
      have hC := h6 hA
      have hL : L r = 0 := by omega
      have hZ : Z r = [] := List.eq_nil_of_length_eq_zero (by omega)
      rw [hC, hL, hZ]
      exact .inl ⟨rfl, rfl, rfl, rfl⟩
    | some x' =>
      obtain ⟨_, hcell⟩ := h7 x' hA
      exact .inr ⟨x', rfl, h2, h3, h4, fun i hi => hcell i (by omega), h5⟩

end Go.Proofs.Ytejgkgnocgplbaa

/- Walks over moved, Slow and the document's own sum. -/
namespace Go.Proofs.Ytejgkgnocgplbaa
set_option linter.unusedVariables false
set_option maxRecDepth 100000
set_option linter.unusedSimpArgs false
open Go.RowKit Dg Cr

/-- A sum as a value. -/
abbrev u32v (v : BitVec 32) : Value := .int .u32 ((v.toNat : Nat) : Int)

theorem u32_val (v : BitVec 32) : v.toNat < 4294967296 := v.isLt
theorem up_num (v : BitVec 32) (x : Nat) (hx : x = v.toNat) : bits BinOp.xor IntKind.u32 ((x : Int) * 2 % 4294967296) ((x : Int) / 2147483648 * 79764919) = (((up v).toNat : Nat) : Int) := by
  have hlt := v.isLt
  rw [← hx] at hlt
  have e1 : (x : Int) * 2 % 4294967296 = ((x * 2 % 4294967296 : Nat) : Int) := by omega
  have e2 : (x : Int) / 2147483648 * 79764919 = ((x / 2147483648 * 79764919 : Nat) : Int) := by omega
  rw [e1, e2, u32_xor_nat _ _ (by omega) (by omega)]
  congr 1
  unfold up
  rw [BitVec.toNat_xor, BitVec.toNat_shiftLeft, BitVec.msb_eq_decide, ← hx, Nat.shiftLeft_eq]
  by_cases h : 2147483648 ≤ x
  · have e3 : x / 2147483648 = 1 := by omega
    simp [h, e3]
  · have e3 : x / 2147483648 = 0 := by omega
    simp [h, e3]
theorem up_num1 (v : BitVec 32) (x : Nat) (hx : x = v.toNat) (h : 2147483648 ≤ x) : bits BinOp.xor IntKind.u32 ((x : Int) * 2 % 4294967296) 79764919 = (((up v).toNat : Nat) : Int) := by
  have h1 := up_num v x hx
  have hlt := v.isLt
  have e : (x : Int) / 2147483648 = 1 := by omega
  rw [e] at h1
  exact h1
theorem up_num0 (v : BitVec 32) (x : Nat) (hx : x = v.toNat) (h : x < 2147483648) : (x : Int) * 2 % 4294967296 = (((up v).toNat : Nat) : Int) := by
  have h1 := up_num v x hx
  have e : (x : Int) / 2147483648 = 0 := by omega
  have e1 : (x : Int) * 2 % 4294967296 = ((x * 2 % 4294967296 : Nat) : Int) := by omega
  rw [e, e1, Int.zero_mul, show (0 : Int) = ((0 : Nat) : Int) from rfl, u32_xor_nat _ _ (by omega) (by omega), Nat.xor_zero] at h1
  rw [e1]; exact h1
theorem up_num0' (v : BitVec 32) (x : Nat) (hx : x = v.toNat) (h : x < 2147483648) : (x : Int) * 2 = (((up v).toNat : Nat) : Int) := by
  rw [← up_num0 v x hx h]; omega
theorem upN_next (j : Nat) (v : BitVec 32) : upN (j + 1) v = up (upN j v) := by rw [← upN_add j 1]; rfl
theorem add_num (v : BitVec 32) (x c : Nat) (hx : x = v.toNat) (hc : c < 256) : bits BinOp.xor IntKind.u32 (x : Int) ((c : Int) * 16777216) = (((v ^^^ (BitVec.ofNat 32 c <<< 24)).toNat : Nat) : Int) := by
  have hlt := v.isLt
  rw [← hx] at hlt
  have e1 : (c : Int) * 16777216 = ((c * 16777216 : Nat) : Int) := by omega
  rw [e1, u32_xor_nat _ _ (by omega) (by omega)]
  congr 1
  rw [BitVec.toNat_xor, ← hx, BitVec.toNat_shiftLeft, BitVec.toNat_ofNat, Nat.shiftLeft_eq]
  congr 1
  omega

set_option maxHeartbeats 400000 in
theorem moved_any (v : BitVec 32) (w : World) :
    Calls Try.prog 67 #[u32v v] w fun e w' => e = .returned (u32v (upN 8 v)) ∧ w = w' := by
  go_enter Try.func67, Try.ntmps67
  go_wp2
  go_loopw [0, 4] (fun s i wr => ∃ j x : Nat, j ≤ 8 ∧ i = .int .i64 j ∧ s = .int .u32 (x : Int) ∧ Hid (x = (upN j v).toNat) ∧ w = wr) (fun _ i _ => 8 - (intOf i).toNat)
  case atStart => exact ⟨0, v.toNat, by omega, rfl, rfl, rfl, rfl⟩
  case round =>
    obtain ⟨j, x, hj, rfl, rfl, hx, rfl⟩ := hrel
    have hx32 : x < 4294967296 := by rw [hx.out]; exact (upN j v).isLt
    by_cases hj8 : j < 8
    · go_wp2
      rw [up_num (upN j v) x hx.out]
      go_roundw
      case rel => exact ⟨j + 1, _, by omega, by go_num, rfl, by rw [upN_next]; rfl, by trivial⟩
      case measure => simp [intOf]; omega
    · have e : j = 8 := by omega
      go_wp2
      go_ret
      rw [hx.out, e]
      exact ⟨rfl, rfl⟩

end Go.Proofs.Ytejgkgnocgplbaa
