/- Plain mathematics of a sum of 32 binary digits: a digit at a step, a byte at a step, bursts: no program in sight. -/
import Derived.Test.YthcjgcfmodkiiaaMath
namespace Go.Proofs.Ythcjgcfmodkiiaa.Cr
set_option linter.unusedVariables false
set_option linter.unusedSimpArgs false
open Dg

/-- A sum moved up by one digit. -/
def up (v : BitVec 32) : BitVec 32 := (v <<< 1) ^^^ (if v.msb then 0x04C11DB7#32 else 0#32)
/-- By n digits. -/
def upN : Nat → BitVec 32 → BitVec 32
  | 0, v => v
  | n + 1, v => upN n (up v)
/-- A byte more. -/
def stepB (v : BitVec 32) (c : Nat) : BitVec 32 := upN 8 (v ^^^ (BitVec.ofNat 32 c <<< 24))
/-- A row of bytes more. -/
def crc (v : BitVec 32) (l : List Nat) : BitVec 32 := l.foldl stepB v
/-- The sum of a row. -/
def ones : BitVec 32 := 0xFFFFFFFF#32

theorem up_zero : up 0#32 = 0#32 := by decide
theorem up_xor (a b : BitVec 32) : up (a ^^^ b) = up a ^^^ up b := by
  unfold up
  rw [BitVec.msb_xor, BitVec.shiftLeft_xor_distrib]
  cases a.msb <;> cases b.msb <;> simp
  · ac_rfl
  · ac_rfl
  · have : ∀ x y z : BitVec 32, x ^^^ z ^^^ (y ^^^ z) = x ^^^ y := fun x y z => by
      rw [BitVec.xor_assoc, BitVec.xor_comm y z, ← BitVec.xor_assoc z z y, BitVec.xor_self, BitVec.zero_xor]
    exact (this _ _ _).symm
theorem up_get0 (v : BitVec 32) : (up v).getLsbD 0 = v.msb := by
  unfold up
  rw [BitVec.getLsbD_xor, BitVec.getLsbD_shiftLeft]
  cases v.msb <;> simp
theorem up_eq_zero {v : BitVec 32} (h : up v = 0#32) : v = 0#32 := by
  have hm : v.msb = false := by rw [← up_get0, h]; simp
  have h2 : v <<< 1 = 0#32 := by unfold up at h; rw [hm] at h; simpa using h
  apply BitVec.eq_of_getLsbD_eq
  intro i hi
  by_cases h31 : i = 31
  · subst h31; rw [BitVec.msb_eq_getLsbD_last] at hm; simpa using hm
  · have h3 := congrArg (fun x => x.getLsbD (i + 1)) h2
    simp only [BitVec.getLsbD_shiftLeft] at h3
    have : i + 1 < 32 := by omega
    simpa [this] using h3
theorem upN_zero : ∀ n, upN n 0#32 = 0#32
  | 0 => rfl
  | n + 1 => by rw [upN, up_zero, upN_zero n]
theorem upN_xor : ∀ (n : Nat) (a b : BitVec 32), upN n (a ^^^ b) = upN n a ^^^ upN n b
  | 0, a, b => rfl
  | n + 1, a, b => by rw [upN, up_xor, upN_xor n]; rfl
theorem upN_eq_zero : ∀ (n : Nat) {v : BitVec 32}, upN n v = 0#32 → v = 0#32
  | 0, v, h => h
  | n + 1, v, h => up_eq_zero (upN_eq_zero n h)
theorem xor_eq_zero {a b : BitVec 32} (h : a ^^^ b = 0#32) : a = b := by
  have h1 : (a ^^^ b) ^^^ b = b := by rw [h, BitVec.zero_xor]
  rw [BitVec.xor_assoc, BitVec.xor_self, BitVec.xor_zero] at h1
  exact h1
theorem upN_inj {n : Nat} {a b : BitVec 32} (h : upN n a = upN n b) : a = b := by
  apply xor_eq_zero
  apply upN_eq_zero n
  rw [upN_xor, h, BitVec.xor_self]
theorem upN_add : ∀ (m n : Nat) (v : BitVec 32), upN n (upN m v) = upN (m + n) v
  | 0, n, v => by simp [upN]
  | m + 1, n, v => by rw [upN, upN_add m n, Nat.add_right_comm, upN]

theorem crc_nil (v : BitVec 32) : crc v [] = v := rfl
theorem crc_cons (v : BitVec 32) (c : Nat) (l : List Nat) : crc v (c :: l) = crc (stepB v c) l := rfl
theorem crc_append (v : BitVec 32) (l m : List Nat) : crc v (l ++ m) = crc (crc v l) m := by simp [crc]
theorem crc_snoc (v : BitVec 32) (l : List Nat) (c : Nat) : crc v (l ++ [c]) = stepB (crc v l) c := by simp [crc]
theorem crc_take (v : BitVec 32) (l : List Nat) (k c : Nat) (h : l[k]? = some c) : crc v (l.take (k + 1)) = stepB (crc v (l.take k)) c := by
  rw [List.take_add_one, h]; exact crc_snoc _ _ _

theorem xor_swap4 (a b c d : BitVec 32) : a ^^^ b ^^^ (c ^^^ d) = a ^^^ c ^^^ (b ^^^ d) := by
  rw [BitVec.xor_assoc, BitVec.xor_assoc, ← BitVec.xor_assoc b c d, BitVec.xor_comm b c, BitVec.xor_assoc c b d]

/-- By the table. -/
theorem low_up (w : BitVec 32) : ∀ (k : Nat), (∀ i, 32 - k ≤ i → i < 32 → w.getLsbD i = false) → k ≤ 32 → upN k w = w <<< k
  | 0, _, _ => by simp [upN]
  | k + 1, h, hk => by
    have hm : w.msb = false := by rw [BitVec.msb_eq_getLsbD_last]; simp; exact h 31 (by omega) (by omega)
    have e : up w = w <<< 1 := by unfold up; rw [hm]; simp
    rw [upN, e, low_up (w <<< 1) k]
    · rw [← BitVec.shiftLeft_add, Nat.add_comm]
    · intro i h1 h2
      rw [BitVec.getLsbD_shiftLeft]
      by_cases h0 : i < 1
      · simp [h0]
      · simp only [h2, h0, decide_true, decide_false, Bool.not_false, Bool.true_and]
        exact h (i - 1) (by omega) (by omega)
    · omega

theorem split24 (v c : BitVec 32) : v ^^^ (c <<< 24) = (((v >>> 24) ^^^ c) <<< 24) ^^^ (v &&& 0xFFFFFF#32) := by
  apply BitVec.eq_of_getLsbD_eq
  intro i hi
  have e : (0xFFFFFF#32 : BitVec 32).getLsbD i = decide (i < 24) := by
    have : ∀ j : Fin 32, (0xFFFFFF#32 : BitVec 32).getLsbD j = decide (j.val < 24) := by decide
    exact this ⟨i, hi⟩
  simp only [BitVec.getLsbD_xor, BitVec.getLsbD_shiftLeft, BitVec.getLsbD_and, BitVec.getLsbD_ushiftRight, e, hi, decide_true, Bool.true_and]
  by_cases h : i < 24
  · simp [h]
  · have e2 : 24 + (i - 24) = i := by omega
    simp [h, e2]

theorem step_table (v : BitVec 32) (c : Nat) : stepB v c = (v <<< 8) ^^^ upN 8 (((v >>> 24) ^^^ BitVec.ofNat 32 c) <<< 24) := by
  unfold stepB
  have e : (v &&& 0xFFFFFF#32) <<< 8 = v <<< 8 := by
    apply BitVec.eq_of_getLsbD_eq
    intro i hi
    have : ∀ j : Fin 32, (0xFFFFFF#32 : BitVec 32).getLsbD j = decide (j.val < 24) := by decide
    simp only [BitVec.getLsbD_shiftLeft, BitVec.getLsbD_and]
    by_cases h : i < 8
    · simp [h]
    · have := this ⟨i - 8, by omega⟩
      simp only at this
      rw [this]
      simp [show i - 8 < 24 by omega]
  rw [split24, upN_xor, low_up (v &&& 0xFFFFFF#32) 8 _ (by decide), e, BitVec.xor_comm]
  intro i h1 h2
  have : ∀ j : Fin 32, 24 ≤ j.val → (0xFFFFFF#32 : BitVec 32).getLsbD j = false := by decide
  rw [BitVec.getLsbD_and, this ⟨i, h2⟩ h1, Bool.and_false]

/-- A digit more. -/
def feed (v : BitVec 32) (d : Bool) : BitVec 32 := up (v ^^^ (if d then 0x80000000#32 else 0#32))
def feeds (v : BitVec 32) (ds : List Bool) : BitVec 32 := ds.foldl feed v
theorem feeds_append (v : BitVec 32) (ds es : List Bool) : feeds v (ds ++ es) = feeds (feeds v ds) es := by simp [feeds]
theorem feed_xor (a b : BitVec 32) (d e : Bool) : feed (a ^^^ b) (d ^^ e) = feed a d ^^^ feed b e := by
  unfold feed
  rw [← up_xor]
  congr 1
  rw [xor_swap4]
  congr 1
  cases d <;> cases e <;> decide
theorem feeds_xor : ∀ (ds es : List Bool) (a b : BitVec 32), ds.length = es.length → feeds (a ^^^ b) (List.zipWith (· ^^ ·) ds es) = feeds a ds ^^^ feeds b es
  | [], [], a, b, _ => rfl
  | [], e :: es, a, b, h => by simp at h
  | d :: ds, [], a, b, h => by simp at h
  | d :: ds, e :: es, a, b, h => by
    have h' : ds.length = es.length := by simpa using h
    show feeds (feed (a ^^^ b) (d ^^ e)) (List.zipWith (· ^^ ·) ds es) = feeds (feed a d) ds ^^^ feeds (feed b e) es
    rw [feed_xor, feeds_xor ds es _ _ h']
theorem feeds_noughts : ∀ (n : Nat) (v : BitVec 32), feeds v (List.replicate n false) = upN n v
  | 0, v => rfl
  | n + 1, v => by
    show feeds (feed v false) (List.replicate n false) = _
    rw [feeds_noughts n]; simp [feed, upN]
theorem feeds_split (v : BitVec 32) (ds : List Bool) : feeds v ds = upN ds.length v ^^^ feeds 0#32 ds := by
  have h := feeds_xor (List.replicate ds.length false) ds v 0#32 (by simp)
  rw [feeds_noughts, BitVec.xor_zero] at h
  rw [← h]
  congr 1
  apply List.ext_getElem?
  intro i
  by_cases hi : i < ds.length
  · simp [List.getElem?_zipWith, hi]
  · simp [List.getElem?_zipWith, hi]

theorem step_split (v : BitVec 32) (c : Nat) : stepB v c = upN 8 v ^^^ stepB 0#32 c := by
  unfold stepB; rw [upN_xor, BitVec.zero_xor]
theorem step_digits0 : ∀ x : Fin 256, feeds 0#32 ((List.range 8).map (digitOf x.val)) = stepB 0#32 x.val := by decide +kernel
theorem step_digits (v : BitVec 32) (x : Nat) (hx : x < 256) : feeds v ((List.range 8).map (digitOf x)) = stepB v x := by
  rw [feeds_split, step_split]
  congr 1
  exact step_digits0 ⟨x, hx⟩
theorem crc_digits : ∀ (l : List Nat) (v : BitVec 32), (∀ x ∈ l, x < 256) → crc v l = feeds v (unpack l)
  | [], v, _ => rfl
  | x :: l, v, h => by
    rw [crc_cons, unpack_cons, feeds_append, step_digits v x (h x (by simp)), crc_digits l _ (fun y hy => h y (by simp [hy]))]

/-- Digits at the top of a sum. -/
def top : List Bool → BitVec 32
  | [] => 0#32
  | d :: ds => (if d then 0x80000000#32 else 0#32) ^^^ (top ds >>> 1)
theorem top_get : ∀ (ds : List Bool) (i : Nat), i < 32 → (top ds).getLsbD i = ds.getD (31 - i) false
  | [], i, _ => by simp [top]
  | d :: ds, i, hi => by
    rw [top, BitVec.getLsbD_xor, BitVec.getLsbD_ushiftRight]
    have e : (if d then 0x80000000#32 else 0#32).getLsbD i = (decide (i = 31) && d) := by
      have : ∀ j : Fin 32, (0x80000000#32 : BitVec 32).getLsbD j = decide (j.val = 31) := by decide
      cases d
      · simp
      · simpa using this ⟨i, hi⟩
    rw [e]
    by_cases h : i = 31
    · subst h; simp
    · rw [Nat.add_comm 1 i, top_get ds (i + 1) (by omega)]
      have : 31 - i = (31 - (i + 1)) + 1 := by omega
      rw [this]
      simp [h]
theorem feeds_top : ∀ (ds : List Bool) (v : BitVec 32), ds.length ≤ 32 → feeds v ds = upN ds.length (v ^^^ top ds)
  | [], v, _ => by simp [feeds, upN, top]
  | d :: ds, v, h => by
    have hl : ds.length ≤ 31 := by simpa using h
    have e : up (top ds >>> 1) = top ds := by
      have hm : (top ds >>> 1).msb = false := by rw [BitVec.msb_eq_getLsbD_last, BitVec.getLsbD_ushiftRight]; simp
      unfold up
      rw [hm]
      apply BitVec.eq_of_getLsbD_eq
      intro i hi
      by_cases h0 : i = 0
      · subst h0
        rw [top_get ds 0 (by decide)]
        simp [List.getElem?_eq_none (show ds.length ≤ 31 from hl)]
      · have e1 : 1 + (i - 1) = i := by omega
        simp [BitVec.getLsbD_shiftLeft, BitVec.getLsbD_ushiftRight, hi, h0, e1]
    show feeds (feed v d) ds = upN ds.length (up (v ^^^ top (d :: ds)))
    rw [feeds_top ds _ (by omega)]
    congr 1
    rw [top, ← BitVec.xor_assoc, up_xor, e]
    rfl
theorem top_zero (ds : List Bool) (hl : ds.length ≤ 32) (h : top ds = 0#32) : ∀ j, ds.getD j false = false := by
  intro j
  by_cases hj : j < 32
  · have := top_get ds (31 - j) (by omega)
    rw [h, show 31 - (31 - j) = j by omega] at this
    rw [← this]; simp
  · simp [List.getD, List.getElem?_eq_none (show ds.length ≤ j by omega)]

/-- A burst is told. -/
theorem burst (a c : Nat) (bs : List Bool) (hl : bs.length ≤ 32) (j : Nat) (hj : bs.getD j false = true) :
    feeds 0#32 (List.replicate a false ++ bs ++ List.replicate c false) ≠ 0#32 := by
  intro h
  rw [feeds_append, feeds_append, feeds_noughts, feeds_noughts, upN_zero, feeds_top bs _ hl, BitVec.zero_xor] at h
  have := top_zero bs hl (upN_eq_zero _ (upN_eq_zero _ h)) j
  rw [hj] at this
  cases this

/-- A sum as four bytes, the greatest first. -/
def bytes4 (s : Nat) : List Nat := [s / 16777216 % 256, s / 65536 % 256, s / 256 % 256, s % 256]
@[simp] theorem length_bytes4 (s : Nat) : (bytes4 s).length = 4 := rfl
theorem bytes4_lt (s : Nat) : ∀ x ∈ bytes4 s, x < 256 := by
  intro x hx; simp [bytes4] at hx; omega
theorem top_bytes4 (v : BitVec 32) : top (unpack (bytes4 v.toNat)) = v := by
  apply BitVec.eq_of_getLsbD_eq
  intro i hi
  rw [top_get _ _ hi, List.getD_eq_getElem?_getD, unpack_get]
  have hd : ∀ x j, digitOf x j = x.testBit (7 - j) := fun x j => by
    rw [Nat.testBit_eq_decide_div_mod_eq]; unfold digitOf
    by_cases h : x / 2 ^ (7 - j) % 2 = 1 <;> simp [h]
  have e : v.getLsbD i = v.toNat.testBit i := rfl
  have hq : (31 - i) / 8 = 0 ∨ (31 - i) / 8 = 1 ∨ (31 - i) / 8 = 2 ∨ (31 - i) / 8 = 3 := by omega
  have p : ∀ (s k a : Nat), s / 2 ^ a % 256 = (s >>> a) % 2 ^ 8 := fun s k a => by rw [Nat.shiftRight_eq_div_pow]
  rcases hq with h | h | h | h <;> rw [h]
  · have := p v.toNat 0 24
    simp only [bytes4, List.getElem?_cons_zero, Option.map_some, Option.getD_some, hd]
    rw [show (16777216 : Nat) = 2 ^ 24 by decide, this, Nat.testBit_mod_two_pow, Nat.testBit_shiftRight, e]
    simp only [show 7 - (31 - i) % 8 < 8 by omega, decide_true, Bool.true_and]
    congr 1; omega
  · have := p v.toNat 0 16
    simp only [bytes4, List.getElem?_cons_zero, List.getElem?_cons_succ, Option.map_some, Option.getD_some, hd]
    rw [show (65536 : Nat) = 2 ^ 16 by decide, this, Nat.testBit_mod_two_pow, Nat.testBit_shiftRight, e]
    simp only [show 7 - (31 - i) % 8 < 8 by omega, decide_true, Bool.true_and]
    congr 1; omega
  · have := p v.toNat 0 8
    simp only [bytes4, List.getElem?_cons_zero, List.getElem?_cons_succ, Option.map_some, Option.getD_some, hd]
    rw [show v.toNat / 256 % 256 = v.toNat / 2 ^ 8 % 256 by rfl, this, Nat.testBit_mod_two_pow, Nat.testBit_shiftRight, e]
    simp only [show 7 - (31 - i) % 8 < 8 by omega, decide_true, Bool.true_and]
    congr 1; omega
  · simp only [bytes4, List.getElem?_cons_zero, List.getElem?_cons_succ, Option.map_some, Option.getD_some, hd]
    rw [show (256 : Nat) = 2 ^ 8 by decide, Nat.testBit_mod_two_pow, e]
    simp only [show 7 - (31 - i) % 8 < 8 by omega, decide_true, Bool.true_and]
    congr 1; omega
theorem crc_bytes4 (v s : BitVec 32) : crc v (bytes4 s.toNat) = upN 32 (v ^^^ s) := by
  rw [crc_digits _ _ (bytes4_lt _), feeds_top _ _ (by simp), top_bytes4]; rfl
/-- A row with its sum behind it has the sum 0. -/
theorem crc_whole (v : BitVec 32) (l : List Nat) : crc v (l ++ bytes4 (crc v l).toNat) = 0#32 := by
  rw [crc_append, crc_bytes4, BitVec.xor_self, upN_zero]
theorem crc_noughts : ∀ n, crc 0#32 (List.replicate n 0) = 0#32
  | 0 => rfl
  | n + 1 => by rw [List.replicate_succ, crc_cons, show stepB 0#32 0 = 0#32 by decide, crc_noughts n]

/-- One byte alone is told. -/
theorem step_inj {v : BitVec 32} {a b : Nat} (ha : a < 256) (hb : b < 256) (h : stepB v a = stepB v b) : a = b := by
  unfold stepB at h
  have h1 := upN_inj h
  have h2 : BitVec.ofNat 32 a <<< 24 = BitVec.ofNat 32 b <<< 24 := by
    have := congrArg (fun x => v ^^^ x) h1
    simpa [← BitVec.xor_assoc] using this
  have h3 := congrArg BitVec.toNat h2
  simp only [BitVec.toNat_shiftLeft, BitVec.toNat_ofNat, Nat.shiftLeft_eq] at h3
  omega
theorem step_injl {v u : BitVec 32} {c : Nat} (h : stepB v c = stepB u c) : v = u := by
  unfold stepB at h
  have h1 := upN_inj h
  have := congrArg (fun x => x ^^^ (BitVec.ofNat 32 c <<< 24)) h1
  simpa [BitVec.xor_assoc] using this
theorem crc_injl : ∀ (l : List Nat) {v u : BitVec 32}, crc v l = crc u l → v = u
  | [], v, u, h => h
  | c :: l, v, u, h => step_injl (crc_injl l h)
theorem crc_byte {v : BitVec 32} (p q : List Nat) {a b : Nat} (ha : a < 256) (hb : b < 256) (h : crc v (p ++ a :: q) = crc v (p ++ b :: q)) : a = b := by
  rw [crc_append, crc_append, crc_cons, crc_cons] at h
  exact step_inj ha hb (crc_injl q h)
theorem swap0 : ∀ x : Fin 256, upN 8 (BitVec.ofNat 32 x.val <<< 24) = BitVec.ofNat 32 x.val <<< 24 → x.val = 0 := by decide +kernel
theorem crc_swap {v : BitVec 32} (p q : List Nat) {a b : Nat} (ha : a < 256) (hb : b < 256) (h : crc v (p ++ a :: b :: q) = crc v (p ++ b :: a :: q)) : a = b := by
  simp only [crc_append, crc_cons] at h
  have h1 := crc_injl q h
  generalize crc v p = s at h1
  have h2 : stepB s a ^^^ (BitVec.ofNat 32 b <<< 24) = stepB s b ^^^ (BitVec.ofNat 32 a <<< 24) := upN_inj h1
  unfold stepB at h2
  rw [upN_xor, upN_xor] at h2
  have hd : a ^^^ b < 256 := Nat.xor_lt_two_pow (n := 8) ha hb
  have e : BitVec.ofNat 32 (a ^^^ b) <<< 24 = (BitVec.ofNat 32 a <<< 24) ^^^ (BitVec.ofNat 32 b <<< 24) := by
    rw [← BitVec.shiftLeft_xor_distrib]
    congr 1
    apply BitVec.eq_of_toNat_eq
    simp only [BitVec.toNat_xor, BitVec.toNat_ofNat]
    rw [Nat.mod_eq_of_lt (show a ^^^ b < 2 ^ 32 by omega), Nat.mod_eq_of_lt (show a < 2 ^ 32 by omega), Nat.mod_eq_of_lt (show b < 2 ^ 32 by omega)]
  have h3 := swap0 ⟨a ^^^ b, hd⟩ (by
    show upN 8 (BitVec.ofNat 32 (a ^^^ b) <<< 24) = BitVec.ofNat 32 (a ^^^ b) <<< 24
    rw [e, upN_xor]
    generalize upN 8 (BitVec.ofNat 32 a <<< 24) = A at h2 ⊢
    generalize upN 8 (BitVec.ofNat 32 b <<< 24) = B at h2 ⊢
    generalize BitVec.ofNat 32 a <<< 24 = x at h2 ⊢
    generalize BitVec.ofNat 32 b <<< 24 = y at h2 ⊢
    generalize upN 8 s = S at h2
    apply BitVec.eq_of_getLsbD_eq
    intro i hi
    have h5 := congrArg (fun z => z.getLsbD i) h2
    simp only [BitVec.getLsbD_xor] at h5 ⊢
    revert h5
    cases A.getLsbD i <;> cases B.getLsbD i <;> cases x.getLsbD i <;> cases y.getLsbD i <;> cases S.getLsbD i <;> decide)
  have h4 : a ^^^ b = 0 := h3
  apply Nat.eq_of_testBit_eq
  intro i
  have := congrArg (fun x => x.testBit i) h4
  simpa [Nat.testBit_xor] using this

end Go.Proofs.Ythcjgcfmodkiiaa.Cr
