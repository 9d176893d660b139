/- The texts Math, Crc1, Crc7, SealMath, Base, Walk1, Walk2, Walk3, one behind the other. -/
import Derived.Laws.BitsAllLaws
import Derived.WalkKit
import Derived.WalkSpells
import Derived.WalkLawsBesides
import Derived.Handy
import Derived.Test.YtdcnbakmmkbodaaRows
import Derived.BigRegion
import Derived.Deep.QuietTactic
import Derived.BigQuiet

/- Plain mathematics of binary digits in a row, packed eight a byte: no program in sight. -/
namespace Go.Proofs.Ytdcnbakmmkbodaa.Dg
set_option linter.unusedVariables false
set_option linter.unusedSimpArgs false

/-- A digit of a row, 0 behind its end. -/
def dg (ds : List Bool) (i : Nat) : Nat := (ds.getD i false).toNat
theorem dg_le (ds : List Bool) (i : Nat) : dg ds i ≤ 1 := by unfold dg; cases ds.getD i false <;> decide
theorem dg_out (ds : List Bool) (i : Nat) (h : ds.length ≤ i) : dg ds i = 0 := by
  unfold dg; simp [List.getD, List.getElem?_eq_none h]
theorem dg_snoc_lt (ds : List Bool) (d : Bool) (i : Nat) (h : i ≠ ds.length) : dg (ds ++ [d]) i = dg ds i := by
  unfold dg
  by_cases hi : i < ds.length
  · simp [List.getD, List.getElem?_append_left hi]
  · have h2 : ds.length ≤ i := by omega
    have h3 : (ds ++ [d]).length ≤ i := by simp; omega
    simp only [List.getD, List.getElem?_eq_none h2, List.getElem?_eq_none h3]
theorem dg_snoc (ds : List Bool) (d : Bool) : dg (ds ++ [d]) ds.length = d.toNat := by unfold dg; simp [List.getD]

/-- The k-th byte. -/
def byteAt (ds : List Bool) (k : Nat) : Nat :=
  128 * dg ds (8 * k) + 64 * dg ds (8 * k + 1) + 32 * dg ds (8 * k + 2) + 16 * dg ds (8 * k + 3) + 8 * dg ds (8 * k + 4) + 4 * dg ds (8 * k + 5) + 2 * dg ds (8 * k + 6) + dg ds (8 * k + 7)
theorem byteAt_lt (ds : List Bool) (k : Nat) : byteAt ds k < 256 := by
  have h0 := dg_le ds (8 * k); have h1 := dg_le ds (8 * k + 1); have h2 := dg_le ds (8 * k + 2); have h3 := dg_le ds (8 * k + 3)
  have h4 := dg_le ds (8 * k + 4); have h5 := dg_le ds (8 * k + 5); have h6 := dg_le ds (8 * k + 6); have h7 := dg_le ds (8 * k + 7)
  unfold byteAt; omega

/-- The bytes of digits, noughts fill up the last one. -/
def pack (ds : List Bool) : List Nat := (List.range ((ds.length + 7) / 8)).map (byteAt ds)
@[simp] theorem length_pack (ds : List Bool) : (pack ds).length = (ds.length + 7) / 8 := by simp [pack]
theorem pack_get (ds : List Bool) (k : Nat) (h : k < (ds.length + 7) / 8) : (pack ds)[k]? = some (byteAt ds k) := by simp [pack, h]
theorem pack_lt (ds : List Bool) : ∀ x ∈ pack ds, x < 256 := by
  intro x hx; simp [pack] at hx; obtain ⟨k, _, rfl⟩ := hx; exact byteAt_lt ds k

theorem byteAt_snoc_other (ds : List Bool) (d : Bool) (k : Nat) (h : k ≠ ds.length / 8) : byteAt (ds ++ [d]) k = byteAt ds k := by
  unfold byteAt
  rw [dg_snoc_lt, dg_snoc_lt, dg_snoc_lt, dg_snoc_lt, dg_snoc_lt, dg_snoc_lt, dg_snoc_lt, dg_snoc_lt] <;> omega

theorem byteAt_snoc (ds : List Bool) (d : Bool) : byteAt (ds ++ [d]) (ds.length / 8) = byteAt ds (ds.length / 8) + d.toNat * 2 ^ (7 - ds.length % 8) := by
  have hd : ∀ i, ds.length ≤ i → dg ds i = 0 := fun i h => dg_out ds i h
  have hs : ∀ i, i = ds.length → dg (ds ++ [d]) i = d.toNat := fun i h => by subst h; exact dg_snoc ds d
  have ho : ∀ i, i ≠ ds.length → dg (ds ++ [d]) i = dg ds i := fun i h => dg_snoc_lt ds d i h
  have hr : ds.length % 8 = 0 ∨ ds.length % 8 = 1 ∨ ds.length % 8 = 2 ∨ ds.length % 8 = 3 ∨ ds.length % 8 = 4 ∨ ds.length % 8 = 5 ∨ ds.length % 8 = 6 ∨ ds.length % 8 = 7 := by omega
  unfold byteAt
  rcases hr with h | h | h | h | h | h | h | h <;> rw [h]
  · rw [hs (8 * (ds.length / 8)) (by omega), hd (8 * (ds.length / 8)) (by omega), ho (8 * (ds.length / 8) + 1) (by omega), ho (8 * (ds.length / 8) + 2) (by omega), ho (8 * (ds.length / 8) + 3) (by omega), ho (8 * (ds.length / 8) + 4) (by omega), ho (8 * (ds.length / 8) + 5) (by omega), ho (8 * (ds.length / 8) + 6) (by omega), ho (8 * (ds.length / 8) + 7) (by omega)]; omega
  · rw [ho (8 * (ds.length / 8)) (by omega), hs (8 * (ds.length / 8) + 1) (by omega), hd (8 * (ds.length / 8) + 1) (by omega), ho (8 * (ds.length / 8) + 2) (by omega), ho (8 * (ds.length / 8) + 3) (by omega), ho (8 * (ds.length / 8) + 4) (by omega), ho (8 * (ds.length / 8) + 5) (by omega), ho (8 * (ds.length / 8) + 6) (by omega), ho (8 * (ds.length / 8) + 7) (by omega)]; omega
  · rw [ho (8 * (ds.length / 8)) (by omega), ho (8 * (ds.length / 8) + 1) (by omega), hs (8 * (ds.length / 8) + 2) (by omega), hd (8 * (ds.length / 8) + 2) (by omega), ho (8 * (ds.length / 8) + 3) (by omega), ho (8 * (ds.length / 8) + 4) (by omega), ho (8 * (ds.length / 8) + 5) (by omega), ho (8 * (ds.length / 8) + 6) (by omega), ho (8 * (ds.length / 8) + 7) (by omega)]; omega
  · rw [ho (8 * (ds.length / 8)) (by omega), ho (8 * (ds.length / 8) + 1) (by omega), ho (8 * (ds.length / 8) + 2) (by omega), hs (8 * (ds.length / 8) + 3) (by omega), hd (8 * (ds.length / 8) + 3) (by omega), ho (8 * (ds.length / 8) + 4) (by omega), ho (8 * (ds.length / 8) + 5) (by omega), ho (8 * (ds.length / 8) + 6) (by omega), ho (8 * (ds.length / 8) + 7) (by omega)]; omega
  · rw [ho (8 * (ds.length / 8)) (by omega), ho (8 * (ds.length / 8) + 1) (by omega), ho (8 * (ds.length / 8) + 2) (by omega), ho (8 * (ds.length / 8) + 3) (by omega), hs (8 * (ds.length / 8) + 4) (by omega), hd (8 * (ds.length / 8) + 4) (by omega), ho (8 * (ds.length / 8) + 5) (by omega), ho (8 * (ds.length / 8) + 6) (by omega), ho (8 * (ds.length / 8) + 7) (by omega)]; omega
  · rw [ho (8 * (ds.length / 8)) (by omega), ho (8 * (ds.length / 8) + 1) (by omega), ho (8 * (ds.length / 8) + 2) (by omega), ho (8 * (ds.length / 8) + 3) (by omega), ho (8 * (ds.length / 8) + 4) (by omega), hs (8 * (ds.length / 8) + 5) (by omega), hd (8 * (ds.length / 8) + 5) (by omega), ho (8 * (ds.length / 8) + 6) (by omega), ho (8 * (ds.length / 8) + 7) (by omega)]; omega
  · rw [ho (8 * (ds.length / 8)) (by omega), ho (8 * (ds.length / 8) + 1) (by omega), ho (8 * (ds.length / 8) + 2) (by omega), ho (8 * (ds.length / 8) + 3) (by omega), ho (8 * (ds.length / 8) + 4) (by omega), ho (8 * (ds.length / 8) + 5) (by omega), hs (8 * (ds.length / 8) + 6) (by omega), hd (8 * (ds.length / 8) + 6) (by omega), ho (8 * (ds.length / 8) + 7) (by omega)]; omega
  · rw [ho (8 * (ds.length / 8)) (by omega), ho (8 * (ds.length / 8) + 1) (by omega), ho (8 * (ds.length / 8) + 2) (by omega), ho (8 * (ds.length / 8) + 3) (by omega), ho (8 * (ds.length / 8) + 4) (by omega), ho (8 * (ds.length / 8) + 5) (by omega), ho (8 * (ds.length / 8) + 6) (by omega), hs (8 * (ds.length / 8) + 7) (by omega), hd (8 * (ds.length / 8) + 7) (by omega)]; omega

/-- Behind the last digit of the last byte there are noughts. -/
theorem byteAt_low (ds : List Bool) : byteAt ds (ds.length / 8) % 2 ^ (8 - ds.length % 8) = 0 := by
  have hd : ∀ i, ds.length ≤ i → dg ds i = 0 := fun i h => dg_out ds i h
  have hr : ds.length % 8 = 0 ∨ ds.length % 8 = 1 ∨ ds.length % 8 = 2 ∨ ds.length % 8 = 3 ∨ ds.length % 8 = 4 ∨ ds.length % 8 = 5 ∨ ds.length % 8 = 6 ∨ ds.length % 8 = 7 := by omega
  unfold byteAt
  have h7 := hd (8 * (ds.length / 8) + 7) (by omega)
  rcases hr with h | h | h | h | h | h | h | h <;> rw [h]
  · rw [h7, hd (8 * (ds.length / 8)) (by omega), hd (8 * (ds.length / 8) + 1) (by omega), hd (8 * (ds.length / 8) + 2) (by omega), hd (8 * (ds.length / 8) + 3) (by omega), hd (8 * (ds.length / 8) + 4) (by omega), hd (8 * (ds.length / 8) + 5) (by omega), hd (8 * (ds.length / 8) + 6) (by omega)]
  · rw [h7, hd (8 * (ds.length / 8) + 1) (by omega), hd (8 * (ds.length / 8) + 2) (by omega), hd (8 * (ds.length / 8) + 3) (by omega), hd (8 * (ds.length / 8) + 4) (by omega), hd (8 * (ds.length / 8) + 5) (by omega), hd (8 * (ds.length / 8) + 6) (by omega)]; omega
  · rw [h7, hd (8 * (ds.length / 8) + 2) (by omega), hd (8 * (ds.length / 8) + 3) (by omega), hd (8 * (ds.length / 8) + 4) (by omega), hd (8 * (ds.length / 8) + 5) (by omega), hd (8 * (ds.length / 8) + 6) (by omega)]; omega
  · rw [h7, hd (8 * (ds.length / 8) + 3) (by omega), hd (8 * (ds.length / 8) + 4) (by omega), hd (8 * (ds.length / 8) + 5) (by omega), hd (8 * (ds.length / 8) + 6) (by omega)]; omega
  · rw [h7, hd (8 * (ds.length / 8) + 4) (by omega), hd (8 * (ds.length / 8) + 5) (by omega), hd (8 * (ds.length / 8) + 6) (by omega)]; omega
  · rw [h7, hd (8 * (ds.length / 8) + 5) (by omega), hd (8 * (ds.length / 8) + 6) (by omega)]; omega
  · rw [h7, hd (8 * (ds.length / 8) + 6) (by omega)]; omega
  · rw [h7]; omega

theorem byteAt_or (ds : List Bool) (d : Bool) : bits BinOp.or IntKind.u8 (byteAt ds (ds.length / 8) : Nat) ((d.toNat : Int) * 2 ^ (7 - ds.length % 8) % 256) = (byteAt (ds ++ [d]) (ds.length / 8) : Nat) := by
  have hb := byteAt_lt ds (ds.length / 8)
  have hl := byteAt_low ds
  have hp : 2 ^ (7 - ds.length % 8) ≤ 128 := by
    have : 2 ^ (7 - ds.length % 8) ≤ 2 ^ 7 := Nat.pow_le_pow_right (by decide) (by omega)
    simpa using this
  have hp0 : 0 < 2 ^ (7 - ds.length % 8) := Nat.pow_pos (by decide)
  have hy : d.toNat * 2 ^ (7 - ds.length % 8) ≤ 2 ^ (7 - ds.length % 8) := by cases d <;> simp
  have e : ((d.toNat : Int) * 2 ^ (7 - ds.length % 8) % 256) = ((d.toNat * 2 ^ (7 - ds.length % 8) : Nat) : Int) := by
    have h1 : ((d.toNat : Int) * 2 ^ (7 - ds.length % 8)) = ((d.toNat * 2 ^ (7 - ds.length % 8) : Nat) : Int) := by push_cast; rfl
    rw [h1]; omega
  rw [e, u8_or_nat _ _ hb (by omega), byteAt_snoc]
  congr 1
  have e8 : 8 - ds.length % 8 = (7 - ds.length % 8) + 1 := by omega
  rw [e8, Nat.pow_succ] at hl
  exact nat_join (7 - ds.length % 8 + 1) _ _ (by rw [Nat.pow_succ]; exact hl) (by rw [Nat.pow_succ]; omega)

theorem pack_snoc_new (ds : List Bool) (d : Bool) (h : ds.length % 8 = 0) : pack (ds ++ [d]) = (pack ds ++ [0]).set (ds.length / 8) (byteAt (ds ++ [d]) (ds.length / 8)) := by
  apply List.ext_getElem?
  intro k
  by_cases hk : k < (ds.length + 1 + 7) / 8
  · rw [pack_get _ _ (by simpa using hk), List.getElem?_set]
    by_cases he : ds.length / 8 = k
    · rw [if_pos he, if_pos (by simp; omega)]; rw [he]
    · rw [if_neg he, List.getElem?_append_left (by simp; omega), pack_get _ _ (by omega), byteAt_snoc_other _ _ _ (by omega)]
  · rw [List.getElem?_eq_none (by simp; omega), List.getElem?_eq_none (by simp; omega)]

theorem pack_snoc_room (ds : List Bool) (d : Bool) (h : ds.length % 8 ≠ 0) : pack (ds ++ [d]) = (pack ds).set (ds.length / 8) (byteAt (ds ++ [d]) (ds.length / 8)) := by
  apply List.ext_getElem?
  intro k
  by_cases hk : k < (ds.length + 7) / 8
  · rw [pack_get _ _ (by simp; omega), List.getElem?_set]
    by_cases he : ds.length / 8 = k
    · rw [if_pos he, if_pos (by simp; omega)]; rw [he]
    · rw [if_neg he, pack_get _ _ (by omega), byteAt_snoc_other _ _ _ (by omega)]
  · rw [List.getElem?_eq_none (by simp; omega), List.getElem?_eq_none (by simp; omega)]

theorem byteAt_zero (ds : List Bool) (h : ds.length % 8 = 0) : byteAt ds (ds.length / 8) = 0 := by
  have := byteAt_low ds; rw [h] at this; have := byteAt_lt ds (ds.length / 8); omega

/-- The digits of bytes. -/
def digitOf (x : Nat) (j : Nat) : Bool := x / 2 ^ (7 - j) % 2 == 1
def unpack (l : List Nat) : List Bool := l.flatMap fun x => (List.range 8).map (digitOf x)
@[simp] theorem unpack_nil : unpack [] = [] := rfl
@[simp] theorem unpack_cons (x : Nat) (l : List Nat) : unpack (x :: l) = (List.range 8).map (digitOf x) ++ unpack l := rfl
@[simp] theorem length_unpack (l : List Nat) : (unpack l).length = 8 * l.length := by
  induction l with
  | nil => rfl
  | cons x l ih => simp [ih]; omega
theorem unpack_get : ∀ (l : List Nat) (i : Nat), (unpack l)[i]? = l[i / 8]?.map (digitOf · (i % 8))
  | [], i => by simp
  | x :: l, i => by
    by_cases h : i < 8
    · have e : i / 8 = 0 := by omega
      have e2 : i % 8 = i := by omega
      rw [unpack_cons, List.getElem?_append_left (by simpa using h), e, e2]
      simp [h]
    · have e : i / 8 = (i - 8) / 8 + 1 := by omega
      have e2 : i % 8 = (i - 8) % 8 := by omega
      rw [unpack_cons, List.getElem?_append_right (by simp; omega), e, e2]
      simp [unpack_get l (i - 8)]

theorem digitOf_byteAt (ds : List Bool) (k j : Nat) (hj : j < 8) : digitOf (byteAt ds k) j = ds.getD (8 * k + j) false := by
  have h0 := dg_le ds (8 * k); have h1 := dg_le ds (8 * k + 1); have h2 := dg_le ds (8 * k + 2); have h3 := dg_le ds (8 * k + 3)
  have h4 := dg_le ds (8 * k + 4); have h5 := dg_le ds (8 * k + 5); have h6 := dg_le ds (8 * k + 6); have h7 := dg_le ds (8 * k + 7)
  have e : ds.getD (8 * k + j) false = (dg ds (8 * k + j) == 1) := by unfold dg; cases ds.getD (8 * k + j) false <;> rfl
  rw [e]
  have hr : j = 0 ∨ j = 1 ∨ j = 2 ∨ j = 3 ∨ j = 4 ∨ j = 5 ∨ j = 6 ∨ j = 7 := by omega
  unfold digitOf byteAt
  rcases hr with h | h | h | h | h | h | h | h <;> subst h
  all_goals
    congr 1
    simp only [Nat.add_zero, Nat.sub_zero, Nat.reduceSub, Nat.reducePow]
    omega

/-- What was packed is there again, noughts behind it. -/
theorem unpack_pack (ds : List Bool) : unpack (pack ds) = ds ++ List.replicate ((8 - ds.length % 8) % 8) false := by
  apply List.ext_getElem?
  intro i
  rw [unpack_get]
  by_cases h : i < 8 * ((ds.length + 7) / 8)
  · rw [pack_get _ _ (by omega), Option.map_some, digitOf_byteAt _ _ _ (by omega)]
    have e : 8 * (i / 8) + i % 8 = i := by omega
    rw [e]
    by_cases hi : i < ds.length
    · rw [List.getElem?_append_left hi]; simp [List.getD, hi]
    · rw [List.getElem?_append_right (by omega), List.getElem?_replicate, if_pos (by omega)]
      simp [List.getD, List.getElem?_eq_none (by omega : ds.length ≤ i)]
  · rw [List.getElem?_eq_none (by simp; omega), List.getElem?_eq_none (by simp; omega)]; rfl

/-- The n lowest digits of a number, the greatest first. -/
def dig (v : Int) : Nat → List Bool
  | 0 => []
  | n + 1 => (v / 2 ^ n % 2 == 1) :: dig v n
@[simp] theorem length_dig (v : Int) (n : Nat) : (dig v n).length = n := by induction n with | zero => rfl | succ n ih => simp [dig, ih]

/-- The number of digits. -/
def num (ds : List Bool) : Nat := ds.foldl (fun a d => 2 * a + d.toNat) 0
theorem num_snoc (ds : List Bool) (d : Bool) : num (ds ++ [d]) = 2 * num ds + d.toNat := by simp [num]
@[simp] theorem num_nil : num [] = 0 := rfl

theorem num_lt (ds : List Bool) : num ds < 2 ^ ds.length := by
  suffices ∀ (ds : List Bool) (a m : Nat), a < 2 ^ m → ds.foldl (fun a d => 2 * a + d.toNat) a < 2 ^ (m + ds.length) by
    simpa [num] using this ds 0 0 (by decide)
  intro ds
  induction ds with
  | nil => intro a m h; simpa using h
  | cons d ds ih =>
    intro a m h
    have := ih (2 * a + d.toNat) (m + 1) (by rw [Nat.pow_succ]; cases d <;> simp <;> omega)
    simp only [List.foldl_cons, List.length_cons]
    rw [show m + (ds.length + 1) = m + 1 + ds.length by omega]
    exact this

theorem or_i64 (v : Nat) (d : Bool) (hv : v < 4611686018427387904) : bits BinOp.or IntKind.i64 ((v : Int) * 2) (d.toNat : Int) = (v : Int) * 2 + (d.toNat : Int) := by
  have e : ((v : Int) * 2) = ((v * 2 : Nat) : Int) := by push_cast; rfl
  have hd : d.toNat ≤ 1 := by cases d <;> decide
  rw [e]
  show IntKind.i64.wrap ((BitVec.ofInt 64 ((v * 2 : Nat) : Int) ||| BitVec.ofInt 64 ((d.toNat : Nat) : Int)).toNat : Int) = _
  rw [BitVec.toNat_or, ofInt_u64 (v * 2) (by omega), ofInt_u64 d.toNat (by omega)]
  have hj : v * 2 ||| d.toNat = v * 2 + d.toNat := nat_join 1 _ _ (by simp) (by omega)
  rw [hj]
  have hw : ∀ n : Nat, n < 9223372036854775808 → IntKind.i64.wrap ((n : Nat) : Int) = (n : Int) := by
    intro n hn
    simp [IntKind.wrap, IntKind.bits, IntKind.signed]
    omega
  rw [hw _ (by omega)]
  push_cast; rfl

theorem take_drop_snoc (ds : List Bool) (k j : Nat) (d : Bool) (h : ds[k + j]? = some d) : (ds.drop k).take (j + 1) = (ds.drop k).take j ++ [d] := by
  rw [List.take_add_one, List.getElem?_drop, h]; rfl

theorem pow_pos_int (n : Nat) : (0 : Int) < 2 ^ n := Int.pow_pos (by decide)
theorem pow_cast (n : Nat) : ((2 ^ n : Nat) : Int) = 2 ^ n := by push_cast; rfl

theorem dig_append (v : Int) (n m : Nat) : dig v (n + m) = dig (v / 2 ^ m) n ++ dig v m := by
  induction n with
  | zero => simp [dig]
  | succ n ih =>
    have e : n + 1 + m = (n + m) + 1 := by omega
    rw [e]
    simp only [dig, List.cons_append, ih]
    have e2 : v / 2 ^ (n + m) = v / 2 ^ m / 2 ^ n := by
      rw [Int.ediv_ediv_of_nonneg (Int.le_of_lt (pow_pos_int m)), ← Int.pow_add, Nat.add_comm]
    rw [e2]

theorem foldl_num (ds : List Bool) : ∀ a : Nat, ds.foldl (fun a d => 2 * a + d.toNat) a = a * 2 ^ ds.length + num ds := by
  induction ds with
  | nil => intro a; simp
  | cons d ds ih =>
    intro a
    have h1 := ih (2 * a + d.toNat)
    have h2 := ih (2 * 0 + d.toNat)
    simp only [num, List.foldl_cons, List.length_cons] at *
    rw [h1, h2, Nat.pow_succ, Nat.add_mul, Nat.add_mul]
    have : 2 * a * 2 ^ ds.length = a * (2 ^ ds.length * 2) := by rw [Nat.mul_comm 2 a, Nat.mul_assoc, Nat.mul_comm 2]
    omega
theorem num_cons (d : Bool) (ds : List Bool) : num (d :: ds) = d.toNat * 2 ^ ds.length + num ds := by
  have := foldl_num ds (2 * 0 + d.toNat)
  simp only [num, List.foldl_cons] at *
  simpa using this

theorem mod_pow_succ (v : Int) (n : Nat) : v % 2 ^ (n + 1) = 2 ^ n * (v / 2 ^ n % 2) + v % 2 ^ n := by
  have hp := pow_pos_int n
  have e : v / (2 ^ n * 2) = v / 2 ^ n / 2 := (Int.ediv_ediv_of_nonneg (Int.le_of_lt hp)).symm
  rw [Int.pow_succ, Int.emod_def v (2 ^ n * 2), Int.emod_def (v / 2 ^ n) 2, Int.emod_def v (2 ^ n), e, Int.mul_sub, Int.mul_assoc]
  omega

theorem num_dig (v : Int) (n : Nat) : ((num (dig v n) : Nat) : Int) = v % 2 ^ n := by
  induction n with
  | zero => simp [dig]
  | succ n ih =>
    rw [dig, num_cons, mod_pow_succ, ← ih, length_dig]
    have hb : v / 2 ^ n % 2 = 0 ∨ v / 2 ^ n % 2 = 1 := by omega
    have hc := pow_cast n
    rcases hb with h | h
    · simp [h]
    · simp [h]

end Go.Proofs.Ytdcnbakmmkbodaa.Dg

/- Plain mathematics of a sum of 32 binary digits: a digit at a step, a byte at a step, bursts: no program in sight. -/
namespace Go.Proofs.Ytdcnbakmmkbodaa.Cr
set_option linter.unusedVariables false
set_option linter.unusedSimpArgs false
open Dg

/-- A sum moved up by one digit. -/
def up (v : BitVec 32) : BitVec 32 := (v <<< 1) ^^^ (if v.msb then 0x04C11DB7#32 else 0#32)
/-- By n digits. -/
def upN : Nat → BitVec 32 → BitVec 32
  | 0, v => v
  | n + 1, v => upN n (up v)
/-- A byte more. -/
def stepB (v : BitVec 32) (c : Nat) : BitVec 32 := upN 8 (v ^^^ (BitVec.ofNat 32 c <<< 24))
/-- A row of bytes more. -/
def crc (v : BitVec 32) (l : List Nat) : BitVec 32 := l.foldl stepB v
/-- The sum of a row. -/
def ones : BitVec 32 := 0xFFFFFFFF#32

theorem up_zero : up 0#32 = 0#32 := by decide
theorem up_xor (a b : BitVec 32) : up (a ^^^ b) = up a ^^^ up b := by
  unfold up
  rw [BitVec.msb_xor, BitVec.shiftLeft_xor_distrib]
  cases a.msb <;> cases b.msb <;> simp
  · ac_rfl
  · ac_rfl
  · have : ∀ x y z : BitVec 32, x ^^^ z ^^^ (y ^^^ z) = x ^^^ y := fun x y z => by
      rw [BitVec.xor_assoc, BitVec.xor_comm y z, ← BitVec.xor_assoc z z y, BitVec.xor_self, BitVec.zero_xor]
    exact (this _ _ _).symm
theorem up_get0 (v : BitVec 32) : (up v).getLsbD 0 = v.msb := by
  unfold up
  rw [BitVec.getLsbD_xor, BitVec.getLsbD_shiftLeft]
  cases v.msb <;> simp
theorem up_eq_zero {v : BitVec 32} (h : up v = 0#32) : v = 0#32 := by
  have hm : v.msb = false := by rw [← up_get0, h]; simp
  have h2 : v <<< 1 = 0#32 := by unfold up at h; rw [hm] at h; simpa using h
  apply BitVec.eq_of_getLsbD_eq
  intro i hi
  by_cases h31 : i = 31
  · subst h31; rw [BitVec.msb_eq_getLsbD_last] at hm; simpa using hm
  · have h3 := congrArg (fun x => x.getLsbD (i + 1)) h2
    simp only [BitVec.getLsbD_shiftLeft] at h3
    have : i + 1 < 32 := by omega
    simpa [this] using h3
theorem upN_zero : ∀ n, upN n 0#32 = 0#32
  | 0 => rfl
  | n + 1 => by rw [upN, up_zero, upN_zero n]
theorem upN_xor : ∀ (n : Nat) (a b : BitVec 32), upN n (a ^^^ b) = upN n a ^^^ upN n b
  | 0, a, b => rfl
  | n + 1, a, b => by rw [upN, up_xor, upN_xor n]; rfl
theorem upN_eq_zero : ∀ (n : Nat) {v : BitVec 32}, upN n v = 0#32 → v = 0#32
  | 0, v, h => h
  | n + 1, v, h => up_eq_zero (upN_eq_zero n h)
theorem xor_eq_zero {a b : BitVec 32} (h : a ^^^ b = 0#32) : a = b := by
  have h1 : (a ^^^ b) ^^^ b = b := by rw [h, BitVec.zero_xor]
  rw [BitVec.xor_assoc, BitVec.xor_self, BitVec.xor_zero] at h1
  exact h1
theorem upN_inj {n : Nat} {a b : BitVec 32} (h : upN n a = upN n b) : a = b := by
  apply xor_eq_zero
  apply upN_eq_zero n
  rw [upN_xor, h, BitVec.xor_self]
theorem upN_add : ∀ (m n : Nat) (v : BitVec 32), upN n (upN m v) = upN (m + n) v
  | 0, n, v => by simp [upN]
  | m + 1, n, v => by rw [upN, upN_add m n, Nat.add_right_comm, upN]

theorem crc_nil (v : BitVec 32) : crc v [] = v := rfl
theorem crc_cons (v : BitVec 32) (c : Nat) (l : List Nat) : crc v (c :: l) = crc (stepB v c) l := rfl
theorem crc_append (v : BitVec 32) (l m : List Nat) : crc v (l ++ m) = crc (crc v l) m := by simp [crc]
theorem crc_snoc (v : BitVec 32) (l : List Nat) (c : Nat) : crc v (l ++ [c]) = stepB (crc v l) c := by simp [crc]
theorem crc_take (v : BitVec 32) (l : List Nat) (k c : Nat) (h : l[k]? = some c) : crc v (l.take (k + 1)) = stepB (crc v (l.take k)) c := by
  rw [List.take_add_one, h]; exact crc_snoc _ _ _

theorem xor_swap4 (a b c d : BitVec 32) : a ^^^ b ^^^ (c ^^^ d) = a ^^^ c ^^^ (b ^^^ d) := by
  rw [BitVec.xor_assoc, BitVec.xor_assoc, ← BitVec.xor_assoc b c d, BitVec.xor_comm b c, BitVec.xor_assoc c b d]

/-- By the table. -/
theorem low_up (w : BitVec 32) : ∀ (k : Nat), (∀ i, 32 - k ≤ i → i < 32 → w.getLsbD i = false) → k ≤ 32 → upN k w = w <<< k
  | 0, _, _ => by simp [upN]
  | k + 1, h, hk => by
    have hm : w.msb = false := by rw [BitVec.msb_eq_getLsbD_last]; simp; exact h 31 (by omega) (by omega)
    have e : up w = w <<< 1 := by unfold up; rw [hm]; simp
    rw [upN, e, low_up (w <<< 1) k]
    · rw [← BitVec.shiftLeft_add, Nat.add_comm]
    · intro i h1 h2
      rw [BitVec.getLsbD_shiftLeft]
      by_cases h0 : i < 1
      · simp [h0]
      · simp only [h2, h0, decide_true, decide_false, Bool.not_false, Bool.true_and]
        exact h (i - 1) (by omega) (by omega)
    · omega

theorem split24 (v c : BitVec 32) : v ^^^ (c <<< 24) = (((v >>> 24) ^^^ c) <<< 24) ^^^ (v &&& 0xFFFFFF#32) := by
  apply BitVec.eq_of_getLsbD_eq
  intro i hi
  have e : (0xFFFFFF#32 : BitVec 32).getLsbD i = decide (i < 24) := by
    have : ∀ j : Fin 32, (0xFFFFFF#32 : BitVec 32).getLsbD j = decide (j.val < 24) := by decide
    exact this ⟨i, hi⟩
  simp only [BitVec.getLsbD_xor, BitVec.getLsbD_shiftLeft, BitVec.getLsbD_and, BitVec.getLsbD_ushiftRight, e, hi, decide_true, Bool.true_and]
  by_cases h : i < 24
  · simp [h]
  · have e2 : 24 + (i - 24) = i := by omega
    simp [h, e2]

theorem step_table (v : BitVec 32) (c : Nat) : stepB v c = (v <<< 8) ^^^ upN 8 (((v >>> 24) ^^^ BitVec.ofNat 32 c) <<< 24) := by
  unfold stepB
  have e : (v &&& 0xFFFFFF#32) <<< 8 = v <<< 8 := by
    apply BitVec.eq_of_getLsbD_eq
    intro i hi
    have : ∀ j : Fin 32, (0xFFFFFF#32 : BitVec 32).getLsbD j = decide (j.val < 24) := by decide
    simp only [BitVec.getLsbD_shiftLeft, BitVec.getLsbD_and]
    by_cases h : i < 8
    · simp [h]
    · have := this ⟨i - 8, by omega⟩
      simp only at this
      rw [this]
      simp [show i - 8 < 24 by omega]
  rw [split24, upN_xor, low_up (v &&& 0xFFFFFF#32) 8 _ (by decide), e, BitVec.xor_comm]
  intro i h1 h2
  have : ∀ j : Fin 32, 24 ≤ j.val → (0xFFFFFF#32 : BitVec 32).getLsbD j = false := by decide
  rw [BitVec.getLsbD_and, this ⟨i, h2⟩ h1, Bool.and_false]

/-- A digit more. -/
def feed (v : BitVec 32) (d : Bool) : BitVec 32 := up (v ^^^ (if d then 0x80000000#32 else 0#32))
def feeds (v : BitVec 32) (ds : List Bool) : BitVec 32 := ds.foldl feed v
theorem feeds_append (v : BitVec 32) (ds es : List Bool) : feeds v (ds ++ es) = feeds (feeds v ds) es := by simp [feeds]
theorem feed_xor (a b : BitVec 32) (d e : Bool) : feed (a ^^^ b) (d ^^ e) = feed a d ^^^ feed b e := by
  unfold feed
  rw [← up_xor]
  congr 1
  rw [xor_swap4]
  congr 1
  cases d <;> cases e <;> decide
theorem feeds_xor : ∀ (ds es : List Bool) (a b : BitVec 32), ds.length = es.length → feeds (a ^^^ b) (List.zipWith (· ^^ ·) ds es) = feeds a ds ^^^ feeds b es
  | [], [], a, b, _ => rfl
  | [], e :: es, a, b, h => by simp at h
  | d :: ds, [], a, b, h => by simp at h
  | d :: ds, e :: es, a, b, h => by
    have h' : ds.length = es.length := by simpa using h
    show feeds (feed (a ^^^ b) (d ^^ e)) (List.zipWith (· ^^ ·) ds es) = feeds (feed a d) ds ^^^ feeds (feed b e) es
    rw [feed_xor, feeds_xor ds es _ _ h']
theorem feeds_noughts : ∀ (n : Nat) (v : BitVec 32), feeds v (List.replicate n false) = upN n v
  | 0, v => rfl
  | n + 1, v => by
    show feeds (feed v false) (List.replicate n false) = _
    rw [feeds_noughts n]; simp [feed, upN]
theorem feeds_split (v : BitVec 32) (ds : List Bool) : feeds v ds = upN ds.length v ^^^ feeds 0#32 ds := by
  have h := feeds_xor (List.replicate ds.length false) ds v 0#32 (by simp)
  rw [feeds_noughts, BitVec.xor_zero] at h
  rw [← h]
  congr 1
  apply List.ext_getElem?
  intro i
  by_cases hi : i < ds.length
  · simp [List.getElem?_zipWith, hi]
  · simp [List.getElem?_zipWith, hi]

theorem step_split (v : BitVec 32) (c : Nat) : stepB v c = upN 8 v ^^^ stepB 0#32 c := by
  unfold stepB; rw [upN_xor, BitVec.zero_xor]
theorem step_digits0 : ∀ x : Fin 256, feeds 0#32 ((List.range 8).map (digitOf x.val)) = stepB 0#32 x.val := by decide +kernel
theorem step_digits (v : BitVec 32) (x : Nat) (hx : x < 256) : feeds v ((List.range 8).map (digitOf x)) = stepB v x := by
  rw [feeds_split, step_split]
  congr 1
  exact step_digits0 ⟨x, hx⟩
theorem crc_digits : ∀ (l : List Nat) (v : BitVec 32), (∀ x ∈ l, x < 256) → crc v l = feeds v (unpack l)
  | [], v, _ => rfl
  | x :: l, v, h => by
    rw [crc_cons, unpack_cons, feeds_append, step_digits v x (h x (by simp)), crc_digits l _ (fun y hy => h y (by simp [hy]))]

/-- Digits at the top of a sum. -/
def top : List Bool → BitVec 32
  | [] => 0#32
  | d :: ds => (if d then 0x80000000#32 else 0#32) ^^^ (top ds >>> 1)
theorem top_get : ∀ (ds : List Bool) (i : Nat), i < 32 → (top ds).getLsbD i = ds.getD (31 - i) false
  | [], i, _ => by simp [top]
  | d :: ds, i, hi => by
    rw [top, BitVec.getLsbD_xor, BitVec.getLsbD_ushiftRight]
    have e : (if d then 0x80000000#32 else 0#32).getLsbD i = (decide (i = 31) && d) := by
      have : ∀ j : Fin 32, (0x80000000#32 : BitVec 32).getLsbD j = decide (j.val = 31) := by decide
      cases d
      · simp
      · simpa using this ⟨i, hi⟩
    rw [e]
    by_cases h : i = 31
    · subst h; simp
    · rw [Nat.add_comm 1 i, top_get ds (i + 1) (by omega)]
      have : 31 - i = (31 - (i + 1)) + 1 := by omega
      rw [this]
      simp [h]
theorem feeds_top : ∀ (ds : List Bool) (v : BitVec 32), ds.length ≤ 32 → feeds v ds = upN ds.length (v ^^^ top ds)
  | [], v, _ => by simp [feeds, upN, top]
  | d :: ds, v, h => by
    have hl : ds.length ≤ 31 := by simpa using h
    have e : up (top ds >>> 1) = top ds := by
      have hm : (top ds >>> 1).msb = false := by rw [BitVec.msb_eq_getLsbD_last, BitVec.getLsbD_ushiftRight]; simp
      unfold up
      rw [hm]
      apply BitVec.eq_of_getLsbD_eq
      intro i hi
      by_cases h0 : i = 0
      · subst h0
        rw [top_get ds 0 (by decide)]
        simp [List.getElem?_eq_none (show ds.length ≤ 31 from hl)]
      · have e1 : 1 + (i - 1) = i := by omega
        simp [BitVec.getLsbD_shiftLeft, BitVec.getLsbD_ushiftRight, hi, h0, e1]
    show feeds (feed v d) ds = upN ds.length (up (v ^^^ top (d :: ds)))
    rw [feeds_top ds _ (by omega)]
    congr 1
    rw [top, ← BitVec.xor_assoc, up_xor, e]
    rfl
theorem top_zero (ds : List Bool) (hl : ds.length ≤ 32) (h : top ds = 0#32) : ∀ j, ds.getD j false = false := by
  intro j
  by_cases hj : j < 32
  · have := top_get ds (31 - j) (by omega)
    rw [h, show 31 - (31 - j) = j by omega] at this
    rw [← this]; simp
  · simp [List.getD, List.getElem?_eq_none (show ds.length ≤ j by omega)]

/-- A burst is told. -/
theorem burst (a c : Nat) (bs : List Bool) (hl : bs.length ≤ 32) (j : Nat) (hj : bs.getD j false = true) :
    feeds 0#32 (List.replicate a false ++ bs ++ List.replicate c false) ≠ 0#32 := by
  intro h
  rw [feeds_append, feeds_append, feeds_noughts, feeds_noughts, upN_zero, feeds_top bs _ hl, BitVec.zero_xor] at h
  have := top_zero bs hl (upN_eq_zero _ (upN_eq_zero _ h)) j
  rw [hj] at this
  cases this

/-- A sum as four bytes, the greatest first. -/
def bytes4 (s : Nat) : List Nat := [s / 16777216 % 256, s / 65536 % 256, s / 256 % 256, s % 256]
@[simp] theorem length_bytes4 (s : Nat) : (bytes4 s).length = 4 := rfl
theorem bytes4_lt (s : Nat) : ∀ x ∈ bytes4 s, x < 256 := by
  intro x hx; simp [bytes4] at hx; omega
theorem top_bytes4 (v : BitVec 32) : top (unpack (bytes4 v.toNat)) = v := by
  apply BitVec.eq_of_getLsbD_eq
  intro i hi
  rw [top_get _ _ hi, List.getD_eq_getElem?_getD, unpack_get]
  have hd : ∀ x j, digitOf x j = x.testBit (7 - j) := fun x j => by
    rw [Nat.testBit_eq_decide_div_mod_eq]; unfold digitOf
    by_cases h : x / 2 ^ (7 - j) % 2 = 1 <;> simp [h]
  have e : v.getLsbD i = v.toNat.testBit i := rfl
  have hq : (31 - i) / 8 = 0 ∨ (31 - i) / 8 = 1 ∨ (31 - i) / 8 = 2 ∨ (31 - i) / 8 = 3 := by omega
  have p : ∀ (s k a : Nat), s / 2 ^ a % 256 = (s >>> a) % 2 ^ 8 := fun s k a => by rw [Nat.shiftRight_eq_div_pow]
  rcases hq with h | h | h | h <;> rw [h]
  · have := p v.toNat 0 24
    simp only [bytes4, List.getElem?_cons_zero, Option.map_some, Option.getD_some, hd]
    rw [show (16777216 : Nat) = 2 ^ 24 by decide, this, Nat.testBit_mod_two_pow, Nat.testBit_shiftRight, e]
    simp only [show 7 - (31 - i) % 8 < 8 by omega, decide_true, Bool.true_and]
    congr 1; omega
  · have := p v.toNat 0 16
    simp only [bytes4, List.getElem?_cons_zero, List.getElem?_cons_succ, Option.map_some, Option.getD_some, hd]
    rw [show (65536 : Nat) = 2 ^ 16 by decide, this, Nat.testBit_mod_two_pow, Nat.testBit_shiftRight, e]
    simp only [show 7 - (31 - i) % 8 < 8 by omega, decide_true, Bool.true_and]
    congr 1; omega
  · have := p v.toNat 0 8
    simp only [bytes4, List.getElem?_cons_zero, List.getElem?_cons_succ, Option.map_some, Option.getD_some, hd]
    rw [show v.toNat / 256 % 256 = v.toNat / 2 ^ 8 % 256 by rfl, this, Nat.testBit_mod_two_pow, Nat.testBit_shiftRight, e]
    simp only [show 7 - (31 - i) % 8 < 8 by omega, decide_true, Bool.true_and]
    congr 1; omega
  · simp only [bytes4, List.getElem?_cons_zero, List.getElem?_cons_succ, Option.map_some, Option.getD_some, hd]
    rw [show (256 : Nat) = 2 ^ 8 by decide, Nat.testBit_mod_two_pow, e]
    simp only [show 7 - (31 - i) % 8 < 8 by omega, decide_true, Bool.true_and]
    congr 1; omega
theorem crc_bytes4 (v s : BitVec 32) : crc v (bytes4 s.toNat) = upN 32 (v ^^^ s) := by
  rw [crc_digits _ _ (bytes4_lt _), feeds_top _ _ (by simp), top_bytes4]; rfl
/-- A row with its sum behind it has the sum 0. -/
theorem crc_whole (v : BitVec 32) (l : List Nat) : crc v (l ++ bytes4 (crc v l).toNat) = 0#32 := by
  rw [crc_append, crc_bytes4, BitVec.xor_self, upN_zero]
theorem crc_noughts : ∀ n, crc 0#32 (List.replicate n 0) = 0#32
  | 0 => rfl
  | n + 1 => by rw [List.replicate_succ, crc_cons, show stepB 0#32 0 = 0#32 by decide, crc_noughts n]

/-- One byte alone is told. -/
theorem step_inj {v : BitVec 32} {a b : Nat} (ha : a < 256) (hb : b < 256) (h : stepB v a = stepB v b) : a = b := by
  unfold stepB at h
  have h1 := upN_inj h
  have h2 : BitVec.ofNat 32 a <<< 24 = BitVec.ofNat 32 b <<< 24 := by
    have := congrArg (fun x => v ^^^ x) h1
    simpa [← BitVec.xor_assoc] using this
  have h3 := congrArg BitVec.toNat h2
  simp only [BitVec.toNat_shiftLeft, BitVec.toNat_ofNat, Nat.shiftLeft_eq] at h3
  omega
theorem step_injl {v u : BitVec 32} {c : Nat} (h : stepB v c = stepB u c) : v = u := by
  unfold stepB at h
  have h1 := upN_inj h
  have := congrArg (fun x => x ^^^ (BitVec.ofNat 32 c <<< 24)) h1
  simpa [BitVec.xor_assoc] using this
theorem crc_injl : ∀ (l : List Nat) {v u : BitVec 32}, crc v l = crc u l → v = u
  | [], v, u, h => h
  | c :: l, v, u, h => step_injl (crc_injl l h)
theorem crc_byte {v : BitVec 32} (p q : List Nat) {a b : Nat} (ha : a < 256) (hb : b < 256) (h : crc v (p ++ a :: q) = crc v (p ++ b :: q)) : a = b := by
  rw [crc_append, crc_append, crc_cons, crc_cons] at h
  exact step_inj ha hb (crc_injl q h)
theorem swap0 : ∀ x : Fin 256, upN 8 (BitVec.ofNat 32 x.val <<< 24) = BitVec.ofNat 32 x.val <<< 24 → x.val = 0 := by decide +kernel
theorem crc_swap {v : BitVec 32} (p q : List Nat) {a b : Nat} (ha : a < 256) (hb : b < 256) (h : crc v (p ++ a :: b :: q) = crc v (p ++ b :: a :: q)) : a = b := by
  simp only [crc_append, crc_cons] at h
  have h1 := crc_injl q h
  generalize crc v p = s at h1
  have h2 : stepB s a ^^^ (BitVec.ofNat 32 b <<< 24) = stepB s b ^^^ (BitVec.ofNat 32 a <<< 24) := upN_inj h1
  unfold stepB at h2
  rw [upN_xor, upN_xor] at h2
  have hd : a ^^^ b < 256 := Nat.xor_lt_two_pow (n := 8) ha hb
  have e : BitVec.ofNat 32 (a ^^^ b) <<< 24 = (BitVec.ofNat 32 a <<< 24) ^^^ (BitVec.ofNat 32 b <<< 24) := by
    rw [← BitVec.shiftLeft_xor_distrib]
    congr 1
    apply BitVec.eq_of_toNat_eq
    simp only [BitVec.toNat_xor, BitVec.toNat_ofNat]
    rw [Nat.mod_eq_of_lt (show a ^^^ b < 2 ^ 32 by omega), Nat.mod_eq_of_lt (show a < 2 ^ 32 by omega), Nat.mod_eq_of_lt (show b < 2 ^ 32 by omega)]
  have h3 := swap0 ⟨a ^^^ b, hd⟩ (by
    show upN 8 (BitVec.ofNat 32 (a ^^^ b) <<< 24) = BitVec.ofNat 32 (a ^^^ b) <<< 24
    rw [e, upN_xor]
    generalize upN 8 (BitVec.ofNat 32 a <<< 24) = A at h2 ⊢
    generalize upN 8 (BitVec.ofNat 32 b <<< 24) = B at h2 ⊢
    generalize BitVec.ofNat 32 a <<< 24 = x at h2 ⊢
    generalize BitVec.ofNat 32 b <<< 24 = y at h2 ⊢
    generalize upN 8 s = S at h2
    apply BitVec.eq_of_getLsbD_eq
    intro i hi
    have h5 := congrArg (fun z => z.getLsbD i) h2
    simp only [BitVec.getLsbD_xor] at h5 ⊢
    revert h5
    cases A.getLsbD i <;> cases B.getLsbD i <;> cases x.getLsbD i <;> cases y.getLsbD i <;> cases S.getLsbD i <;> decide)
  have h4 : a ^^^ b = 0 := h3
  apply Nat.eq_of_testBit_eq
  intro i
  have := congrArg (fun x => x.testBit i) h4
  simpa [Nat.testBit_xor] using this

end Go.Proofs.Ytdcnbakmmkbodaa.Cr

/- Plain mathematics of bursts: digits turned in a row: no program in sight. -/
namespace Go.Proofs.Ytdcnbakmmkbodaa
set_option linter.unusedVariables false
set_option linter.unusedSimpArgs false
open Dg Cr

/-- A byte with one digit turned. -/
def flip (c k : Nat) : Nat := c ^^^ 128 / 2 ^ (k % 8)
theorem mask_lt (k : Nat) : 128 / 2 ^ (k % 8) < 256 := Nat.lt_of_le_of_lt (Nat.div_le_self _ _) (by decide)
theorem mask_pos (k : Nat) : 0 < 128 / 2 ^ (k % 8) := by
  have : k % 8 ≤ 7 := by omega
  exact Nat.div_pos (Nat.le_trans (Nat.pow_le_pow_right (by decide) this) (by decide)) (Nat.pow_pos (by decide))
theorem flip_lt (c k : Nat) (hc : c < 256) : flip c k < 256 := Nat.xor_lt_two_pow (n := 8) hc (mask_lt k)
theorem xor_cancel (a b : Nat) : a ^^^ b ^^^ b = a := by rw [Nat.xor_assoc, Nat.xor_self, Nat.xor_zero]
theorem flip_flip (c k : Nat) : flip (flip c k) k = c := xor_cancel _ _
theorem flip_ne (c k : Nat) : flip c k ≠ c := by
  intro h
  have h1 : c ^^^ (c ^^^ 128 / 2 ^ (k % 8)) = c ^^^ c := by have := congrArg (c ^^^ ·) h; exact this
  rw [← Nat.xor_assoc, Nat.xor_self, Nat.zero_xor] at h1
  have := mask_pos k
  omega
theorem flip_num (c k : Nat) (hc : c < 256) : bits BinOp.xor IntKind.u8 (c : Int) (128 / 2 ^ (k % 8)) = ((flip c k : Nat) : Int) := by
  have e : (128 : Int) / 2 ^ (k % 8) = ((128 / 2 ^ (k % 8) : Nat) : Int) := by push_cast; rfl
  rw [e, u8_xor_nat _ _ hc (mask_lt k)]; rfl

theorem digitOf_bit (x j : Nat) : digitOf x j = x.testBit (7 - j) := by
  rw [Nat.testBit_eq_decide_div_mod_eq]; unfold digitOf
  by_cases h : x / 2 ^ (7 - j) % 2 = 1 <;> simp [h]
theorem digitOf_flip (c k j : Nat) (hj : j < 8) : digitOf (flip c k) j = (digitOf c j ^^ decide (j = k % 8)) := by
  have hk : k % 8 < 8 := by omega
  have e : 128 / 2 ^ (k % 8) = 2 ^ (7 - k % 8) := by
    have := Nat.pow_div (show k % 8 ≤ 7 by omega) (show 0 < 2 by decide)
    rw [← this]
  rw [digitOf_bit, digitOf_bit, flip, e, Nat.testBit_xor, Nat.testBit_two_pow]
  congr 1
  by_cases h : j = k % 8
  · subst h; simp
  · have : ¬ (7 - k % 8 = 7 - j) := by omega
    simp [h, this]

/-- A row with its k-th digit turned. -/
def turn (l : List Nat) (k : Nat) : List Nat := l.set (k / 8) (flip (l.getD (k / 8) 0) k)
@[simp] theorem length_turn (l : List Nat) (k : Nat) : (turn l k).length = l.length := by simp [turn]
theorem turn_lt (l : List Nat) (k : Nat) (h : ∀ x ∈ l, x < 256) : ∀ x ∈ turn l k, x < 256 := by
  intro x hx
  rcases List.mem_or_eq_of_mem_set hx with h1 | h1
  · exact h x h1
  · rw [h1]
    apply flip_lt
    by_cases hk : k / 8 < l.length
    · have : l.getD (k / 8) 0 = l[k / 8] := by simp [List.getD, hk]
      rw [this]; exact h _ (by simp)
    · simp [List.getD, List.getElem?_eq_none (show l.length ≤ k / 8 by omega)]
theorem turn_digit (l : List Nat) (k j : Nat) : (unpack (turn l k))[j]? = (unpack l)[j]?.map (· ^^ decide (j = k)) := by
  rw [unpack_get, unpack_get, turn, List.getElem?_set]
  by_cases h : k / 8 = j / 8
  · rw [if_pos h]
    by_cases hl : k / 8 < l.length
    · rw [if_pos hl, ← h]
      have e : l[k / 8]? = some l[k / 8] := by simp [hl]
      have e2 : l.getD (k / 8) 0 = l[k / 8] := by simp [List.getD, hl]
      rw [e, e2]
      simp only [Option.map_some]
      rw [digitOf_flip _ _ _ (by omega)]
      have : decide (j % 8 = k % 8) = decide (j = k) := by
        by_cases hjk : j = k
        · simp [hjk]
        · have : ¬ j % 8 = k % 8 := by omega
          simp [hjk, this]
      rw [this]
    · rw [if_neg hl, ← h, List.getElem?_eq_none (show l.length ≤ k / 8 by omega)]; rfl
  · rw [if_neg h]
    have hjk : ¬ j = k := fun e => h (by rw [e])
    cases l[j / 8]? <;> simp [hjk]

/-- The first i digits of a burst, turned from the place at on. -/
def turned (l : List Nat) (at_ b : Nat) : Nat → List Nat
  | 0 => l
  | i + 1 => if b / 2 ^ i % 2 = 1 then turn (turned l at_ b i) (at_ + i) else turned l at_ b i
@[simp] theorem length_turned (l : List Nat) (at_ b i : Nat) : (turned l at_ b i).length = l.length := by
  induction i with
  | zero => rfl
  | succ i ih => simp only [turned]; split <;> simp [ih]
theorem turned_lt (l : List Nat) (at_ b i : Nat) (h : ∀ x ∈ l, x < 256) : ∀ x ∈ turned l at_ b i, x < 256 := by
  induction i with
  | zero => exact h
  | succ i ih => simp only [turned]; split; exact turn_lt _ _ ih; exact ih
theorem turned_digit (l : List Nat) (at_ b : Nat) : ∀ i j, (unpack (turned l at_ b i))[j]? = (unpack l)[j]?.map (· ^^ (decide (at_ ≤ j) && decide (j < at_ + i) && b.testBit (j - at_)))
  | 0, j => by
    have : (decide (at_ ≤ j) && decide (j < at_ + 0) && b.testBit (j - at_)) = false := by
      by_cases h : at_ ≤ j
      · have : ¬ j < at_ := by omega
        simp [this]
      · simp [h]
    rw [this]; cases h : (unpack l)[j]? <;> simp [turned, h]
  | i + 1, j => by
    have ih := turned_digit l at_ b i j
    have hb : b.testBit i = decide (b / 2 ^ i % 2 = 1) := Nat.testBit_eq_decide_div_mod_eq
    by_cases h : b / 2 ^ i % 2 = 1
    · rw [turned, if_pos h, turn_digit, ih]
      cases (unpack l)[j]? with
      | none => rfl
      | some d =>
        simp only [Option.map_some]
        congr 1
        by_cases hj : j = at_ + i
        · have e : j - at_ = i := by omega
          have h1 : ¬ j < at_ + i := by omega
          have h2 : j < at_ + (i + 1) := by omega
          have h3 : at_ ≤ j := by omega
          rw [e, hb]
          simp [hj, h]
        · have : decide (j < at_ + (i + 1)) = decide (j < at_ + i) := by
            by_cases h1 : j < at_ + i
            · simp [h1, show j < at_ + (i + 1) by omega]
            · simp [h1, show ¬ j < at_ + (i + 1) by omega]
          rw [this]; simp [hj]
    · rw [turned, if_neg h, ih]
      cases (unpack l)[j]? with
      | none => rfl
      | some d =>
        simp only [Option.map_some]
        congr 2
        by_cases hj : j = at_ + i
        · have e : j - at_ = i := by omega
          rw [e, hb]; simp [h]
        · have : decide (j < at_ + (i + 1)) = decide (j < at_ + i) := by
            by_cases h1 : j < at_ + i
            · simp [h1, show j < at_ + (i + 1) by omega]
            · simp [h1, show ¬ j < at_ + (i + 1) by omega]
          rw [this]

/-- A burst in a row with its sum behind it: the sum is no longer the row's. -/
theorem burst_told (l : List Nat) (at_ b : Nat) (h256 : ∀ x ∈ l, x < 256) (hat : at_ + 32 ≤ 8 * l.length) (hb0 : b ≠ 0) (hb : b < 4294967296) (hz : crc ones l = 0#32) :
    crc ones (turned l at_ b 32) ≠ 0#32 := by
  intro h
  obtain ⟨j, hj⟩ : ∃ j, b.testBit j = true := by
    apply Classical.byContradiction
    intro hn
    apply hb0
    apply Nat.eq_of_testBit_eq
    intro i
    rw [Nat.zero_testBit]
    cases hi : b.testBit i with
    | false => rfl
    | true => exact absurd ⟨i, hi⟩ hn
  have hj32 : j < 32 := by
    apply Classical.byContradiction
    intro hn
    have : b < 2 ^ j := Nat.lt_of_lt_of_le (show b < 2 ^ 32 by omega) (Nat.pow_le_pow_right (by decide) (by omega))
    rw [Nat.testBit_lt_two_pow this] at hj
    cases hj
  have e : unpack (turned l at_ b 32) = List.zipWith (· ^^ ·) (unpack l) (List.replicate at_ false ++ (List.range 32).map (fun i => b.testBit i) ++ List.replicate (8 * l.length - (at_ + 32)) false) := by
    apply List.ext_getElem?
    intro k
    rw [turned_digit, List.getElem?_zipWith]
    by_cases hk : k < 8 * l.length
    · obtain ⟨d, hd⟩ : ∃ d, (unpack l)[k]? = some d := ⟨(unpack l)[k]'(by simpa using hk), by simp [hk]⟩
      rw [hd]
      by_cases h1 : k < at_
      · rw [List.append_assoc, List.getElem?_append_left (by simpa using h1), List.getElem?_replicate, if_pos h1]
        simp [show ¬ at_ ≤ k by omega]
      · rw [List.append_assoc, List.getElem?_append_right (by simp; omega)]
        by_cases h2 : k < at_ + 32
        · rw [List.getElem?_append_left (by simp; omega)]
          simp [show at_ ≤ k by omega, h2, show k - at_ < 32 by omega]
        · rw [List.getElem?_append_right (by simp; omega), List.getElem?_replicate, if_pos (by simp; omega)]
          simp [h2]
    · rw [List.getElem?_eq_none (by simp; omega)]; rfl
  rw [crc_digits _ _ (turned_lt l at_ b 32 h256), e] at h
  have h2 := feeds_xor (unpack l) (List.replicate at_ false ++ (List.range 32).map (fun i => b.testBit i) ++ List.replicate (8 * l.length - (at_ + 32)) false) ones 0#32 (by simp; omega)
  rw [BitVec.xor_zero] at h2
  rw [h2, ← crc_digits l ones h256, hz, BitVec.zero_xor] at h
  exact burst _ _ _ (by simp) j (by simp [List.getD, hj32, hj]) h
theorem burst_unlike (l : List Nat) (at_ b n : Nat) (h256 : ∀ x ∈ l, x < 256) (hat : at_ + 32 ≤ 8 * l.length) (hb0 : b ≠ 0) (hb : b < 4294967296) (hz : crc ones l = 0#32) :
    (turned l at_ b 32).drop n ≠ bytes4 (crc ones ((turned l at_ b 32).take n)).toNat := by
  intro h
  apply burst_told l at_ b h256 hat hb0 hb hz
  rw [← List.take_append_drop n (turned l at_ b 32), h]
  exact crc_whole _ _

end Go.Proofs.Ytdcnbakmmkbodaa

/- A sector: bytes, noughts, and their sum; no program. -/
namespace Go.Proofs.Ytdcnbakmmkbodaa
set_option linter.unusedVariables false
set_option linter.unusedSimpArgs false
open Dg Cr

/-- The sum of bytes; bytes and noughts up to 124; these and their sum. -/
def sumN (l : List Nat) : Nat := (crc ones l).toNat
theorem sumN_lt (l : List Nat) : sumN l < 4294967296 := (crc ones l).isLt
def fillF (l : List Nat) : List Nat := l ++ List.replicate (124 - l.length) 0
def sealL (l : List Nat) : List Nat := fillF l ++ bytes4 (sumN (fillF l))
def sealOut (l : List Nat) : List Nat × Int := if 124 < l.length then ([], 4) else (sealL l, 0)
def wholeP (l : List Nat) : Prop := l.length = 128 ∧ l.drop 124 = bytes4 (sumN (l.take 124))
instance (l : List Nat) : Decidable (wholeP l) := by unfold wholeP; infer_instance
theorem length_fillF {l : List Nat} (h : l.length ≤ 124) : (fillF l).length = 124 := by simp [fillF]; omega
theorem length_sealL {l : List Nat} (h : l.length ≤ 124) : (sealL l).length = 128 := by simp [sealL, length_fillF h]
theorem fillF_lt {l : List Nat} (h : ∀ x ∈ l, x < 256) : ∀ x ∈ fillF l, x < 256 := fun x hx => by
  rcases List.mem_append.1 hx with h1 | h1
  · exact h x h1
  · have := List.eq_of_mem_replicate h1; omega
theorem sealL_lt {l : List Nat} (h : ∀ x ∈ l, x < 256) : ∀ x ∈ sealL l, x < 256 := fun x hx => by
  rcases List.mem_append.1 hx with h1 | h1
  · exact fillF_lt h x h1
  · exact bytes4_lt _ x h1
theorem take_sealL {l : List Nat} (h : l.length ≤ 124) : (sealL l).take 124 = fillF l := by
  unfold sealL
  rw [List.take_left' (length_fillF h)]
theorem drop_sealL {l : List Nat} (h : l.length ≤ 124) : (sealL l).drop 124 = bytes4 (sumN (fillF l)) := by
  unfold sealL
  rw [List.drop_left' (length_fillF h)]
theorem whole_seal {l : List Nat} (h : l.length ≤ 124) : wholeP (sealL l) := ⟨length_sealL h, by rw [drop_sealL h, take_sealL h]⟩
theorem crc_sealL {l : List Nat} : crc ones (sealL l) = 0#32 := by unfold sealL sumN; exact crc_whole _ _
/-- Four bytes are those of a number. -/
theorem four_num (m : List Nat) (h : m.length = 4) (h256 : ∀ x ∈ m, x < 256) : ∃ s : BitVec 32, m = bytes4 s.toNat := by
  match m, h with
  | [a, b, c, d], _ =>
    have ha := h256 a (by simp)
    have hb := h256 b (by simp)
    have hc := h256 c (by simp)
    have hd := h256 d (by simp)
    refine ⟨BitVec.ofNat 32 (a * 16777216 + b * 65536 + c * 256 + d), ?_⟩
    have e : (BitVec.ofNat 32 (a * 16777216 + b * 65536 + c * 256 + d)).toNat = a * 16777216 + b * 65536 + c * 256 + d := by
      rw [BitVec.toNat_ofNat]
      omega
    rw [e]
    unfold bytes4
    congr 1
    · omega
    · congr 1
      · omega
      · congr 1
        · omega
        · congr 1
          omega
/-- A sector is whole just if its sum with the last four bytes is nought. -/
theorem whole_zero {l : List Nat} (h : l.length = 128) (h256 : ∀ x ∈ l, x < 256) : wholeP l ↔ crc ones l = 0#32 := by
  constructor
  · rintro ⟨-, h1⟩
    rw [← List.take_append_drop 124 l, h1]
    exact crc_whole _ _
  · intro h0
    refine ⟨h, ?_⟩
    obtain ⟨s, hs⟩ := four_num (l.drop 124) (by simp [h]) (fun x hx => h256 x (List.mem_of_mem_drop hx))
    rw [← List.take_append_drop 124 l, hs, crc_append, crc_bytes4] at h0
    have h1 := xor_eq_zero (upN_eq_zero _ h0)
    rw [hs]
    unfold sumN
    rw [h1]
theorem whole_burst {l : List Nat} (h : wholeP l) (h256 : ∀ x ∈ l, x < 256) {at_ b : Nat} (hat : at_ + 32 ≤ 1024) (hb0 : b ≠ 0) (hb : b < 4294967296) : ¬ wholeP (turned l at_ b 32) := fun h1 => by
  have hz := (whole_zero h.1 h256).1 h
  exact burst_unlike l at_ b 124 h256 (by have := h.1; omega) hb0 hb hz h1.2

end Go.Proofs.Ytdcnbakmmkbodaa

/- What a step leaves as it was; rows of bytes that the call owns; an append to such a row: no program in sight. -/
namespace Go.Proofs.Ytdcnbakmmkbodaa
set_option linter.unusedVariables false
set_option linter.unusedSimpArgs false
open Go.RowKit

theorem hid_of {p : Prop} (h : p) : Hid p := h
/-- All blocks but those of F are as they were; no block has gone. -/
structure Kept (F : Nat → Prop) (w w' : World) : Prop where
  os : w'.os = w.os
  tape : w'.tape = w.tape
  output : w'.output = w.output
  size : w.heap.size ≤ w'.heap.size
  block : ∀ k, k < w.heap.size → ¬ F k → w'.heap[k]? = w.heap[k]?
theorem Kept.refl (F : Nat → Prop) (w : World) : Kept F w w := ⟨rfl, rfl, rfl, Nat.le_refl _, fun _ _ _ => rfl⟩
theorem Kept.trans {F : Nat → Prop} {a b c : World} (h : Kept F a b) (k : Kept F b c) : Kept F a c :=
  ⟨k.os.trans h.os, k.tape.trans h.tape, k.output.trans h.output, Nat.le_trans h.size k.size, fun i hi hf => (k.block i (Nat.lt_of_lt_of_le hi h.size) hf).trans (h.block i hi hf)⟩
/-- The second step may turn, besides, whatever is new behind the first. -/
theorem Kept.trans' {F G : Nat → Prop} {a b c : World} (h : Kept F a b) (k : Kept G b c) (hG : ∀ i, i < a.heap.size → G i → F i) : Kept F a c :=
  ⟨k.os.trans h.os, k.tape.trans h.tape, k.output.trans h.output, Nat.le_trans h.size k.size, fun i hi hf => (k.block i (Nat.lt_of_lt_of_le hi h.size) (fun hg => hf (hG i hi hg))).trans (h.block i hi hf)⟩
theorem Kept.mono {F G : Nat → Prop} {w w' : World} (h : Kept F w w') (hG : ∀ i, i < w.heap.size → F i → G i) : Kept G w w' :=
  ⟨h.os, h.tape, h.output, h.size, fun i hi hf => h.block i hi (fun hx => hf (hG i hi hx))⟩
theorem Kept.drew {F : Nat → Prop} {w w' : World} (h : Kept F w w') : Kept F w w'.drew := ⟨h.os, h.tape, h.output, h.size, h.block⟩
theorem Kept.below {B : Nat} {w w' : World} (h : Kept (fun k => B ≤ k) w w') : Below (min B w.heap.size) w w' :=
  ⟨h.os, h.tape, h.output, h.size, fun k hk => h.block k (by omega) (by omega)⟩
theorem Kept.cell {F : Nat → Prop} {w w' : World} (h : Kept F w w') {b : Nat} {o : Nat} (hb : b < w.heap.size) (hf : ¬ F b) : w'.cell? ⟨b, o, none⟩ = w.cell? ⟨b, o, none⟩ := World.cell?_of_block (w := w) (h.block b hb hf)
theorem Kept.frozen {F : Nat → Prop} {w w' : World} (h : Kept F w w') {b : Nat} {o : Nat} (hb : b < w.heap.size) (hf : ¬ F b) : w'.frozen? ⟨b, o, none⟩ = w.frozen? ⟨b, o, none⟩ := World.frozen?_of_block (w := w) (h.block b hb hf)
theorem Kept.grown {w w' : World} {row : Option Nat} (hg : w.grownBy w' row) : Kept (fun k => row = some k) w w' := ⟨hg.os, hg.tape, hg.output, hg.size, fun k hk hf => hg.block k hk (fun e => hf e.symm)⟩
theorem Kept.alloc (F : Nat → Prop) (w : World) (o : Obj) : Kept F w (w.alloc o) := ⟨rfl, rfl, rfl, by simp, fun k hk _ => Below.heap_alloc _ _ _ hk⟩
theorem Kept.setCell {F : Nat → Prop} (w : World) (a : Addr) (u : Value) (h : F a.block) : Kept F w (w.setCell a u) :=
  ⟨rfl, rfl, rfl, by simp [World.setCell], fun k _ hf => Below.heap_setCell _ _ _ _ (fun e => hf (e ▸ h))⟩
/-- Bytes as values. -/
def u8s (l : List Nat) : List Value := l.map fun x : Nat => Value.int .u8 ((x : Nat) : Int)
@[simp] theorem length_u8s (l : List Nat) : (u8s l).length = l.length := by simp [u8s]

theorem heap_setCell_of {w : World} {g : Nat} {o : Nat} {cur : Array Value} {t : TypeId} (h : w.heap[g]? = some (.cells cur t (0, 0))) (u : Value) :
    (w.setCell ⟨g, o, none⟩ u).heap[g]? = some (.cells (cur.setIfInBounds o u) t (0, 0)) := by
  simp [World.setCell, Array.getElem?_modify, h]

theorem u8s_get (l : List Nat) (k : Nat) : (u8s l)[k]? = l[k]?.map fun x : Nat => Value.int .u8 ((x : Nat) : Int) := by simp [u8s]
theorem u8s_set (l : List Nat) (k x : Nat) : (u8s l).set k (.int .u8 ((x : Nat) : Int)) = u8s (l.set k x) := by simp [u8s]

/-- A store into an owned row. -/
theorem ownsRow_set {w : World} {base : Nat} {e : TypeId} {g cap n : Nat} {xs : List Value} (h : w.ownsRow base e 1 (.slice (some ⟨g, 0, none⟩) n cap) n xs) (o : Nat) (ho : o < n) (u : Value) :
    (w.setCell ⟨g, o, none⟩ u).ownsRow base e 1 (.slice (some ⟨g, 0, none⟩) n cap) n (xs.set o u) := by
  refine ⟨by simpa using h.1, ?_⟩
  rcases h.2 with ⟨e1, _⟩ | ⟨g', cap', cur, hv, hb, hh, hn, hm, hcs, ht⟩
  · cases e1
  · cases hv
    refine .inr ⟨g, cap, cur.setIfInBounds o u, rfl, hb, heap_setCell_of hh u, hn, hm, by simpa using hcs, ?_⟩
    rw [← ht]
    simp [List.take_set]

/-- It stays owned while another block is written. -/
theorem ownsRow_other {w : World} {base : Nat} {e : TypeId} {size : Nat} {v : Value} {n : Nat} {xs : List Value} (h : w.ownsRow base e size v n xs) {w' : World} {F : Nat → Prop} (hk : Kept F w w') (hF : ∀ k, v.ownBlock = some k → ¬ F k) : w'.ownsRow base e size v n xs := by
  refine ⟨h.1, ?_⟩
  rcases h.2 with hn | ⟨g, cap, cur, rfl, hb, hgg, rest⟩
  · exact .inl hn
  · exact .inr ⟨g, cap, cur, rfl, hb, by rw [hk.block g (Array.getElem?_eq_some_iff.1 hgg).1 (hF g rfl)]; exact hgg, rest⟩


theorem ownsRow_base {w : World} {base base' : Nat} {e : TypeId} {size : Nat} {v : Value} {n : Nat} {xs : List Value} (h : w.ownsRow base e size v n xs) (hb : base' ≤ base) : w.ownsRow base' e size v n xs := by
  refine ⟨h.1, ?_⟩
  rcases h.2 with hn | ⟨g, cap, cur, rfl, hg, rest⟩
  · exact .inl hn
  · exact .inr ⟨g, cap, cur, rfl, by omega, rest⟩

/-- 'append' of some elements to a row of the call's own: it grows in its place, or is laid anew. -/
theorem wpList_append_mine {P : Program} (w : World) {ops : Array Oper} {rest : List Oper} {o : Oper} {a : Act} {Q : Exit → Act → World → Prop}
    (hgd : o.guard = none) (s x : Operand) (t : TypeId) (ho : o.op = .call { callee := .builtin .append, args := #[s, x], argTypes := #[t, t] })
    (base : Nat) (e : TypeId) (i : TypeInfo) (z : Value) (size bytes : Nat) (ht : P.underlying t = some (.slice e)) (hi : P.info? e = some i) (hz : i.zero = some z)
    (hsize : i.size = size) (hby : i.bytes = bytes) (hzs : z.cells.size = size) (hsz : 0 < size)
    (v : Value) (n : Nat) (xs : List Value) (hs : a.eval s = v) (hown : w.ownsRow base e size v n xs)
    (ad : Addr) (m c : Nat) (news : List Value) (hx : a.eval x = .slice (some ad) m c) (hl : news.length = m * size) (hnews : ∀ j u, news[j]? = some u → w.cell? (ad.add j) = some u) (h1 : ∀ u ∈ news, u.oneCell' = true)
    (hm : 0 < m) (h63 : n + m ≤ maxLen) (hbytes : (n + m) * bytes ≤ 140737488355328) (hbase : base ≤ w.heap.size)
    (h : ∀ g cap w', Hid (w'.ownsRow base e size (.slice (some ⟨g, 0, none⟩) (n + m) cap) (n + m) (xs ++ news)) → Hid (w.grownBy w' v.ownBlock) → Hid (v.ownBlock = some g ∨ w.heap.size ≤ g) → wpList P ops Q rest (a.put o.dst (.slice (some ⟨g, 0, none⟩) (n + m) cap)) w') : wpList P ops Q (o :: rest) a w := by
  have key : ∀ v' w', w'.ownsRow w.heap.size e size v' (n + m) (xs ++ news) → w.grownBy w' none → wpList P ops Q rest (a.put o.dst v') w' := by
    intro v' w' ho' hg'
    rcases ho'.2 with ⟨_, hn⟩ | ⟨g, cap, cur, rfl, hgb, r⟩
    · omega
    · exact h g cap w' (ownsRow_base ho' hbase) ⟨hg'.os, hg'.tape, hg'.output, hg'.size, fun k hk _ => hg'.block k hk (by simp)⟩ (Or.inr hgb)
  rcases hown.2 with ⟨hv, hn⟩ | ⟨g, cap, cur, hv, hgb, hh, hnc, hcm, hcs, htake⟩
  · subst hn
    have hxs : xs = [] := List.eq_nil_of_length_eq_zero (by simpa using hown.1)
    refine wpList_append_grows w hgd s x t ho e i z size bytes ht hi hz hsize hby hzs hsz none 0 0 xs (hs.trans hv) (fun _ => ⟨rfl, rfl⟩) (by simp [hxs]) (fun b hb => by cases hb) ad m c news hx hl hnews h1 (by omega) h63 hbytes key
  · by_cases hroom : n + m ≤ cap
    · refine wpList_append_fits w hgd s x t ho base e i size ht hi hsize g n cap xs (hs.trans hv) (hv ▸ hown) ad m c news hx hl hnews h1 hroom ?_
      intro w' ho' hg'
      exact h g cap w' ho' (show _ by rw [hv]; exact hg') (Or.inl (by rw [hv]; rfl))
    · refine wpList_append_grows w hgd s x t ho e i z size bytes ht hi hz hsize hby hzs hsz (some ⟨g, 0, none⟩) n cap xs (hs.trans hv) (fun e => by cases e) hown.1 ?_ ad m c news hx hl hnews h1 (by omega) h63 hbytes key
      intro b hb
      cases hb
      exact hown.cells (by rw [hv]; rfl)

end Go.Proofs.Ytdcnbakmmkbodaa

/- Walks over the small functions of the seat, and over add. -/
namespace Go.Proofs.Ytdcnbakmmkbodaa
set_option linter.unusedVariables false
set_option linter.unusedSimpArgs false
open Go.RowKit Dg

theorem Try.info5 : (Try.prog.info? 5).map (fun i => (i.zero, i.size, i.bytes)) = some (some (.int .u8 0), 1, 1) := by kernel_rfl

theorem ret_int {k : IntKind} {a b : Int} (h : a = b) : Ending.returned (.int k a) = .returned (.int k b) := by rw [h]

theorem tmod_pos {v n : Int} (h : 0 ≤ v.tmod n) (hn : 1 ≤ n) : v.tmod n = v % n := by
  by_cases hv : 0 ≤ v
  · exact Int.tmod_eq_emod_of_nonneg hv
  · have h1 := Int.tmod_def v n
    have h2 : v.tmod n ≤ 0 := by
      have := Int.tmod_nonneg n (show 0 ≤ -v by omega)
      rw [Int.neg_tmod] at this; omega
    have h3 : v.tmod n = 0 := by omega
    have h4 : v % n = 0 := by
      apply Int.emod_eq_zero_of_dvd
      exact Int.dvd_of_tmod_eq_zero h3
    omega
theorem tmod_neg {v n : Int} (h : v.tmod n < 0) (hn : 1 ≤ n) : v.tmod n + n = v % n := by
  have hv : v < 0 := by
    by_cases hv : 0 ≤ v
    · have := Int.tmod_nonneg n hv; omega
    · omega
  have e := Int.tmod_eq_emod (a := v) (b := n)
  rw [e] at h ⊢
  have h0 : ¬ 0 ≤ v := by omega
  by_cases hd : n ∣ v
  · have := Int.emod_eq_zero_of_dvd hd
    simp [hd] at h
    omega
  · simp [h0, hd]
    omega

set_option maxHeartbeats 400000 in
theorem within_any (v n : Int) (w : World) (hv1 : -9223372036854775808 ≤ v) (hv2 : v ≤ 9223372036854775807) (hn1 : 1 ≤ n) (hn2 : n ≤ 4611686018427387904) :
    Calls Try.prog 9 #[.int .i64 v, .int .i64 n] w fun e w' => e = .returned (.int .i64 (v % n)) ∧ w = w' := by
  have hb1 : -n < v.tmod n := by have := Int.lt_tmod_of_pos v (show 0 < n by omega); omega
  have hb2 : v.tmod n < n := Int.tmod_lt_of_pos v (by omega)
  go_enter Try.func9, Try.ntmps9
  go_wp2
  · go_ret
    exact ⟨ret_int (tmod_neg ‹_› hn1), rfl⟩
  · go_ret
    exact ⟨ret_int (tmod_pos ‹_› hn1), rfl⟩

end Go.Proofs.Ytdcnbakmmkbodaa

/- What a writer is in memory; add, by its contract. -/
namespace Go.Proofs.Ytdcnbakmmkbodaa
set_option linter.unusedVariables false
set_option linter.unusedSimpArgs false
open Go.RowKit Dg

/-- What it lies in. -/
def Wf (b : Nat) (rv : Value) (k : Nat) : Prop := k = b ∨ rv.ownBlock = some k

end Go.Proofs.Ytdcnbakmmkbodaa

/- Writer: Put and Ones. -/
namespace Go.Proofs.Ytdcnbakmmkbodaa
set_option linter.unusedVariables false
set_option linter.unusedSimpArgs false
open Go.RowKit Dg

theorem bit_and (x : Int) (d : Bool) (hd : d = (x % 2 == 1)) : bits BinOp.and IntKind.u8 (x % 256) 1 = (d.toNat : Int) := by
  rw [u8_and (x % 256) 1 (by omega) (by omega) (by decide) (by decide)]
  have e : (x % 256).toNat &&& (1 : Int).toNat = (x % 256).toNat % 2 := nat_mask1 _
  rw [e, hd]
  by_cases h : x % 2 = 1
  · simp [h]; omega
  · have : x % 2 = 0 := by omega
    simp [this]; omega

end Go.Proofs.Ytdcnbakmmkbodaa
