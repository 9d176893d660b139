/- Plain mathematics of binary digits in a row, packed eight a byte: no program in sight. -/
import Derived.Laws.BitsAllLaws
namespace Go.Proofs.YtlonnoapbfjomabGreat.Dg
set_option linter.unusedVariables false
set_option linter.unusedSimpArgs false

/-- A digit of a row, 0 behind its end. -/
def dg (ds : List Bool) (i : Nat) : Nat := (ds.getD i false).toNat
theorem dg_le (ds : List Bool) (i : Nat) : dg ds i ≤ 1 := by unfold dg; cases ds.getD i false <;> decide
theorem dg_out (ds : List Bool) (i : Nat) (h : ds.length ≤ i) : dg ds i = 0 := by
  unfold dg; simp [List.getD, List.getElem?_eq_none h]
theorem dg_snoc_lt (ds : List Bool) (d : Bool) (i : Nat) (h : i ≠ ds.length) : dg (ds ++ [d]) i = dg ds i := by
  unfold dg
  by_cases hi : i < ds.length
  · simp [List.getD, List.getElem?_append_left hi]
  · have h2 : ds.length ≤ i := by omega
    have h3 : (ds ++ [d]).length ≤ i := by simp; omega
    simp only [List.getD, List.getElem?_eq_none h2, List.getElem?_eq_none h3]
theorem dg_snoc (ds : List Bool) (d : Bool) : dg (ds ++ [d]) ds.length = d.toNat := by unfold dg; simp [List.getD]

/-- The k-th byte. -/
def byteAt (ds : List Bool) (k : Nat) : Nat :=
  128 * dg ds (8 * k) + 64 * dg ds (8 * k + 1) + 32 * dg ds (8 * k + 2) + 16 * dg ds (8 * k + 3) + 8 * dg ds (8 * k + 4) + 4 * dg ds (8 * k + 5) + 2 * dg ds (8 * k + 6) + dg ds (8 * k + 7)
theorem byteAt_lt (ds : List Bool) (k : Nat) : byteAt ds k < 256 := by
  have h0 := dg_le ds (8 * k); have h1 := dg_le ds (8 * k + 1); have h2 := dg_le ds (8 * k + 2); have h3 := dg_le ds (8 * k + 3)
  have h4 := dg_le ds (8 * k + 4); have h5 := dg_le ds (8 * k + 5); have h6 := dg_le ds (8 * k + 6); have h7 := dg_le ds (8 * k + 7)
  unfold byteAt; omega

/-- The bytes of digits, noughts fill up the last one. -/
def pack (ds : List Bool) : List Nat := (List.range ((ds.length + 7) / 8)).map (byteAt ds)
@[simp] theorem length_pack (ds : List Bool) : (pack ds).length = (ds.length + 7) / 8 := by simp [pack]
theorem pack_get (ds : List Bool) (k : Nat) (h : k < (ds.length + 7) / 8) : (pack ds)[k]? = some (byteAt ds k) := by simp [pack, h]
theorem pack_lt (ds : List Bool) : ∀ x ∈ pack ds, x < 256 := by
  intro x hx; simp [pack] at hx; obtain ⟨k, _, rfl⟩ := hx; exact byteAt_lt ds k

theorem byteAt_snoc_other (ds : List Bool) (d : Bool) (k : Nat) (h : k ≠ ds.length / 8) : byteAt (ds ++ [d]) k = byteAt ds k := by
  unfold byteAt
  rw [dg_snoc_lt, dg_snoc_lt, dg_snoc_lt, dg_snoc_lt, dg_snoc_lt, dg_snoc_lt, dg_snoc_lt, dg_snoc_lt] <;> omega

theorem byteAt_snoc (ds : List Bool) (d : Bool) : byteAt (ds ++ [d]) (ds.length / 8) = byteAt ds (ds.length / 8) + d.toNat * 2 ^ (7 - ds.length % 8) := by
  have hd : ∀ i, ds.length ≤ i → dg ds i = 0 := fun i h => dg_out ds i h
  have hs : ∀ i, i = ds.length → dg (ds ++ [d]) i = d.toNat := fun i h => by subst h; exact dg_snoc ds d
  have ho : ∀ i, i ≠ ds.length → dg (ds ++ [d]) i = dg ds i := fun i h => dg_snoc_lt ds d i h
  have hr : ds.length % 8 = 0 ∨ ds.length % 8 = 1 ∨ ds.length % 8 = 2 ∨ ds.length % 8 = 3 ∨ ds.length % 8 = 4 ∨ ds.length % 8 = 5 ∨ ds.length % 8 = 6 ∨ ds.length % 8 = 7 := by omega
  unfold byteAt
  rcases hr with h | h | h | h | h | h | h | h <;> rw [h]
  · rw [hs (8 * (ds.length / 8)) (by omega), hd (8 * (ds.length / 8)) (by omega), ho (8 * (ds.length / 8) + 1) (by omega), ho (8 * (ds.length / 8) + 2) (by omega), ho (8 * (ds.length / 8) + 3) (by omega), ho (8 * (ds.length / 8) + 4) (by omega), ho (8 * (ds.length / 8) + 5) (by omega), ho (8 * (ds.length / 8) + 6) (by omega), ho (8 * (ds.length / 8) + 7) (by omega)]; omega
  · rw [ho (8 * (ds.length / 8)) (by omega), hs (8 * (ds.length / 8) + 1) (by omega), hd (8 * (ds.length / 8) + 1) (by omega), ho (8 * (ds.length / 8) + 2) (by omega), ho (8 * (ds.length / 8) + 3) (by omega), ho (8 * (ds.length / 8) + 4) (by omega), ho (8 * (ds.length / 8) + 5) (by omega), ho (8 * (ds.length / 8) + 6) (by omega), ho (8 * (ds.length / 8) + 7) (by omega)]; omega
  · rw [ho (8 * (ds.length / 8)) (by omega), ho (8 * (ds.length / 8) + 1) (by omega), hs (8 * (ds.length / 8) + 2) (by omega), hd (8 * (ds.length / 8) + 2) (by omega), ho (8 * (ds.length / 8) + 3) (by omega), ho (8 * (ds.length / 8) + 4) (by omega), ho (8 * (ds.length / 8) + 5) (by omega), ho (8 * (ds.length / 8) + 6) (by omega), ho (8 * (ds.length / 8) + 7) (by omega)]; omega
  · rw [ho (8 * (ds.length / 8)) (by omega), ho (8 * (ds.length / 8) + 1) (by omega), ho (8 * (ds.length / 8) + 2) (by omega), hs (8 * (ds.length / 8) + 3) (by omega), hd (8 * (ds.length / 8) + 3) (by omega), ho (8 * (ds.length / 8) + 4) (by omega), ho (8 * (ds.length / 8) + 5) (by omega), ho (8 * (ds.length / 8) + 6) (by omega), ho (8 * (ds.length / 8) + 7) (by omega)]; omega
  · rw [ho (8 * (ds.length / 8)) (by omega), ho (8 * (ds.length / 8) + 1) (by omega), ho (8 * (ds.length / 8) + 2) (by omega), ho (8 * (ds.length / 8) + 3) (by omega), hs (8 * (ds.length / 8) + 4) (by omega), hd (8 * (ds.length / 8) + 4) (by omega), ho (8 * (ds.length / 8) + 5) (by omega), ho (8 * (ds.length / 8) + 6) (by omega), ho (8 * (ds.length / 8) + 7) (by omega)]; omega
  · rw [ho (8 * (ds.length / 8)) (by omega), ho (8 * (ds.length / 8) + 1) (by omega), ho (8 * (ds.length / 8) + 2) (by omega), ho (8 * (ds.length / 8) + 3) (by omega), ho (8 * (ds.length / 8) + 4) (by omega), hs (8 * (ds.length / 8) + 5) (by omega), hd (8 * (ds.length / 8) + 5) (by omega), ho (8 * (ds.length / 8) + 6) (by omega), ho (8 * (ds.length / 8) + 7) (by omega)]; omega
  · rw [ho (8 * (ds.length / 8)) (by omega), ho (8 * (ds.length / 8) + 1) (by omega), ho (8 * (ds.length / 8) + 2) (by omega), ho (8 * (ds.length / 8) + 3) (by omega), ho (8 * (ds.length / 8) + 4) (by omega), ho (8 * (ds.length / 8) + 5) (by omega), hs (8 * (ds.length / 8) + 6) (by omega), hd (8 * (ds.length / 8) + 6) (by omega), ho (8 * (ds.length / 8) + 7) (by omega)]; omega
  · rw [ho (8 * (ds.length / 8)) (by omega), ho (8 * (ds.length / 8) + 1) (by omega), ho (8 * (ds.length / 8) + 2) (by omega), ho (8 * (ds.length / 8) + 3) (by omega), ho (8 * (ds.length / 8) + 4) (by omega), ho (8 * (ds.length / 8) + 5) (by omega), ho (8 * (ds.length / 8) + 6) (by omega), hs (8 * (ds.length / 8) + 7) (by omega), hd (8 * (ds.length / 8) + 7) (by omega)]; omega

/-- Behind the last digit of the last byte there are noughts. -/
theorem byteAt_low (ds : List Bool) : byteAt ds (ds.length / 8) % 2 ^ (8 - ds.length % 8) = 0 := by
  have hd : ∀ i, ds.length ≤ i → dg ds i = 0 := fun i h => dg_out ds i h
  have hr : ds.length % 8 = 0 ∨ ds.length % 8 = 1 ∨ ds.length % 8 = 2 ∨ ds.length % 8 = 3 ∨ ds.length % 8 = 4 ∨ ds.length % 8 = 5 ∨ ds.length % 8 = 6 ∨ ds.length % 8 = 7 := by omega
  unfold byteAt
  have h7 := hd (8 * (ds.length / 8) + 7) (by omega)
  rcases hr with h | h | h | h | h | h | h | h <;> rw [h]
  · rw [h7, hd (8 * (ds.length / 8)) (by omega), hd (8 * (ds.length / 8) + 1) (by omega), hd (8 * (ds.length / 8) + 2) (by omega), hd (8 * (ds.length / 8) + 3) (by omega), hd (8 * (ds.length / 8) + 4) (by omega), hd (8 * (ds.length / 8) + 5) (by omega), hd (8 * (ds.length / 8) + 6) (by omega)]
  · rw [h7, hd (8 * (ds.length / 8) + 1) (by omega), hd (8 * (ds.length / 8) + 2) (by omega), hd (8 * (ds.length / 8) + 3) (by omega), hd (8 * (ds.length / 8) + 4) (by omega), hd (8 * (ds.length / 8) + 5) (by omega), hd (8 * (ds.length / 8) + 6) (by omega)]; omega
  · rw [h7, hd (8 * (ds.length / 8) + 2) (by omega), hd (8 * (ds.length / 8) + 3) (by omega), hd (8 * (ds.length / 8) + 4) (by omega), hd (8 * (ds.length / 8) + 5) (by omega), hd (8 * (ds.length / 8) + 6) (by omega)]; omega
  · rw [h7, hd (8 * (ds.length / 8) + 3) (by omega), hd (8 * (ds.length / 8) + 4) (by omega), hd (8 * (ds.length / 8) + 5) (by omega), hd (8 * (ds.length / 8) + 6) (by omega)]; omega
  · rw [h7, hd (8 * (ds.length / 8) + 4) (by omega), hd (8 * (ds.length / 8) + 5) (by omega), hd (8 * (ds.length / 8) + 6) (by omega)]; omega
  · rw [h7, hd (8 * (ds.length / 8) + 5) (by omega), hd (8 * (ds.length / 8) + 6) (by omega)]; omega
  · rw [h7, hd (8 * (ds.length / 8) + 6) (by omega)]; omega
  · rw [h7]; omega

theorem byteAt_or (ds : List Bool) (d : Bool) : bits BinOp.or IntKind.u8 (byteAt ds (ds.length / 8) : Nat) ((d.toNat : Int) * 2 ^ (7 - ds.length % 8) % 256) = (byteAt (ds ++ [d]) (ds.length / 8) : Nat) := by
  have hb := byteAt_lt ds (ds.length / 8)
  have hl := byteAt_low ds
  have hp : 2 ^ (7 - ds.length % 8) ≤ 128 := by
    have : 2 ^ (7 - ds.length % 8) ≤ 2 ^ 7 := Nat.pow_le_pow_right (by decide) (by omega)
    simpa using this
  have hp0 : 0 < 2 ^ (7 - ds.length % 8) := Nat.pow_pos (by decide)
  have hy : d.toNat * 2 ^ (7 - ds.length % 8) ≤ 2 ^ (7 - ds.length % 8) := by cases d <;> simp
  have e : ((d.toNat : Int) * 2 ^ (7 - ds.length % 8) % 256) = ((d.toNat * 2 ^ (7 - ds.length % 8) : Nat) : Int) := by
    have h1 : ((d.toNat : Int) * 2 ^ (7 - ds.length % 8)) = ((d.toNat * 2 ^ (7 - ds.length % 8) : Nat) : Int) := by push_cast; rfl
    rw [h1]; omega
  rw [e, u8_or_nat _ _ hb (by omega), byteAt_snoc]
  congr 1
  have e8 : 8 - ds.length % 8 = (7 - ds.length % 8) + 1 := by omega
  rw [e8, Nat.pow_succ] at hl
  exact nat_join (7 - ds.length % 8 + 1) _ _ (by rw [Nat.pow_succ]; exact hl) (by rw [Nat.pow_succ]; omega)

theorem pack_snoc_new (ds : List Bool) (d : Bool) (h : ds.length % 8 = 0) : pack (ds ++ [d]) = (pack ds ++ [0]).set (ds.length / 8) (byteAt (ds ++ [d]) (ds.length / 8)) := by
  apply List.ext_getElem?
  intro k
  by_cases hk : k < (ds.length + 1 + 7) / 8
  · rw [pack_get _ _ (by simpa using hk), List.getElem?_set]
    by_cases he : ds.length / 8 = k
    · rw [if_pos he, if_pos (by simp; omega)]; rw [he]
    · rw [if_neg he, List.getElem?_append_left (by simp; omega), pack_get _ _ (by omega), byteAt_snoc_other _ _ _ (by omega)]
  · rw [List.getElem?_eq_none (by simp; omega), List.getElem?_eq_none (by simp; omega)]

theorem pack_snoc_room (ds : List Bool) (d : Bool) (h : ds.length % 8 ≠ 0) : pack (ds ++ [d]) = (pack ds).set (ds.length / 8) (byteAt (ds ++ [d]) (ds.length / 8)) := by
  apply List.ext_getElem?
  intro k
  by_cases hk : k < (ds.length + 7) / 8
  · rw [pack_get _ _ (by simp; omega), List.getElem?_set]
    by_cases he : ds.length / 8 = k
    · rw [if_pos he, if_pos (by simp; omega)]; rw [he]
    · rw [if_neg he, pack_get _ _ (by omega), byteAt_snoc_other _ _ _ (by omega)]
  · rw [List.getElem?_eq_none (by simp; omega), List.getElem?_eq_none (by simp; omega)]

theorem byteAt_zero (ds : List Bool) (h : ds.length % 8 = 0) : byteAt ds (ds.length / 8) = 0 := by
  have := byteAt_low ds; rw [h] at this; have := byteAt_lt ds (ds.length / 8); omega

/-- The digits of bytes. -/
def digitOf (x : Nat) (j : Nat) : Bool := x / 2 ^ (7 - j) % 2 == 1
def unpack (l : List Nat) : List Bool := l.flatMap fun x => (List.range 8).map (digitOf x)
@[simp] theorem unpack_nil : unpack [] = [] := rfl
@[simp] theorem unpack_cons (x : Nat) (l : List Nat) : unpack (x :: l) = (List.range 8).map (digitOf x) ++ unpack l := rfl
@[simp] theorem length_unpack (l : List Nat) : (unpack l).length = 8 * l.length := by
  induction l with
  | nil => rfl
  | cons x l ih => simp [ih]; omega
theorem unpack_get : ∀ (l : List Nat) (i : Nat), (unpack l)[i]? = l[i / 8]?.map (digitOf · (i % 8))
  | [], i => by simp
  | x :: l, i => by
    by_cases h : i < 8
    · have e : i / 8 = 0 := by omega
      have e2 : i % 8 = i := by omega
      rw [unpack_cons, List.getElem?_append_left (by simpa using h), e, e2]
      simp [h]
    · have e : i / 8 = (i - 8) / 8 + 1 := by omega
      have e2 : i % 8 = (i - 8) % 8 := by omega
      rw [unpack_cons, List.getElem?_append_right (by simp; omega), e, e2]
      simp [unpack_get l (i - 8)]

theorem digitOf_byteAt (ds : List Bool) (k j : Nat) (hj : j < 8) : digitOf (byteAt ds k) j = ds.getD (8 * k + j) false := by
  have h0 := dg_le ds (8 * k); have h1 := dg_le ds (8 * k + 1); have h2 := dg_le ds (8 * k + 2); have h3 := dg_le ds (8 * k + 3)
  have h4 := dg_le ds (8 * k + 4); have h5 := dg_le ds (8 * k + 5); have h6 := dg_le ds (8 * k + 6); have h7 := dg_le ds (8 * k + 7)
  have e : ds.getD (8 * k + j) false = (dg ds (8 * k + j) == 1) := by unfold dg; cases ds.getD (8 * k + j) false <;> rfl
  rw [e]
  have hr : j = 0 ∨ j = 1 ∨ j = 2 ∨ j = 3 ∨ j = 4 ∨ j = 5 ∨ j = 6 ∨ j = 7 := by omega
  unfold digitOf byteAt
  rcases hr with h | h | h | h | h | h | h | h <;> subst h
  all_goals
    congr 1
    simp only [Nat.add_zero, Nat.sub_zero, Nat.reduceSub, Nat.reducePow]
    omega

/-- What was packed is there again, noughts behind it. -/
theorem unpack_pack (ds : List Bool) : unpack (pack ds) = ds ++ List.replicate ((8 - ds.length % 8) % 8) false := by
  apply List.ext_getElem?
  intro i
  rw [unpack_get]
  by_cases h : i < 8 * ((ds.length + 7) / 8)
  · rw [pack_get _ _ (by omega), Option.map_some, digitOf_byteAt _ _ _ (by omega)]
    have e : 8 * (i / 8) + i % 8 = i := by omega
    rw [e]
    by_cases hi : i < ds.length
    · rw [List.getElem?_append_left hi]; simp [List.getD, hi]
    · rw [List.getElem?_append_right (by omega), List.getElem?_replicate, if_pos (by omega)]
      simp [List.getD, List.getElem?_eq_none (by omega : ds.length ≤ i)]
  · rw [List.getElem?_eq_none (by simp; omega), List.getElem?_eq_none (by simp; omega)]; rfl

/-- The n lowest digits of a number, the greatest first. -/
def dig (v : Int) : Nat → List Bool
  | 0 => []
  | n + 1 => (v / 2 ^ n % 2 == 1) :: dig v n
@[simp] theorem length_dig (v : Int) (n : Nat) : (dig v n).length = n := by induction n with | zero => rfl | succ n ih => simp [dig, ih]

/-- The number of digits. -/
def num (ds : List Bool) : Nat := ds.foldl (fun a d => 2 * a + d.toNat) 0
theorem num_snoc (ds : List Bool) (d : Bool) : num (ds ++ [d]) = 2 * num ds + d.toNat := by simp [num]
@[simp] theorem num_nil : num [] = 0 := rfl

theorem num_lt (ds : List Bool) : num ds < 2 ^ ds.length := by
  suffices ∀ (ds : List Bool) (a m : Nat), a < 2 ^ m → ds.foldl (fun a d => 2 * a + d.toNat) a < 2 ^ (m + ds.length) by
    simpa [num] using this ds 0 0 (by decide)
  intro ds
  induction ds with
  | nil => intro a m h; simpa using h
  | cons d ds ih =>
    intro a m h
    have := ih (2 * a + d.toNat) (m + 1) (by rw [Nat.pow_succ]; cases d <;> simp <;> omega)
    simp only [List.foldl_cons, List.length_cons]
    rw [show m + (ds.length + 1) = m + 1 + ds.length by omega]
    exact this

theorem or_i64 (v : Nat) (d : Bool) (hv : v < 4611686018427387904) : bits BinOp.or IntKind.i64 ((v : Int) * 2) (d.toNat : Int) = (v : Int) * 2 + (d.toNat : Int) := by
  have e : ((v : Int) * 2) = ((v * 2 : Nat) : Int) := by push_cast; rfl
  have hd : d.toNat ≤ 1 := by cases d <;> decide
  rw [e]
  show IntKind.i64.wrap ((BitVec.ofInt 64 ((v * 2 : Nat) : Int) ||| BitVec.ofInt 64 ((d.toNat : Nat) : Int)).toNat : Int) = _
  rw [BitVec.toNat_or, ofInt_u64 (v * 2) (by omega), ofInt_u64 d.toNat (by omega)]
  have hj : v * 2 ||| d.toNat = v * 2 + d.toNat := nat_join 1 _ _ (by simp) (by omega)
  rw [hj]
  have hw : ∀ n : Nat, n < 9223372036854775808 → IntKind.i64.wrap ((n : Nat) : Int) = (n : Int) := by
    intro n hn
    simp [IntKind.wrap, IntKind.bits, IntKind.signed]
    omega
  rw [hw _ (by omega)]
  push_cast; rfl

theorem take_drop_snoc (ds : List Bool) (k j : Nat) (d : Bool) (h : ds[k + j]? = some d) : (ds.drop k).take (j + 1) = (ds.drop k).take j ++ [d] := by
  rw [List.take_add_one, List.getElem?_drop, h]; rfl

theorem pow_pos_int (n : Nat) : (0 : Int) < 2 ^ n := Int.pow_pos (by decide)
theorem pow_cast (n : Nat) : ((2 ^ n : Nat) : Int) = 2 ^ n := by push_cast; rfl

theorem dig_append (v : Int) (n m : Nat) : dig v (n + m) = dig (v / 2 ^ m) n ++ dig v m := by
  induction n with
  | zero => simp [dig]
  | succ n ih =>
    have e : n + 1 + m = (n + m) + 1 := by omega
    rw [e]
    simp only [dig, List.cons_append, ih]
    have e2 : v / 2 ^ (n + m) = v / 2 ^ m / 2 ^ n := by
      rw [Int.ediv_ediv_of_nonneg (Int.le_of_lt (pow_pos_int m)), ← Int.pow_add, Nat.add_comm]
    rw [e2]

theorem foldl_num (ds : List Bool) : ∀ a : Nat, ds.foldl (fun a d => 2 * a + d.toNat) a = a * 2 ^ ds.length + num ds := by
  induction ds with
  | nil => intro a; simp
  | cons d ds ih =>
    intro a
    have h1 := ih (2 * a + d.toNat)
    have h2 := ih (2 * 0 + d.toNat)
    simp only [num, List.foldl_cons, List.length_cons] at *
    rw [h1, h2, Nat.pow_succ, Nat.add_mul, Nat.add_mul]
    have : 2 * a * 2 ^ ds.length = a * (2 ^ ds.length * 2) := by rw [Nat.mul_comm 2 a, Nat.mul_assoc, Nat.mul_comm 2]
    omega
theorem num_cons (d : Bool) (ds : List Bool) : num (d :: ds) = d.toNat * 2 ^ ds.length + num ds := by
  have := foldl_num ds (2 * 0 + d.toNat)
  simp only [num, List.foldl_cons] at *
  simpa using this

theorem mod_pow_succ (v : Int) (n : Nat) : v % 2 ^ (n + 1) = 2 ^ n * (v / 2 ^ n % 2) + v % 2 ^ n := by
  have hp := pow_pos_int n
  have e : v / (2 ^ n * 2) = v / 2 ^ n / 2 := (Int.ediv_ediv_of_nonneg (Int.le_of_lt hp)).symm
  rw [Int.pow_succ, Int.emod_def v (2 ^ n * 2), Int.emod_def (v / 2 ^ n) 2, Int.emod_def v (2 ^ n), e, Int.mul_sub, Int.mul_assoc]
  omega

theorem num_dig (v : Int) (n : Nat) : ((num (dig v n) : Nat) : Int) = v % 2 ^ n := by
  induction n with
  | zero => simp [dig]
  | succ n ih =>
    rw [dig, num_cons, mod_pow_succ, ← ih, length_dig]
    have hb : v / 2 ^ n % 2 = 0 ∨ v / 2 ^ n % 2 = 1 := by omega
    have hc := pow_cast n
    rcases hb with h | h
    · simp [h]
    · simp [h]

end Go.Proofs.YtlonnoapbfjomabGreat.Dg
