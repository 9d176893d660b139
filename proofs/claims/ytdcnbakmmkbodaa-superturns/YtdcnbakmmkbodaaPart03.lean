/- The texts Fld1, SuMath, SuMathB, BytesB, SuC, Zeros, SuZero, Crc2, one behind the other. -/
import Derived.Test.YtdcnbakmmkbodaaPart02
import Derived.Test.YtdcnbakmmkbodaaPart01
import Derived.Laws.AppendOwnNone
import Derived.Deep.RegionHeld
import Derived.Deep.CutRange
import Derived.Lib.AppendZeros
import Derived.Laws.BitsAll

/- Numbers as bytes, the lowest first: the mathematics; Put and Get, of the program and of the document. -/
namespace Go.Proofs.Ytdcnbakmmkbodaa
set_option linter.unusedVariables false
set_option linter.unusedSimpArgs false
open Go.RowKit Dg

/-- The k lowest bytes of a number. -/
def byteN (N k : Nat) : List Nat := (List.range k).map fun i => N / 2 ^ (8 * i) % 256
/-- The number that bytes are. -/
def getN : List Nat → Nat
  | [] => 0
  | x :: l => x + 256 * getN l
@[simp] theorem length_byteN (N k : Nat) : (byteN N k).length = k := by simp [byteN]
theorem byteN_succ (N k : Nat) : byteN N (k + 1) = byteN N k ++ [N / 2 ^ (8 * k) % 256] := by simp [byteN, List.range_succ]
theorem byteN_lt (N k : Nat) : ∀ x ∈ byteN N k, x < 256 := by
  intro x hx
  simp [byteN] at hx
  obtain ⟨i, _, rfl⟩ := hx
  exact Nat.mod_lt _ (by decide)
theorem byteN_get (N k i : Nat) (h : i < k) : (byteN N k)[i]? = some (N / 2 ^ (8 * i) % 256) := by simp [byteN, h]
theorem byteN_take (N k j : Nat) (h : j ≤ k) : (byteN N k).take j = byteN N j := by
  simp [byteN, ← List.map_take, List.take_range, Nat.min_eq_left h]
theorem pow8 (k : Nat) : 2 ^ (8 * (k + 1)) = 256 * 2 ^ (8 * k) := by rw [Nat.mul_add, Nat.pow_add]; omega
theorem getN_lt (l : List Nat) (h : ∀ x ∈ l, x < 256) : getN l < 2 ^ (8 * l.length) := by
  induction l with
  | nil => simp [getN]
  | cons x l ih =>
    have h1 := h x (by simp)
    have h2 := ih (fun y hy => h y (by simp [hy]))
    simp only [getN, List.length_cons, pow8]
    omega
theorem getN_snoc (l : List Nat) (x : Nat) : getN (l ++ [x]) = getN l + 2 ^ (8 * l.length) * x := by
  induction l with
  | nil => simp [getN]
  | cons y l ih =>
    simp only [List.cons_append, getN, ih, List.length_cons, pow8]
    rw [Nat.mul_add, Nat.mul_assoc]; omega
theorem getN_byteN (N k : Nat) : getN (byteN N k) = N % 2 ^ (8 * k) := by
  induction k with
  | zero => simp [byteN, getN, Nat.mod_one]
  | succ k ih => rw [byteN_succ, getN_snoc, ih, length_byteN, pow8, Nat.mul_comm 256, Nat.mod_mul]
theorem getN_take (l : List Nat) (j x : Nat) (h : l[j]? = some x) : getN (l.take (j + 1)) = getN (l.take j) + 2 ^ (8 * j) * x := by
  have hj : j < l.length := (List.getElem?_eq_some_iff.1 h).1
  rw [List.take_add_one, h]
  show getN (l.take j ++ [x]) = _
  rw [getN_snoc]
  simp [Nat.min_eq_left (Nat.le_of_lt hj)]

theorem div_cast (N j : Nat) : ((N / 2 ^ (8 * j) % 256 : Nat) : Int) = (N : Int) / 2 ^ (8 * j) % 256 := by rw [Int.natCast_emod, Int.natCast_ediv, pow_cast]; rfl
theorem div_step (N j : Nat) : N / 2 ^ (8 * (j + 1)) = N / 2 ^ (8 * j) / 256 := by rw [pow8, Nat.mul_comm 256, Nat.div_div_eq_div_mul]
theorem put_zero (N k j : Nat) (h : j < k) : (byteN N j ++ List.replicate (k - j) 0)[j]? = some 0 := by
  rw [List.getElem?_append_right (by simp), length_byteN, Nat.sub_self, List.getElem?_replicate, if_pos (by omega)]
theorem put_step (N k j y : Nat) (h : j < k) (hy : y = N / 2 ^ (8 * j) % 256) : (byteN N j ++ List.replicate (k - j) 0).set j y = byteN N (j + 1) ++ List.replicate (k - (j + 1)) 0 := by
  have e : k - j = (k - (j + 1)) + 1 := by omega
  rw [byteN_succ, ← hy, e, List.replicate_succ, List.set_append_right _ _ (by simp)]
  simp

/-- What a row of bytes is once one more byte is laid. -/
theorem put_own {w : World} {g k j N : Nat} {X : Int} (h : w.ownsRow g 5 1 (.slice (some ⟨g, 0, none⟩) k k) k (u8s (byteN N j ++ List.replicate (k - j) 0))) (hj : j < k) (hX : X = ((N / 2 ^ (8 * j) % 256 : Nat) : Int)) :
    (w.setCell ⟨g, j, none⟩ (.int .u8 X)).ownsRow g 5 1 (.slice (some ⟨g, 0, none⟩) k k) k (u8s (byteN N (j + 1) ++ List.replicate (k - (j + 1)) 0)) := by
  rw [← put_step N k j _ hj rfl, hX]
  exact own_set h j _ hj

set_option maxHeartbeats 1000000 in
theorem fput_any (w : World) (n width : Int) (hn : I64 n) (hw : I64 width) (N k : Nat) (hN : N = n.toNat) (hk : k = min width.toNat 8) :
    Calls Try.prog 23 #[.int .i64 n, .int .i64 width] w fun e w' => e = .returned (.slice (some ⟨w.heap.size, 0, none⟩) k k) ∧ w'.ownsRow w.heap.size 5 1 (.slice (some ⟨w.heap.size, 0, none⟩) k k) k (u8s (byteN N k)) ∧ Below w.heap.size w w' := by
  obtain ⟨i0, hi, hz0, hz1, hz2⟩ := info_parts Try.info5
  obtain ⟨hn1, hn2⟩ := hn
  obtain ⟨hw1, hw2⟩ := hw
  have hc : (n < 0 ∧ Hid ((0 : Int) = (N : Int))) ∨ (0 ≤ n ∧ Hid (n = (N : Int))) := by
    by_cases h : n < 0
    · exact .inl ⟨h, by show _ = _; omega⟩
    · exact .inr ⟨by omega, by show _ = _; omega⟩
  have hd : (width < 0 ∧ (0 : Int) = (k : Int)) ∨ (0 ≤ width ∧ width ≤ 8 ∧ width = (k : Int)) ∨ (8 < width ∧ (8 : Int) = (k : Int)) := by omega
  have hk8 : k ≤ 8 := by omega
  have hN63 : N < 9223372036854775808 := by omega
  have HM : ∀ L : Int, L = (k : Int) → Hid (L = (k : Int)) := fun _ h => h
  obtain ⟨x, hx⟩ : ∃ x : Int, x = (k : Int) := ⟨_, rfl⟩
  clear hN hk
  rcases hc with ⟨hc, HN⟩ | ⟨hc, HN⟩
  all_goals rcases hd with ⟨hd, hL⟩ | ⟨hd, hd', hL⟩ | ⟨hd, hL⟩
  all_goals (have HL := HM _ hL; clear hL HM hx)
  all_goals go_enter Try.func23, Try.ntmps23
  all_goals go_wp2_with (at_make; refine wpList_make_full _ rfl _ _ 26 rfl w.heap.size 5 i0 (.int .u8 0) 1 Try.underlying26 hi hz0 hz1 _ _ _ _ k rfl rfl HL.out HL.out (by rw [hz2]; omega) (by unfold maxLen; omega) (Nat.le_refl _) ?_)
  all_goals
    intro w1 hown hgr
    have HB : Hid (Below w.heap.size w w1) := (Below.refl _ _).grown hgr (Nat.le_refl _) (fun k hk => by cases hk)
    have HO : Hid (w1.ownsRow w.heap.size 5 1 (.slice (some ⟨w.heap.size, 0, none⟩) k k) k (u8s (List.replicate k 0))) := by have e := made_zeros k; rw [Nat.mul_one] at e; rw [← e]; exact hown
    obtain ⟨g, hg⟩ : ∃ g, g = w.heap.size := ⟨_, rfl⟩
    rw [← hg] at HO ⊢
    have HG : Hid (g = w.heap.size) := hg
    clear hown hgr hg
    go_wp2_with fail
    go_loopw [15] (fun i wr => ∃ j : Nat, j ≤ k ∧ i = .int .i64 j ∧ Hid (wr.ownsRow g 5 1 (.slice (some ⟨g, 0, none⟩) k k) k (u8s (byteN N j ++ List.replicate (k - j) 0))) ∧ Hid (Below w.heap.size w wr)) (fun i _ => k - (intOf i).toNat)
  all_goals first
    | exact ⟨0, Nat.zero_le _, rfl, HO.out, HB.out⟩
    | (obtain ⟨j, hj, rfl, ho, hb⟩ := hrel
       by_cases hjk : j < k
       · obtain ⟨hcell, hfz⟩ := own_cell (x := 0) (j := j) ho.out (put_zero N k j hjk)
         have hj8 : 8 * j ≤ 62 := by omega
         go_wp2_with fail
         refine ⟨⟨j + 1, by omega, by go_num, put_own ho.out hjk ?_, hb.out.setCell (by show _ ≤ g; have := HG.out; omega) _⟩, by (simp [intOf]) <;> omega⟩
         first
           | (have e : N = 0 := by have := HN.out; omega
              subst e; simp)
           | (rw [HN.out]; exact (div_cast N j).symm)
       · have e : j = k := by omega
         subst e
         go_wp2_with fail
         go_ret
         refine ⟨by rw [HG.out]; rfl, ?_, hb.out⟩
         have := ho.out
         rw [Nat.sub_self, List.replicate_zero, List.append_nil, HG.out] at this
         exact this)

theorem or_high (v x j : Nat) (hv : v < 2 ^ (8 * j)) (hx : x < 256) (hj : j < 7) (X : Int) (hX : X = ((2 ^ (8 * j) * x : Nat) : Int)) : bits BinOp.or IntKind.i64 (v : Int) X = ((v + 2 ^ (8 * j) * x : Nat) : Int) := by
  have hp : 2 ^ (8 * j) ≤ 2 ^ 48 := Nat.pow_le_pow_right (by decide) (by omega)
  have hp2 : (2 : Nat) ^ 48 = 281474976710656 := by decide
  have hqm : 2 ^ (8 * j) * x ≤ 281474976710656 * 255 := Nat.mul_le_mul (by omega) (by omega)
  subst hX
  show IntKind.i64.wrap ((BitVec.ofInt 64 ((v : Nat) : Int) ||| BitVec.ofInt 64 ((2 ^ (8 * j) * x : Nat) : Int)).toNat : Int) = _
  rw [BitVec.toNat_or, ofInt_u64 v (by omega), ofInt_u64 (2 ^ (8 * j) * x) (by omega), Nat.or_comm, ← Nat.two_pow_add_eq_or_of_lt hv]
  have hw : ∀ n : Nat, n < 9223372036854775808 → IntKind.i64.wrap ((n : Nat) : Int) = (n : Int) := by
    intro n hn
    simp [IntKind.wrap, IntKind.bits, IntKind.signed]
    omega
  rw [hw _ (by omega), Nat.add_comm]

theorem wrap_high (x j : Nat) (hx : x < 256) (hj : j < 7) : wrap64 ((x : Int) * 2 ^ (8 * j)) = ((2 ^ (8 * j) * x : Nat) : Int) := by
  have hp : 2 ^ (8 * j) ≤ 2 ^ 48 := Nat.pow_le_pow_right (by decide) (by omega)
  have hp2 : (2 : Nat) ^ 48 = 281474976710656 := by decide
  have hqm : 2 ^ (8 * j) * x ≤ 281474976710656 * 255 := Nat.mul_le_mul (by omega) (by omega)
  have e : ((x : Int) * 2 ^ (8 * j)) = ((2 ^ (8 * j) * x : Nat) : Int) := by rw [Int.natCast_mul, pow_cast, Int.mul_comm]
  rw [e]
  generalize 2 ^ (8 * j) * x = V at hqm ⊢
  unfold wrap64
  omega

set_option maxHeartbeats 1000000 in
theorem fget_bad (w : World) (sv : Value) (l : List Nat) (h : SlAt w sv l) (hl : l.length ≤ 1000000) (h7 : 7 < l.length) :
    Calls Try.prog 34 #[sv] w fun e w' => e = .returned (.tuple #[.int .i64 0, .bool false]) ∧ w = w' := by
  obtain ⟨a1, c1, rfl, hc1⟩ := h
  clear hc1
  go_enter Try.func34, Try.ntmps34
  go_wp2
  go_ret2
  exact ⟨rfl, rfl⟩

set_option maxHeartbeats 1000000 in
theorem fget_ok (w : World) (sv : Value) (l : List Nat) (h : SlAt w sv l) (h7 : l.length ≤ 7) (h256 : ∀ x ∈ l, x < 256) (m : Nat) (hm : m = getN l) :
    Calls Try.prog 34 #[sv] w fun e w' => e = .returned (.tuple #[.int .i64 (m : Int), .bool true]) ∧ w = w' := by
  obtain ⟨a1, c1, rfl, hc1⟩ := h
  have HC : Hid (∀ j x, l[j]? = some x → ∃ b off, a1 = some ⟨b, off, none⟩ ∧ w.cell? ⟨b, off + j, none⟩ = some (.int .u8 ((x : Nat) : Int))) := hc1
  have HM : Hid (m = getN l) := hm
  have H256 : Hid (∀ x ∈ l, x < 256) := h256
  clear hc1 hm h256
  go_enter Try.func34, Try.ntmps34
  go_wp2
  go_loopw [4, 12] (fun t i wr => ∃ j v : Nat, j ≤ l.length ∧ i = .int .i64 j ∧ t = .int .i64 v ∧ Hid (v = getN (l.take j)) ∧ w = wr) (fun _ i _ => l.length - (intOf i).toNat)
  case atStart => exact ⟨0, 0, Nat.zero_le _, rfl, rfl, rfl, rfl⟩
  case round =>
    obtain ⟨j, v, hj, rfl, rfl, hv, rfl⟩ := hrel
    by_cases hjn : j < l.length
    · obtain ⟨x, hx⟩ : ∃ x, l[j]? = some x := ⟨l[j], by simp [hjn]⟩
      obtain ⟨b, off, rfl, hcell⟩ := HC.out j x hx
      have hx256 : x < 256 := H256.out x (List.mem_of_getElem? hx)
      have HX : Hid (l[j]? = some x) := hx
      have hj8 : 8 * j ≤ 48 := by omega
      clear hx
      go_wp2_with fail
      refine ⟨⟨j + 1, v + 2 ^ (8 * j) * x, by omega, by go_num, ?_, ?_, trivial⟩, by (simp [intOf]) <;> omega⟩
      · rw [or_high v x j ?_ hx256 (by omega) _ (wrap_high x j hx256 (by omega))]
        rw [hv.out]
        have := getN_lt (l.take j) (fun y hy => H256.out y (List.mem_of_mem_take hy))
        rw [List.length_take, Nat.min_eq_left (by omega)] at this
        exact this
      · show _ = _
        rw [getN_take l j x HX.out, hv.out]
    · go_wp2_with fail
      go_ret2
      have e : j = l.length := by omega
      have e2 := hv.out
      rw [e, List.take_length, ← HM.out] at e2
      exact ⟨by rw [← e2]; rfl, rfl⟩

set_option maxHeartbeats 1000000 in
theorem rgetN_bad (w : World) (sv : Value) (l : List Nat) (h : SlAt w sv l) (hl : l.length ≤ 1000000) (h7 : 7 < l.length) :
    Calls Try.prog 35 #[sv] w fun e w' => e = .returned (.tuple #[.int .i64 0, .bool false]) ∧ w = w' := by
  obtain ⟨a1, c1, rfl, hc1⟩ := h
  clear hc1
  go_enter Try.func35, Try.ntmps35
  go_wp2
  go_ret2
  exact ⟨rfl, rfl⟩

theorem getN_drop (l : List Nat) (j x : Nat) (h : l[j]? = some x) : getN (l.drop j) = 256 * getN (l.drop (j + 1)) + x := by
  have hj : j < l.length := (List.getElem?_eq_some_iff.1 h).1
  have e : l[j] = x := (List.getElem?_eq_some_iff.1 h).2
  rw [List.drop_eq_getElem_cons hj, e]
  simp only [getN]; omega

set_option maxHeartbeats 1000000 in
theorem rgetN_ok (w : World) (sv : Value) (l : List Nat) (h : SlAt w sv l) (h7 : l.length ≤ 7) (h256 : ∀ x ∈ l, x < 256) (m : Nat) (hm : m = getN l) :
    Calls Try.prog 35 #[sv] w fun e w' => e = .returned (.tuple #[.int .i64 (m : Int), .bool true]) ∧ w = w' := by
  obtain ⟨a1, c1, rfl, hc1⟩ := h
  have HC : Hid (∀ j x, l[j]? = some x → ∃ b off, a1 = some ⟨b, off, none⟩ ∧ w.cell? ⟨b, off + j, none⟩ = some (.int .u8 ((x : Nat) : Int))) := hc1
  have HM : Hid (m = getN l) := hm
  have H256 : Hid (∀ x ∈ l, x < 256) := h256
  have HB : Hid (∀ j, 0 < j → getN (l.drop j) < 281474976710656) := by
    intro j hj
    have h1 := getN_lt (l.drop j) (fun x hx => h256 x (List.mem_of_mem_drop hx))
    have h2 : 2 ^ (8 * (l.drop j).length) ≤ 2 ^ 48 := Nat.pow_le_pow_right (by decide) (by simp; omega)
    have h3 : (2 : Nat) ^ 48 = 281474976710656 := by decide
    omega
  clear hc1 hm h256
  go_enter Try.func35, Try.ntmps35
  go_wp2
  go_loopw [4, 5] (fun t i wr => ∃ j v : Nat, j ≤ l.length ∧ i = .int .i64 ((j : Int) - 1) ∧ t = .int .i64 v ∧ Hid (v = getN (l.drop j)) ∧ w = wr) (fun _ i _ => (intOf i + 1).toNat)
  case atStart => exact ⟨l.length, 0, Nat.le_refl _, by go_num, rfl, by show _ = _; simp [getN], rfl⟩
  case round =>
    obtain ⟨j, v, hj, rfl, rfl, hv, rfl⟩ := hrel
    by_cases hjn : 0 < j
    · obtain ⟨i, rfl⟩ : ∃ i, j = i + 1 := ⟨j - 1, by omega⟩
      have hil : i < l.length := by omega
      obtain ⟨x, hx⟩ : ∃ x, l[i]? = some x := ⟨l[i], by simp [hil]⟩
      obtain ⟨b, off, rfl, hcell⟩ := HC.out i x hx
      have hx256 : x < 256 := H256.out x (List.mem_of_getElem? hx)
      have HX : Hid (l[i]? = some x) := hx
      have hvb : v < 281474976710656 := by rw [hv.out]; exact HB.out _ hjn
      have ei : ((i + 1 : Nat) : Int) - 1 = (i : Int) := by omega
      rw [ei]
      clear hx ei
      go_wp2_with fail
      refine ⟨⟨i, 256 * v + x, by omega, rfl, ?_, ?_, trivial⟩, by (simp [intOf]) <;> omega⟩
      · rfl
      · show _ = _
        rw [getN_drop l i x HX.out, hv.out]
    · go_wp2_with fail
      go_ret2
      have e : j = 0 := by omega
      have e2 := hv.out
      rw [e, List.drop_zero, ← HM.out] at e2
      exact ⟨by rw [← e2]; rfl, rfl⟩

set_option maxHeartbeats 1000000 in
theorem rputN_any (w : World) (n width : Int) (hn : I64 n) (hw : I64 width) (N k : Nat) (hN : N = n.toNat) (hk : k = min width.toNat 8) :
    Calls Try.prog 26 #[.int .i64 n, .int .i64 width] w fun e w' => e = .returned (.slice (some ⟨w.heap.size, 0, none⟩) k k) ∧ w'.ownsRow w.heap.size 5 1 (.slice (some ⟨w.heap.size, 0, none⟩) k k) k (u8s (byteN N k)) ∧ Below w.heap.size w w' := by
  obtain ⟨i0, hi, hz0, hz1, hz2⟩ := info_parts Try.info5
  obtain ⟨hn1, hn2⟩ := hn
  obtain ⟨hw1, hw2⟩ := hw
  have hc : (n < 0 ∧ Hid ((0 : Int) = (N : Int))) ∨ (0 ≤ n ∧ Hid (n = (N : Int))) := by
    by_cases h : n < 0
    · exact .inl ⟨h, by show _ = _; omega⟩
    · exact .inr ⟨by omega, by show _ = _; omega⟩
  have hd : (width < 0 ∧ (0 : Int) = (k : Int)) ∨ (0 ≤ width ∧ width ≤ 8 ∧ width = (k : Int)) ∨ (8 < width ∧ (8 : Int) = (k : Int)) := by omega
  have hk8 : k ≤ 8 := by omega
  have hN63 : N < 9223372036854775808 := by omega
  have HM : ∀ L : Int, L = (k : Int) → Hid (L = (k : Int)) := fun _ h => h
  clear hN hk
  rcases hc with ⟨hc, HN⟩ | ⟨hc, HN⟩
  all_goals rcases hd with ⟨hd, hL⟩ | ⟨hd, hd', hL⟩ | ⟨hd, hL⟩
  all_goals (have HL := HM _ hL; clear hL HM)
  all_goals go_enter Try.func26, Try.ntmps26
  all_goals go_wp2_with (at_make; refine wpList_make_full _ rfl _ _ 26 rfl w.heap.size 5 i0 (.int .u8 0) 1 Try.underlying26 hi hz0 hz1 _ _ _ _ k rfl rfl HL.out HL.out (by rw [hz2]; omega) (by unfold maxLen; omega) (Nat.le_refl _) ?_)
  all_goals
    intro w1 hown hgr
    have HB : Hid (Below w.heap.size w w1) := (Below.refl _ _).grown hgr (Nat.le_refl _) (fun k hk => by cases hk)
    have HO : Hid (w1.ownsRow w.heap.size 5 1 (.slice (some ⟨w.heap.size, 0, none⟩) k k) k (u8s (List.replicate k 0))) := by have e := made_zeros k; rw [Nat.mul_one] at e; rw [← e]; exact hown
    obtain ⟨g, hg⟩ : ∃ g, g = w.heap.size := ⟨_, rfl⟩
    rw [← hg] at HO ⊢
    have HG : Hid (g = w.heap.size) := hg
    clear hown hgr hg
    go_wp2_with fail
    go_loopw [0, 16] (fun t i wr => ∃ (j : Nat) (T : Int), j ≤ k ∧ i = .int .i64 j ∧ t = .int .i64 T ∧ Hid (T = ((N / 2 ^ (8 * j) : Nat) : Int)) ∧ 0 ≤ T ∧ T ≤ 9223372036854775807 ∧ Hid (wr.ownsRow g 5 1 (.slice (some ⟨g, 0, none⟩) k k) k (u8s (byteN N j ++ List.replicate (k - j) 0))) ∧ Hid (Below w.heap.size w wr)) (fun _ i _ => k - (intOf i).toNat)
  all_goals first
    | exact ⟨0, _, Nat.zero_le _, rfl, rfl, by show _ = _; rw [HN.out]; simp, by omega, by omega, HO.out, HB.out⟩
    | exact ⟨0, _, Nat.zero_le _, rfl, rfl, by show _ = _; simp [← HN.out], by omega, by omega, HO.out, HB.out⟩
    | (obtain ⟨j, T, hj, rfl, rfl, hT, hT0, hT1, ho, hb⟩ := hrel
       by_cases hjk : j < k
       · obtain ⟨hcell, hfz⟩ := own_cell (x := 0) (j := j) ho.out (put_zero N k j hjk)
         go_wp2_with fail
         refine ⟨⟨j + 1, T / 256, by omega, by go_num, rfl, ?_, by omega, by omega, put_own ho.out hjk ?_, hb.out.setCell (by show _ ≤ g; have := HG.out; omega) _⟩, by (simp [intOf]) <;> omega⟩
         · show _ = _
           rw [div_step, hT.out]; rfl
         · rw [hT.out]; rfl
       · have e : j = k := by omega
         subst e
         go_wp2_with fail
         go_ret
         refine ⟨by rw [HG.out]; rfl, ?_, hb.out⟩
         have := ho.out
         rw [Nat.sub_self, List.replicate_zero, List.append_nil, HG.out] at this
         exact this)

end Go.Proofs.Ytdcnbakmmkbodaa

/- Superblocks as plain data: a sector of one, what a sector is one of, which of two counts; no program. -/
namespace Go.Proofs.Ytdcnbakmmkbodaa
set_option linter.unusedVariables false
set_option linter.unusedSimpArgs false
open Go.RowKit Dg Cr

structure Su where
  gen : Int
  life : Int
  done : Int
  root : Int
def magicL : List Nat := [111, 118, 101, 114, 100, 117, 98, 49]
/-- Four bytes of a number. -/
def put4 (n : Int) : List Nat := byteN n.toNat 4
theorem length_put4 (n : Int) : (put4 n).length = 4 := by simp [put4, byteN]
theorem put4_lt (n : Int) : ∀ x ∈ put4 n, x < 256 := byteN_lt _ _
def headSu (s : Su) (c : Int) : List Nat := magicL ++ (put4 s.gen ++ (put4 s.life ++ (put4 s.done ++ (put4 s.root ++ put4 c))))
theorem length_headSu (s : Su) (c : Int) : (headSu s c).length = 28 := by
  unfold headSu
  simp only [List.length_append, length_put4]
  rfl
theorem headSu_lt (s : Su) (c : Int) : ∀ x ∈ headSu s c, x < 256 := by
  intro x hx
  unfold headSu at hx
  simp only [List.mem_append] at hx
  rcases hx with h | h | h | h | h | h
  · unfold magicL at h
    simp at h
    omega
  all_goals exact put4_lt _ x h
/-- A superblock's sector. -/
def packSu (s : Su) (c : Int) : List Nat := sealL (headSu s c)
theorem length_packSu (s : Su) (c : Int) : (packSu s c).length = 128 := length_sealL (by rw [length_headSu]; omega)
theorem packSu_lt (s : Su) (c : Int) : ∀ x ∈ packSu s c, x < 256 := sealL_lt (headSu_lt s c)
theorem packSu_whole (s : Su) (c : Int) : wholeP (packSu s c) := whole_seal (by rw [length_headSu]; omega)
/-- The number in the four bytes from i on. -/
def num4 (b : List Nat) (i : Nat) : Int := ((getN ((b.drop i).take 4) : Nat) : Int)
def readSu (b : List Nat) : Su := ⟨num4 b 8, num4 b 12, num4 b 16, num4 b 20⟩
def maySu (s : Su) (c : Int) : Prop := (1 ≤ s.gen ∧ s.gen < 2147483648) ∧ (1 ≤ s.life ∧ s.life < 2147483648) ∧ s.done < 2147483648 ∧ s.root < 4096 ∧ 1 ≤ c ∧ c ≤ 1024
instance (s : Su) (c : Int) : Decidable (maySu s c) := inferInstanceAs (Decidable (_ ∧ _))
def isSu (b : List Nat) : Prop := b.length = 128 ∧ packSu (readSu b) (num4 b 24) = b ∧ maySu (readSu b) (num4 b 24)
instance (b : List Nat) : Decidable (isSu b) := inferInstanceAs (Decidable (_ ∧ _))
/-- What a sector is one of. -/
def unpSu (b : List Nat) : Su × Int × Bool := if isSu b then (readSu b, num4 b 24, true) else (⟨0, 0, 0, 0⟩, 0, false)
/-- Which of two counts. -/
def chooseSu (a b : List Nat) : Su × Int × Int × Bool :=
  if isSu a ∧ (¬ isSu b ∨ (readSu b).gen ≤ (readSu a).gen) then (readSu a, num4 a 24, 0, true)
  else if isSu b then (readSu b, num4 b 24, 1, true) else (⟨0, 0, 0, 0⟩, 0, 0, false)

end Go.Proofs.Ytdcnbakmmkbodaa

/- Superblocks: what is packed is read as it was; a digit turned. -/
namespace Go.Proofs.Ytdcnbakmmkbodaa
set_option linter.unusedVariables false
set_option linter.unusedSimpArgs false
open Go.RowKit Dg Cr

theorem two_pow_bit (i j : Nat) : (2 ^ i / 2 ^ j % 2 = 1) ↔ i = j := by
  have h1 := Nat.testBit_two_pow (n := i) (m := j)
  rw [Nat.testBit_eq_decide_div_mod_eq] at h1
  constructor
  · intro h
    rw [decide_eq_true h] at h1
    exact of_decide_eq_true h1.symm
  · intro h
    rw [decide_eq_true h] at h1
    exact of_decide_eq_true h1
/-- One digit turned is a burst of one. -/
theorem turn_one (l : List Nat) (at_ i : Nat) : ∀ n, turned l at_ (2 ^ i) n = if i < n then turn l (at_ + i) else l
  | 0 => rfl
  | n + 1 => by
    have ih := turn_one l at_ i n
    show (if 2 ^ i / 2 ^ n % 2 = 1 then turn (turned l at_ (2 ^ i) n) (at_ + n) else turned l at_ (2 ^ i) n) = _
    by_cases e : i = n
    · subst e
      rw [if_pos ((two_pow_bit i i).2 rfl), ih, if_neg (by omega), if_pos (by omega)]
    · rw [if_neg (fun h => e ((two_pow_bit i n).1 h)), ih]
      by_cases e2 : i < n
      · rw [if_pos e2, if_pos (by omega)]
      · rw [if_neg e2, if_neg (by omega)]
theorem whole_turn {l : List Nat} (h : wholeP l) (h256 : ∀ x ∈ l, x < 256) {k : Nat} (hk : k < 1024) : ¬ wholeP (turn l k) := by
  by_cases h1 : k ≤ 992
  · have e := turn_one l k 0 32
    rw [if_pos (by omega), Nat.add_zero] at e
    rw [← e]
    exact whole_burst h h256 (by omega) (by decide) (by decide)
  · have e := turn_one l 992 (k - 992) 32
    rw [if_pos (by omega), show 992 + (k - 992) = k by omega] at e
    rw [← e]
    refine whole_burst h h256 (by omega) (Nat.ne_of_gt (Nat.pow_pos (by decide))) ?_
    have : 2 ^ (k - 992) < 2 ^ 32 := Nat.pow_lt_pow_right (by decide) (by omega)
    exact this
theorem isSu_whole {b : List Nat} (h : isSu b) : wholeP b := h.2.1 ▸ packSu_whole _ _
/-- A number in a sector. -/
theorem num4_seal (pre post : List Nat) (x : Int) (i : Nat) (hi : pre.length = i) (h0 : 0 ≤ x) (h1 : x < 4294967296) : num4 (sealL (pre ++ (put4 x ++ post))) i = x := by
  unfold num4 sealL fillF
  rw [List.append_assoc, List.append_assoc, List.append_assoc, List.drop_left' hi, List.take_left' (length_put4 x)]
  unfold put4
  rw [getN_byteN]
  have e : (2 : Nat) ^ (8 * 4) = 4294967296 := by decide
  rw [e]
  omega
structure GoodSu (s : Su) (c : Int) : Prop where
  g : 0 ≤ s.gen ∧ s.gen < 4294967296
  l : 0 ≤ s.life ∧ s.life < 4294967296
  d : 0 ≤ s.done ∧ s.done < 4294967296
  r : 0 ≤ s.root ∧ s.root < 4294967296
  c : 0 ≤ c ∧ c < 4294967296
theorem GoodSu.back {s : Su} {c : Int} (h : GoodSu s c) : readSu (packSu s c) = s ∧ num4 (packSu s c) 24 = c := by
  have a1 : num4 (packSu s c) 8 = s.gen := num4_seal magicL _ _ 8 rfl h.g.1 h.g.2
  have a2 : num4 (packSu s c) 12 = s.life := by
    have e : packSu s c = sealL ((magicL ++ put4 s.gen) ++ (put4 s.life ++ (put4 s.done ++ (put4 s.root ++ put4 c)))) := by unfold packSu headSu; simp only [List.append_assoc]
    rw [e]
    exact num4_seal _ _ _ 12 (by rw [List.length_append, length_put4]; rfl) h.l.1 h.l.2
  have a3 : num4 (packSu s c) 16 = s.done := by
    have e : packSu s c = sealL ((magicL ++ (put4 s.gen ++ put4 s.life)) ++ (put4 s.done ++ (put4 s.root ++ put4 c))) := by unfold packSu headSu; simp only [List.append_assoc]
    rw [e]
    exact num4_seal _ _ _ 16 (by simp only [List.length_append, length_put4]; rfl) h.d.1 h.d.2
  have a4 : num4 (packSu s c) 20 = s.root := by
    have e : packSu s c = sealL ((magicL ++ (put4 s.gen ++ (put4 s.life ++ put4 s.done))) ++ (put4 s.root ++ put4 c)) := by unfold packSu headSu; simp only [List.append_assoc]
    rw [e]
    exact num4_seal _ _ _ 20 (by simp only [List.length_append, length_put4]; rfl) h.r.1 h.r.2
  have a5 : num4 (packSu s c) 24 = c := by
    have e : packSu s c = sealL ((magicL ++ (put4 s.gen ++ (put4 s.life ++ (put4 s.done ++ put4 s.root)))) ++ (put4 c ++ [])) := by unfold packSu headSu; simp only [List.append_assoc, List.append_nil]
    rw [e]
    exact num4_seal _ _ _ 24 (by simp only [List.length_append, length_put4]; rfl) h.c.1 h.c.2
  refine ⟨?_, a5⟩
  unfold readSu
  rw [a1, a2, a3, a4]
theorem GoodSu.unlike {s t : Su} {c d : Int} (h : GoodSu s c) (k : GoodSu t d) : packSu s c = packSu t d ↔ s = t ∧ c = d := by
  constructor
  · intro e
    obtain ⟨a1, a2⟩ := h.back
    obtain ⟨b1, b2⟩ := k.back
    rw [e] at a1 a2
    exact ⟨a1.symm.trans b1, a2.symm.trans b2⟩
  · rintro ⟨rfl, rfl⟩; rfl
theorem GoodSu.isSu_iff {s : Su} {c : Int} (h : GoodSu s c) : isSu (packSu s c) ↔ maySu s c := by
  obtain ⟨a1, a2⟩ := h.back
  unfold isSu
  rw [a1, a2]
  exact ⟨fun e => e.2.2, fun e => ⟨length_packSu s c, rfl, e⟩⟩
theorem GoodSu.unp {s : Su} {c : Int} (h : GoodSu s c) (hm : maySu s c) : unpSu (packSu s c) = (s, c, true) := by
  unfold unpSu
  rw [if_pos (h.isSu_iff.2 hm), h.back.1, h.back.2]
theorem GoodSu.unp_no {s : Su} {c : Int} (h : GoodSu s c) (hm : ¬ maySu s c) : unpSu (packSu s c) = (⟨0, 0, 0, 0⟩, 0, false) := by
  unfold unpSu
  rw [if_neg (fun e => hm (h.isSu_iff.1 e))]
theorem unp_none {b : List Nat} (h : ¬ isSu b) : unpSu b = (⟨0, 0, 0, 0⟩, 0, false) := by unfold unpSu; rw [if_neg h]
theorem unp_turn {s : Su} {c : Int} {k : Nat} (hk : k < 1024) : unpSu (turn (packSu s c) k) = (⟨0, 0, 0, 0⟩, 0, false) :=
  unp_none fun h => whole_turn (packSu_whole s c) (packSu_lt s c) hk (isSu_whole h)
/-- Which of two counts. -/
theorem GoodSu.choose {s t : Su} {c d : Int} (h : GoodSu s c) (k : GoodSu t d) (hm : maySu s c) (km : maySu t d) : chooseSu (packSu s c) (packSu t d) = if t.gen ≤ s.gen then (s, c, 0, true) else (t, d, 1, true) := by
  unfold chooseSu
  rw [h.back.1, h.back.2, k.back.1, k.back.2]
  by_cases e : t.gen ≤ s.gen
  · rw [if_pos ⟨h.isSu_iff.2 hm, .inr e⟩, if_pos e]
  · rw [if_neg (by rintro ⟨-, e2 | e2⟩; exact e2 (k.isSu_iff.2 km); exact e e2), if_pos (k.isSu_iff.2 km), if_neg e]
/-- A superblock of small numbers. -/
def smallSu (s : Su) : Su := ⟨1 + s.gen % 9, 1 + s.life % 9, s.done % 9, s.root % 90⟩
theorem smallSu_in (s : Su) : (1 ≤ (smallSu s).gen ∧ (smallSu s).gen ≤ 9) ∧ (1 ≤ (smallSu s).life ∧ (smallSu s).life ≤ 9) ∧ (0 ≤ (smallSu s).done ∧ (smallSu s).done ≤ 8) ∧ (0 ≤ (smallSu s).root ∧ (smallSu s).root ≤ 89) := by
  unfold smallSu
  simp only []
  omega

end Go.Proofs.Ytdcnbakmmkbodaa

/- Slices of bytes that can be read, their parts; appends of them to rows of the call's own. -/
namespace Go.Proofs.Ytdcnbakmmkbodaa
set_option linter.unusedVariables false
set_option linter.unusedSimpArgs false
open Go.RowKit Dg

/-- A slice of bytes that can be read, and its room. -/
structure Bs (w : World) (a : Option Addr) (cap : Nat) (l : List Nat) : Prop where
  at_ : SlAt w (.slice a l.length cap) l
  le : l.length ≤ cap
  nil : a = none → cap = 0
theorem Bs.below {w w' : World} {a : Option Addr} {cap : Nat} {l : List Nat} (h : Bs w a cap l) (hb : Below w.heap.size w w') : Bs w' a cap l := ⟨h.at_.below hb, h.le, h.nil⟩
theorem Bs.kept {w w' : World} {a : Option Addr} {cap : Nat} {l : List Nat} {F : Nat → Prop} (h : Bs w a cap l) (hk : Kept F w w') (hF : l ≠ [] → ∀ k, (Value.slice a l.length cap).ownBlock = some k → ¬ F k) : Bs w' a cap l := ⟨h.at_.kept' hk hF, h.le, h.nil⟩
/-- Where b[k:] lies. -/
def lowA (a : Option Addr) (cap k : Nat) : Option Addr := if cap = k then a else a.map (·.add k)
theorem Bs.lo {w : World} {a : Option Addr} {cap : Nat} {l : List Nat} (h : Bs w a cap l) (k : Nat) (hk : k ≤ l.length) : Bs w (lowA a cap k) (cap - k) (l.drop k) := by
  unfold lowA
  by_cases hck : cap = k
  · have hl := h.le
    rw [if_pos hck]
    refine ⟨?_, by simp; omega, fun e => by have := h.nil e; omega⟩
    rw [List.drop_eq_nil_of_le (by omega)]
    exact SlAt.none_of _ _ _ rfl
  · rw [if_neg hck]
    cases a with
    | none => have := h.nil rfl; have := h.le; omega
    | some x =>
      refine ⟨?_, by have := h.le; simp; omega, fun e => by cases e⟩
      rw [List.length_drop]
      exact h.at_.drop k hk rfl
theorem Bs.hi {w : World} {a : Option Addr} {cap : Nat} {l : List Nat} (h : Bs w a cap l) (k : Nat) (hk : k ≤ l.length) : SlAt w (.slice a k cap) (l.take k) := h.at_.take k hk rfl
theorem Bs.of_row {w : World} {a : Option Addr} {len cap n : Nat} {zs : List Int} (hr : IsRow .u8 w a len cap zs) : ∃ l : List Nat, l.length = min len n ∧ (∀ x ∈ l, x < 256) ∧ Bs w a cap l ∧ len ≤ cap ∧ cap ≤ maxLen ∧ (a = none → len = 0 ∧ cap = 0) := by
  obtain ⟨l, hll, h256, hsl, hc1, hc2, hc3⟩ := cut_row (n := n) hr
  exact ⟨l, hll, h256, ⟨by rw [hll]; exact hsl, by omega, fun e => (hc3 e).2⟩, hc1, hc2, hc3⟩
theorem OwnBytes.bs {w : World} {base : Nat} {v : Value} {l : List Nat} (h : OwnBytes w base v l) : ∃ a cap, v = .slice a l.length cap ∧ Bs w a cap l := by
  have h' : w.ownsRow base 5 1 v l.length (u8s l) := h
  rcases h.2 with ⟨rfl, hn⟩ | ⟨g, cap, cur, rfl, hb, hh, hn, _, hcs, htake⟩
  · exact ⟨none, 0, by rw [hn], by rw [hn]; exact SlAt.of_owns h', by omega, fun _ => rfl⟩
  · exact ⟨some ⟨g, 0, none⟩, cap, rfl, SlAt.of_owns h', hn, fun e => by cases e⟩

theorem slice_hi (a : Option Addr) (n cap k : Nat) (hk : k ≤ cap) (W : World) : (Instr.sliceAt 26 (.slice a n cap) none (some (.int .i64 (k : Int))) none).run Try.prog W = .ok (.slice a k cap) W := by
  obtain ⟨i0, hi, hz0, hz1, hz2⟩ := info_parts Try.info5
  simp [Instr.sliceAt, Instr.slice, Instr.sliceBounds, Instr.sliceBound, asIntOf, run_underlying Try.underlying26, sizeOf, typeInfo, hi, hk]
  cases a <;> simp [Addr.add]
theorem slice_lo (a : Option Addr) (n cap k : Nat) (hk : k ≤ n) (W : World) : (Instr.sliceAt 26 (.slice a n cap) (some (.int .i64 (k : Int))) none none).run Try.prog W = .ok (.slice (lowA a cap k) (n - k) (cap - k)) W := by
  obtain ⟨i0, hi, hz0, hz1, hz2⟩ := info_parts Try.info5
  simp [Instr.sliceAt, Instr.slice, Instr.sliceBounds, Instr.sliceBound, asIntOf, run_underlying Try.underlying26, sizeOf, typeInfo, hi, hz1, hk, lowA]

/-- 'append(s, x...)' of bytes to a row of the call's own. -/
theorem wpList_append_bytes (w : World) {ops : Array Oper} {rest : List Oper} {o : Oper} {a : Act} {Q : Exit → Act → World → Prop}
    (hgd : o.guard = none) (s x : Operand) (ho : o.op = .call { callee := .builtin .append, args := #[s, x], argTypes := #[26, 26] })
    (base : Nat) (v : Value) (l : List Nat) (hs : a.eval s = v) (hown : OwnBytes w base v l) (xa : Option Addr) (xc : Nat) (m : List Nat) (hx : a.eval x = .slice xa m.length xc) (hm : Bs w xa xc m)
    (hl : l.length + m.length ≤ 1000000) (hbase : base ≤ w.heap.size)
    (h : ∀ v' w', Hid (OwnBytes w' base v' (l ++ m)) → Hid (Kept (fun k => v.ownBlock = some k) w w') → Hid (∀ k, v'.ownBlock = some k → v.ownBlock = some k ∨ w.heap.size ≤ k) → wpList Try.prog ops Q rest (a.put o.dst v') w') : wpList Try.prog ops Q (o :: rest) a w := by
  obtain ⟨i0, hi, hz0, hz1, hz2⟩ := info_parts Try.info5
  have hown' : w.ownsRow base 5 1 v l.length (u8s l) := hown
  cases xa with
  | none =>
    have hc := hm.nil rfl
    have hle := hm.le
    have hm0 : m = [] := List.eq_nil_of_length_eq_zero (by omega)
    subst hm0 hc
    refine wpList_append_own_none hgd s x 26 ho base 5 i0 1 Try.underlying26 hi v l.length (u8s l) hs hown' hx ?_
    refine h v w ?_ (Kept.refl _ _) (fun k hk => .inl hk)
    rw [List.append_nil]; exact hown
  | some ad =>
    have hcell : ∀ j u, (u8s m)[j]? = some u → w.cell? (ad.add j) = some u := by
      intro j u hu
      rw [u8s_get] at hu
      obtain ⟨y, hy, rfl⟩ := Option.map_eq_some_iff.1 hu
      obtain ⟨b, off, e, hc⟩ := sl_cell hm.at_ hy
      cases e
      have hadd : (⟨b, off, none⟩ : Addr).add j = ⟨b, off + j, none⟩ := by simp [Addr.add]
      rw [hadd]
      exact hc
    have hone : ∀ u ∈ u8s m, u.oneCell' = true := by intro u hu; simp [u8s] at hu; obtain ⟨y, _, rfl⟩ := hu; rfl
    by_cases hne : m = []
    · subst hne
      rcases hown'.2 with ⟨hv, hn⟩ | ⟨g, cap, cur, hv, hb, hh, hn, hcm, hcs, htake⟩
      · refine wpList_append_own _ hgd s x 26 ho base 5 i0 (.int .u8 0) 1 1 Try.underlying26 hi hz0 hz1 hz2 rfl (by decide) v l.length (u8s l) hs hown' ad 0 xc [] hx rfl (fun j u hu => by simp at hu) (fun u hu => by simp at hu) (by unfold maxLen; omega) (by omega) hbase ?_
        intro v' w' h1 h2 h3
        have hv' : v' = .slice none 0 0 := h3.2 ⟨hv, rfl⟩
        refine h v' w' ?_ (Kept.grown h2) (fun k hk => by rw [hv'] at hk; cases hk)
        show World.ownsRow _ _ _ _ _ _ _
        simpa [u8s_append] using h1
      · refine wpList_append_fits w hgd s x 26 ho base 5 i0 1 Try.underlying26 hi hz1 g l.length cap (u8s l) (hs.trans hv) (hv ▸ hown') ad 0 xc [] hx rfl (fun j u hu => by simp at hu) (fun u hu => by simp at hu) (by omega) ?_
        intro w' h1 h2
        refine h _ w' ?_ ?_ (fun k hk => .inl ?_)
        · show World.ownsRow _ _ _ _ _ _ _
          simpa [u8s_append] using h1
        · have := Kept.grown h2
          rw [hv]; exact this
        · rw [hv]; exact hk
    · refine wpList_append_mine _ hgd s x 26 ho base 5 i0 (.int .u8 0) 1 1 Try.underlying26 hi hz0 hz1 hz2 rfl (by decide) v l.length (u8s l) hs hown' ad m.length xc (u8s m) hx (by simp) hcell hone (List.length_pos_iff.2 hne) (by unfold maxLen; omega) (by omega) hbase ?_
      intro g cap w' h1 h2 h3
      refine h _ w' ?_ (Kept.grown h2.out) (fun k hk => ?_)
      · show World.ownsRow _ _ _ _ _ _ _
        rw [u8s_append, List.length_append]; exact h1.out
      · simp [Value.ownBlock] at hk
        subst hk
        exact h3.out

end Go.Proofs.Ytdcnbakmmkbodaa

/- Superblocks, whatever makes them: the bundle that the laws of layer 14 lean on; Small. -/
namespace Go.Proofs.Ytdcnbakmmkbodaa
set_option linter.unusedVariables false
set_option linter.unusedSimpArgs false
open Go.RowKit Dg Cr

def suV (s : Su) : Value := .agg #[.int .i64 s.gen, .int .i64 s.life, .int .i64 s.done, .int .i64 s.root]
structure Su64 (s : Su) : Prop where
  g : I64 s.gen
  l : I64 s.life
  d : I64 s.done
  r : I64 s.root
structure Sup (Ok : World → Prop) : Prop where
  okK : ∀ {W w : World}, Ok W → Kept (fun k => W.heap.size ≤ k) W w → Ok w
  packB : ∀ (w : World) (s : Su) (c : Int), Ok w → Su64 s → I64 c → Calls Try.prog 10 #[suV s, .int .i64 c] w fun e w' => ∃ g k, e = .returned (.slice (some ⟨g, 0, none⟩) 128 k) ∧ OwnBytes w' w.heap.size (.slice (some ⟨g, 0, none⟩) 128 k) (packSu s c) ∧ Below w.heap.size w w'
  unpB : ∀ (w : World) (a : Option Addr) (n cap : Nat) (l : List Nat), Ok w → Bs w a cap l → l.length = n → n ≤ 100000 → (∀ x ∈ l, x < 256) → Calls Try.prog 19 #[.slice a n cap] w fun e w' => e = .returned (.tuple #[suV (unpSu l).1, .int .i64 (unpSu l).2.1, .bool (unpSu l).2.2]) ∧ Below w.heap.size w w'
def SuChoose (Ok : World → Prop) : Prop := ∀ (w : World) (a1 : Option Addr) (n1 c1 : Nat) (l1 : List Nat) (a2 : Option Addr) (n2 c2 : Nat) (l2 : List Nat), Ok w → Bs w a1 c1 l1 → l1.length = n1 → n1 ≤ 100000 → (∀ x ∈ l1, x < 256) → Bs w a2 c2 l2 → l2.length = n2 → n2 ≤ 100000 → (∀ x ∈ l2, x < 256) →
    Calls Try.prog 12 #[.slice a1 n1 c1, .slice a2 n2 c2] w fun e w' => e = .returned (.tuple #[suV (chooseSu l1 l2).1, .int .i64 (chooseSu l1 l2).2.1, .int .i64 (chooseSu l1 l2).2.2.1, .bool (chooseSu l1 l2).2.2.2]) ∧ Below w.heap.size w w'
/-- The slot of the next one. -/
def nextSu (s : Su) : Int := max s.gen 0 % 2
def SuNext : Prop := ∀ (w : World) (s : Su), Su64 s → Calls Try.prog 11 #[suV s] w fun e w' => e = .returned (.int .i64 (nextSu s)) ∧ Below w.heap.size w w'

set_option maxRecDepth 100000 in
theorem Try.infoSu : (Try.prog.info? 23).map (·.size) = some 4 := by kernel_rfl
theorem wrap_of {x : Int} (h1 : -9223372036854775808 ≤ x) (h2 : x ≤ 9223372036854775807) : IntKind.i64.wrap x = x := by
  rw [IntKind.wrap_i64]; omega
set_option maxRecDepth 100000 in
set_option maxHeartbeats 4000000 in
theorem small_any (w : World) (s : Su) (h : Su64 s) :
    Calls Try.prog 8 #[suV s] w fun e w' => e = .returned (suV (smallSu s)) ∧ Below w.heap.size w w' := by
  obtain ⟨x1, x2, x3, x4⟩ := s
  obtain ⟨⟨g1, g2⟩, ⟨l1, l2⟩, ⟨d1, d2⟩, ⟨r1, r2⟩⟩ := h
  simp only [] at g1 g2 l1 l2 d1 d2 r1 r2
  obtain ⟨z1, hz1⟩ : ∃ z, z = x1 % 9 := ⟨_, rfl⟩
  obtain ⟨z2, hz2⟩ : ∃ z, z = x2 % 9 := ⟨_, rfl⟩
  obtain ⟨z3, hz3⟩ : ∃ z, z = x3 % 9 := ⟨_, rfl⟩
  obtain ⟨z4, hz4⟩ : ∃ z, z = x4 % 90 := ⟨_, rfl⟩
  have HW1 : Hid (∀ w, Calls Try.prog 9 #[.int .i64 x1, .int .i64 9] w fun e w' => e = .returned (.int .i64 z1) ∧ w = w') := fun w => by rw [hz1]; exact within_any x1 9 w g1 g2 (by decide) (by decide)
  have HW2 : Hid (∀ w, Calls Try.prog 9 #[.int .i64 x2, .int .i64 9] w fun e w' => e = .returned (.int .i64 z2) ∧ w = w') := fun w => by rw [hz2]; exact within_any x2 9 w l1 l2 (by decide) (by decide)
  have HW3 : Hid (∀ w, Calls Try.prog 9 #[.int .i64 x3, .int .i64 9] w fun e w' => e = .returned (.int .i64 z3) ∧ w = w') := fun w => by rw [hz3]; exact within_any x3 9 w d1 d2 (by decide) (by decide)
  have HW4 : Hid (∀ w, Calls Try.prog 9 #[.int .i64 x4, .int .i64 90] w fun e w' => e = .returned (.int .i64 z4) ∧ w = w') := fun w => by rw [hz4]; exact within_any x4 90 w r1 r2 (by decide) (by decide)
  have HE : Hid (suV (smallSu ⟨x1, x2, x3, x4⟩) = .agg #[.int .i64 (1 + z1), .int .i64 (1 + z2), .int .i64 z3, .int .i64 z4]) := by show _ = _; rw [hz1, hz2, hz3, hz4]; rfl
  have hb1 : 0 ≤ z1 ∧ z1 < 9 := by omega
  have hb2 : 0 ≤ z2 ∧ z2 < 9 := by omega
  clear hz1 hz2 hz3 hz4 g1 g2 l1 l2 d1 d2 r1 r2
  rw [HE.out]
  unfold suV
  go_enter Try.func8, Try.ntmps8
  go_upto_region 1 with fail
  obtain ⟨bx, hbx⟩ : ∃ bx, bx = w.heap.size := ⟨_, rfl⟩
  obtain ⟨w0, hw0⟩ : ∃ w0, w0 = (w.alloc (.cells #[.int .i64 x1, .int .i64 x2, .int .i64 x3, .int .i64 x4] 23)).alloc (.cells #[.int .i64 0, .int .i64 0, .int .i64 0, .int .i64 0] 23) := ⟨_, rfl⟩
  obtain ⟨yx, hyx⟩ : ∃ yx, yx = w.heap.size + 1 := ⟨_, rfl⟩
  have hs1 : (w.alloc (.cells #[.int .i64 x1, .int .i64 x2, .int .i64 x3, .int .i64 x4] 23)).heap.size = w.heap.size + 1 := by simp
  have hbw : Below w.heap.size w w0 := by rw [hw0]; exact ((Below.refl _ _).alloc (Nat.le_refl _) _).alloc (by simp) _
  have hb0 : w0.heap[bx]? = some (.cells #[.int .i64 x1, .int .i64 x2, .int .i64 x3, .int .i64 x4] 23 (0, 0)) := by
    have e := (Kept.alloc (fun _ => False) (w.alloc (.cells #[.int .i64 x1, .int .i64 x2, .int .i64 x3, .int .i64 x4] 23)) (.cells #[.int .i64 0, .int .i64 0, .int .i64 0, .int .i64 0] 23)).block bx (by omega) (fun h => h)
    rw [hw0, e, hbx]
    exact heap_alloc_new w _
  have hy0 : w0.heap[yx]? = some (.cells #[.int .i64 0, .int .i64 0, .int .i64 0, .int .i64 0] 23 (0, 0)) := by
    rw [hw0, hyx, ← hs1]
    exact heap_alloc_new _ _
  have hxy : bx ≠ yx := by omega
  have hyx2 : yx ≠ bx := by omega
  have hwr1 : IntKind.i64.wrap (1 + z1) = 1 + z1 := wrap_of (by omega) (by omega)
  have hwr2 : IntKind.i64.wrap (1 + z2) = 1 + z2 := wrap_of (by omega) (by omega)
  have hysz : w.heap.size ≤ yx := by omega
  obtain ⟨k0, k1, k2, k3⟩ : w0.cell? ⟨bx, 0, none⟩ = some (.int .i64 x1) ∧ w0.cell? ⟨bx, 1, none⟩ = some (.int .i64 x2) ∧ w0.cell? ⟨bx, 2, none⟩ = some (.int .i64 x3) ∧ w0.cell? ⟨bx, 3, none⟩ = some (.int .i64 x4) := by
    refine ⟨?_, ?_, ?_, ?_⟩ <;> (unfold World.cell?; rw [hb0]; rfl)
  obtain ⟨m0, m1, m2, m3⟩ : w0.cell? ⟨yx, 0, none⟩ = some (.int .i64 0) ∧ w0.cell? ⟨yx, 1, none⟩ = some (.int .i64 0) ∧ w0.cell? ⟨yx, 2, none⟩ = some (.int .i64 0) ∧ w0.cell? ⟨yx, 3, none⟩ = some (.int .i64 0) := by
    refine ⟨?_, ?_, ?_, ?_⟩ <;> (unfold World.cell?; rw [hy0]; rfl)
  have mf : ∀ j, w0.frozen? ⟨yx, j, none⟩ = false := fun j => by simp [World.frozen?, hy0]
  have HY := hid_of hy0
  have HBW := hid_of hbw
  rw [← hw0, ← hyx, ← hbx]
  clear hw0 hbx hyx hb0 hy0 hbw hs1
  go_region_held (fun W' => W'.cell? ⟨bx, 0, none⟩ = some (.int .i64 x1) ∧ W'.cell? ⟨bx, 1, none⟩ = some (.int .i64 x2) ∧ W'.cell? ⟨bx, 2, none⟩ = some (.int .i64 x3) ∧ W'.cell? ⟨bx, 3, none⟩ = some (.int .i64 x4)) (first | assumption | go_keep) (first
    | (go_at_call_of 9 x1; refine (HW1.out _).mono ?_; rintro e w1 ⟨rfl, rfl⟩)
    | (go_at_call_of 9 x2; refine (HW2.out _).mono ?_; rintro e w1 ⟨rfl, rfl⟩)
    | (go_at_call_of 9 x3; refine (HW3.out _).mono ?_; rintro e w1 ⟨rfl, rfl⟩)
    | (go_at_call_of 9 x4; refine (HW4.out _).mono ?_; rintro e w1 ⟨rfl, rfl⟩))
  obtain ⟨u1, hu1⟩ : ∃ u, u = w0.setCell ⟨yx, 0, none⟩ (.int .i64 (1 + z1)) := ⟨_, rfl⟩
  obtain ⟨u2, hu2⟩ : ∃ u, u = u1.setCell ⟨yx, 1, none⟩ (.int .i64 (1 + z2)) := ⟨_, rfl⟩
  obtain ⟨u3, hu3⟩ : ∃ u, u = u2.setCell ⟨yx, 2, none⟩ (.int .i64 z3) := ⟨_, rfl⟩
  obtain ⟨u4, hu4⟩ : ∃ u, u = u3.setCell ⟨yx, 3, none⟩ (.int .i64 z4) := ⟨_, rfl⟩
  obtain ⟨w7, hw7⟩ : ∃ w7, w7 = u4.drew := ⟨_, rfl⟩
  have e1 : u1.heap[yx]? = some (.cells #[.int .i64 (1 + z1), .int .i64 0, .int .i64 0, .int .i64 0] 23 (0, 0)) := by rw [hu1, heap_setCell_of HY.out]; rfl
  have e2 : u2.heap[yx]? = some (.cells #[.int .i64 (1 + z1), .int .i64 (1 + z2), .int .i64 0, .int .i64 0] 23 (0, 0)) := by rw [hu2, heap_setCell_of e1]; rfl
  have e3 : u3.heap[yx]? = some (.cells #[.int .i64 (1 + z1), .int .i64 (1 + z2), .int .i64 z3, .int .i64 0] 23 (0, 0)) := by rw [hu3, heap_setCell_of e2]; rfl
  have e4 : u4.heap[yx]? = some (.cells #[.int .i64 (1 + z1), .int .i64 (1 + z2), .int .i64 z3, .int .i64 z4] 23 (0, 0)) := by rw [hu4, heap_setCell_of e3]; rfl
  have hh : w7.heap[yx]? = some (.cells #[.int .i64 (1 + z1), .int .i64 (1 + z2), .int .i64 z3, .int .i64 z4] 23 (0, 0)) := by rw [hw7]; exact e4
  have k1 : Kept (fun k => k = yx) w0 u1 := by rw [hu1]; exact Kept.setCell _ _ _ rfl
  have k2 : Kept (fun k => k = yx) u1 u2 := by rw [hu2]; exact Kept.setCell _ _ _ rfl
  have k3 : Kept (fun k => k = yx) u2 u3 := by rw [hu3]; exact Kept.setCell _ _ _ rfl
  have k4 : Kept (fun k => k = yx) u3 u4 := by rw [hu4]; exact Kept.setCell _ _ _ rfl
  have hk : Kept (fun k => k = yx) w0 w7 := by rw [hw7]; exact (((k1.trans k2).trans k3).trans k4).drew
  have HBE : Hid (Below w.heap.size w w7) := hk.below_of HBW.out (fun k e => by subst e; exact hysz) HBW.out.size
  have HH := hid_of hh
  rw [← hu1, ← hu2, ← hu3, ← hu4, ← hw7]
  clear hw7 hh hk hu1 hu2 hu3 hu4 e1 e2 e3 e4 k1 k2 k3 k4
  go_wp2_with fail
  try simp only [Exit.inBlock, Exit.then]
  refine bodyPost_ret (results_cell_row (p := 2) (ty := 23) rfl _ w7 yx 23 #[.int .i64 (1 + z1), .int .i64 (1 + z2), .int .i64 z3, .int .i64 z4] (0, 0) _ rfl HH.out Try.underlying23 rfl Try.infoSu) rfl ?_
  exact ⟨rfl, HBE.out⟩

end Go.Proofs.Ytdcnbakmmkbodaa

/- Noughts behind a row of bytes of the call's own. -/
namespace Go.Proofs.Ytdcnbakmmkbodaa
set_option linter.unusedVariables false
set_option linter.unusedSimpArgs false
open Go.RowKit Dg

theorem run_zeros (w : World) (base g n cap m : Nat) (l : List Nat) (h : w.ownsRow base 5 1 (.slice (some ⟨g, 0, none⟩) n cap) n (u8s l)) (hm : n + m ≤ 1000000) (hbase : base ≤ w.heap.size) :
    ∃ g' cap' w', (Builtin.append_ #[26, 3] 26 #[.slice (some ⟨g, 0, none⟩) n cap, .int .i64 m]).run Try.prog w = .ok (.slice (some ⟨g', 0, none⟩) (n + m) cap') w' ∧
      w'.ownsRow base 5 1 (.slice (some ⟨g', 0, none⟩) (n + m) cap') (n + m) (u8s (l ++ List.replicate m 0)) ∧ w.grownBy w' (some g) := by
  obtain ⟨i0, hi, hz0, hz1, hz2⟩ := info_parts Try.info5
  have hln : l.length = n := by have := h.1; simpa using this
  have hw : IntKind.i64.wrap (m : Int) = m := by rw [IntKind.wrap_i64]; omega
  have hneg : ¬ ((m : Int) < 0) := by omega
  have h48i : ¬ (281474976710656 < (m : Int)) := by omega
  rcases h.2 with ⟨e1, _⟩ | ⟨g', cap', cur, hv, hgb, hh, hncap, hcm, hcs, htake⟩
  · cases e1
  · cases hv
    by_cases hroom : n + m ≤ cap
    · have hap : (if m = 0 then (pure #[] : Sem (Array Value)) else pure (Builtin.zeroCells (Value.int .u8 0).cells m)) = pure (u8s (List.replicate m 0)).toArray := by
        by_cases h0 : m = 0
        · subst h0; simp [u8s]
        · rw [if_neg h0, ← zeros_u8]
      have hst := run_storeCells_at Try.prog g n 5 (u8s (List.replicate m 0)) 0 cur w hh (by simp; omega) (fun u hu => by simp [u8s] at hu; obtain ⟨_, rfl⟩ := hu; rfl)
      simp only [Nat.add_zero] at hst
      refine ⟨g, cap, w.setRow g (cur.toList.take n ++ u8s (List.replicate m 0) ++ cur.toList.drop (n + (u8s (List.replicate m 0)).length)).toArray, ?_, ⟨by simp [hln], .inr ⟨g, cap, _, rfl, hgb, setRow_heap w g cur _ 5 _ hh, hroom, hcm, ?_, ?_⟩⟩, ⟨rfl, rfl, rfl, by simp, fun k _ hk => setRow_other w g k _ (fun e => hk (by simp [e]))⟩⟩
      · simp [Builtin.append_, run_underlying Try.underlying26, run_underlying Try.underlying3, sizeOf, typeInfo, zeroValue, hi, hz0, hz1, hz2, asInt, asIntOf, hw, hneg, h48i, hroom, Addr.add_lit, hap]
        have hst' : ∀ vs, vs = u8s (List.replicate m 0) → Sem.run Try.prog (storeCells ⟨g, n, none⟩ vs) w = .ok () (w.setRow g (cur.toList.take n ++ (u8s (List.replicate m 0) ++ cur.toList.drop (n + m))).toArray) := by
          intro vs hvs
          rw [hvs, hst]
          simp
        by_cases h0 : m = 0
        · rw [if_pos h0, hst' [] (by rw [h0]; rfl)]; rfl
        · rw [if_neg h0, hst' _ (zeros_u8 m)]; rfl
      · simp; omega
      · rw [u8s_append]
        have h1 : cur.toList.take n = u8s l := by simpa using htake
        rw [h1]
        simp [hln]
        rw [← List.append_assoc, List.take_append_of_le_length (by simp [hln]), List.take_of_length_le (by simp [hln])]
    · have hm0 : m ≠ 0 := by omega
      have h63' : ¬ (9223372036854775807 < (n : Int) + (m : Int)) := by omega
      have h48' : ¬ (281474976710656 < Builtin.nextslicecap (n + m) cap) := by
        have := growslice_fits (need := n + m) (old := cap) (bytes := 1) (by omega) (by omega)
        omega
      have holds : ∀ j u, (u8s l)[j]? = some u → w.cell? ((⟨g, 0, none⟩ : Addr).add j) = some u := h.cells (g := g) rfl
      have hf := run_firstCells_some (P := Try.prog) w.drew 1 n ⟨g, 0, none⟩ n cap (u8s l) (by simp [hln]) holds
      have hge := grownCap_ge w (n + m) cap 5
      have hcm' : grownCap w (n + m) cap 5 ≤ maxLen := grownCap_le_maxLen w (n + m) cap 5 (by unfold maxLen; omega)
      refine ⟨w.heap.size, grownCap w (n + m) cap 5, w.drew.alloc (.cells ((u8s l).toArray ++ Builtin.zeroCells (Value.int .u8 0).cells m ++ Builtin.zeroCells (Value.int .u8 0).cells (grownCap w (n + m) cap 5 - (n + m))) 5), ?_, ⟨by simp [hln], .inr ⟨w.heap.size, _, _, rfl, hbase, heap_alloc_new w.drew _, hge, hcm', ?_, ?_⟩⟩, ⟨rfl, rfl, rfl, by simp, fun k hk _ => Below.heap_alloc w.drew _ k hk⟩⟩
      · simp [Builtin.append_, run_underlying Try.underlying26, run_underlying Try.underlying3, sizeOf, typeInfo, zeroValue, hi, hz0, hz1, hz2, asInt, asIntOf, hw, hneg, h48i, hroom, hm0, h63', h48', Question.forced, hf, newRow, grownCap]
      · simp [size_zeroCells, Value.cells, hln]; omega
      · rw [u8s_append, ← zeros_u8]
        simp only [Array.toList_append, List.append_assoc]
        rw [← List.append_assoc, List.take_append_of_le_length (by simp [size_zeroCells, Value.cells, hln])]
        exact List.take_of_length_le (by simp [size_zeroCells, Value.cells, hln])

end Go.Proofs.Ytdcnbakmmkbodaa

/- A row of noughts is no superblock, and choosing between two of them finds none (for the example of layer 14). -/
namespace Go.Proofs.Ytdcnbakmmkbodaa
set_option linter.unusedVariables false
set_option linter.unusedSimpArgs false
open Go.RowKit Dg Cr

theorem madeU (n : Nat) : (madeCells (Value.int .u8 0).cells (n * 1)).toList = u8s (List.replicate n 0) := by
  apply List.ext_getElem?
  intro k
  by_cases hk : k < n
  · simp [madeCells, u8s, hk, Value.cells, Nat.mod_one]
  · rw [List.getElem?_eq_none (by simp [madeCells]; omega), List.getElem?_eq_none (by simp [u8s]; omega)]
theorem zero_not : ¬ isSu (List.replicate 128 0) := fun h => by
  have e := congrArg (fun l => l[0]?) h.2.1
  have e1 : (packSu (readSu (List.replicate 128 0)) (num4 (List.replicate 128 0) 24))[0]? = some 111 := by
    unfold packSu sealL fillF headSu magicL
    rfl
  have e2 : (List.replicate 128 0)[0]? = some 0 := rfl
  simp only [e1, e2] at e
  cases e
theorem zero_choose : chooseSu (List.replicate 128 0) (List.replicate 128 0) = (⟨0, 0, 0, 0⟩, 0, 0, false) := by
  unfold chooseSu
  rw [if_neg (fun h => zero_not h.1), if_neg zero_not]

end Go.Proofs.Ytdcnbakmmkbodaa

/- Walks over moved, Slow and the document's own sum. -/
namespace Go.Proofs.Ytdcnbakmmkbodaa
set_option linter.unusedVariables false
set_option maxRecDepth 100000
set_option linter.unusedSimpArgs false
open Go.RowKit Dg Cr

/-- A sum as a value. -/
abbrev u32v (v : BitVec 32) : Value := .int .u32 ((v.toNat : Nat) : Int)

theorem u32_val (v : BitVec 32) : v.toNat < 4294967296 := v.isLt
theorem up_num (v : BitVec 32) (x : Nat) (hx : x = v.toNat) : bits BinOp.xor IntKind.u32 ((x : Int) * 2 % 4294967296) ((x : Int) / 2147483648 * 79764919) = (((up v).toNat : Nat) : Int) := by
  have hlt := v.isLt
  rw [← hx] at hlt
  have e1 : (x : Int) * 2 % 4294967296 = ((x * 2 % 4294967296 : Nat) : Int) := by omega
  have e2 : (x : Int) / 2147483648 * 79764919 = ((x / 2147483648 * 79764919 : Nat) : Int) := by omega
  rw [e1, e2, u32_xor_nat _ _ (by omega) (by omega)]
  congr 1
  unfold up
  rw [BitVec.toNat_xor, BitVec.toNat_shiftLeft, BitVec.msb_eq_decide, ← hx, Nat.shiftLeft_eq]
  by_cases h : 2147483648 ≤ x
  · have e3 : x / 2147483648 = 1 := by omega
    simp [h, e3]
  · have e3 : x / 2147483648 = 0 := by omega
    simp [h, e3]
theorem up_num1 (v : BitVec 32) (x : Nat) (hx : x = v.toNat) (h : 2147483648 ≤ x) : bits BinOp.xor IntKind.u32 ((x : Int) * 2 % 4294967296) 79764919 = (((up v).toNat : Nat) : Int) := by
  have h1 := up_num v x hx
  have hlt := v.isLt
  have e : (x : Int) / 2147483648 = 1 := by omega
  rw [e] at h1
  exact h1
theorem up_num0 (v : BitVec 32) (x : Nat) (hx : x = v.toNat) (h : x < 2147483648) : (x : Int) * 2 % 4294967296 = (((up v).toNat : Nat) : Int) := by
  have h1 := up_num v x hx
  have e : (x : Int) / 2147483648 = 0 := by omega
  have e1 : (x : Int) * 2 % 4294967296 = ((x * 2 % 4294967296 : Nat) : Int) := by omega
  rw [e, e1, Int.zero_mul, show (0 : Int) = ((0 : Nat) : Int) from rfl, u32_xor_nat _ _ (by omega) (by omega), Nat.xor_zero] at h1
  rw [e1]; exact h1
theorem up_num0' (v : BitVec 32) (x : Nat) (hx : x = v.toNat) (h : x < 2147483648) : (x : Int) * 2 = (((up v).toNat : Nat) : Int) := by
  rw [← up_num0 v x hx h]; omega
theorem upN_next (j : Nat) (v : BitVec 32) : upN (j + 1) v = up (upN j v) := by rw [← upN_add j 1]; rfl
theorem add_num (v : BitVec 32) (x c : Nat) (hx : x = v.toNat) (hc : c < 256) : bits BinOp.xor IntKind.u32 (x : Int) ((c : Int) * 16777216) = (((v ^^^ (BitVec.ofNat 32 c <<< 24)).toNat : Nat) : Int) := by
  have hlt := v.isLt
  rw [← hx] at hlt
  have e1 : (c : Int) * 16777216 = ((c * 16777216 : Nat) : Int) := by omega
  rw [e1, u32_xor_nat _ _ (by omega) (by omega)]
  congr 1
  rw [BitVec.toNat_xor, ← hx, BitVec.toNat_shiftLeft, BitVec.toNat_ofNat, Nat.shiftLeft_eq]
  congr 1
  omega

set_option maxHeartbeats 400000 in
theorem moved_any (v : BitVec 32) (w : World) :
    Calls Try.prog 32 #[u32v v] w fun e w' => e = .returned (u32v (upN 8 v)) ∧ w = w' := by
  go_enter Try.func32, Try.ntmps32
  go_wp2
  go_loopw [0, 4] (fun s i wr => ∃ j x : Nat, j ≤ 8 ∧ i = .int .i64 j ∧ s = .int .u32 (x : Int) ∧ Hid (x = (upN j v).toNat) ∧ w = wr) (fun _ i _ => 8 - (intOf i).toNat)
  case atStart => exact ⟨0, v.toNat, by omega, rfl, rfl, rfl, rfl⟩
  case round =>
    obtain ⟨j, x, hj, rfl, rfl, hx, rfl⟩ := hrel
    have hx32 : x < 4294967296 := by rw [hx.out]; exact (upN j v).isLt
    by_cases hj8 : j < 8
    · go_wp2
      rw [up_num (upN j v) x hx.out]
      go_roundw
      case rel => exact ⟨j + 1, _, by omega, by go_num, rfl, by rw [upN_next]; rfl, by trivial⟩
      case measure => simp [intOf]; omega
    · have e : j = 8 := by omega
      go_wp2
      go_ret
      rw [hx.out, e]
      exact ⟨rfl, rfl⟩

set_option maxHeartbeats 1000000 in
theorem slow_any (w : World) (b : Value) (l : List Nat) (h : SlAt w b l) (hl : l.length ≤ 1000000) (h256 : ∀ x ∈ l, x < 256) :
    Calls Try.prog 24 #[b] w fun e w' => e = .returned (u32v (crc ones l)) ∧ w = w' := by
  obtain ⟨a1, c1, rfl, hc1⟩ := h
  have H1 : Hid (∀ j x, l[j]? = some x → ∃ b off, a1 = some ⟨b, off, none⟩ ∧ w.cell? ⟨b, off + j, none⟩ = some (.int .u8 ((x : Nat) : Int))) := hc1
  have H2 : Hid (∀ x ∈ l, x < 256) := h256
  clear hc1 h256
  go_enter Try.func24, Try.ntmps24
  go_wp2
  go_loopw [3, 8] (fun s i wr => ∃ j x : Nat, j ≤ l.length ∧ i = .int .i64 j ∧ s = .int .u32 (x : Int) ∧ Hid (x = (crc ones (l.take j)).toNat) ∧ w = wr) (fun _ i _ => l.length - (intOf i).toNat)
  case atStart => exact ⟨0, 4294967295, by omega, rfl, rfl, by show _ = _; rw [List.take_zero]; rfl, rfl⟩
  case round =>
    obtain ⟨j, x, hj, rfl, rfl, hx, rfl⟩ := hrel
    have hx32 : x < 4294967296 := by rw [hx.out]; exact BitVec.isLt _
    by_cases hjl : j < l.length
    · obtain ⟨b1, o1, rfl, e1⟩ := H1.out j l[j] (by simp [hjl])
      obtain ⟨c, hc⟩ : ∃ c : Nat, c = l[j] := ⟨_, rfl⟩
      have hc256 : c < 256 := by rw [hc]; exact H2.out _ (by simp)
      have HT : Hid (l[j]? = some c) := by show _ = _; rw [hc]; simp [hjl]
      rw [← hc] at e1
      clear hc
      go_wp2_with (go_at_call 32; rw [add_num (crc ones (l.take j)) x c hx.out hc256]; refine (moved_any _ _).mono ?_; rintro e w1 ⟨rfl, rfl⟩)
      go_roundw
      case rel => exact ⟨j + 1, _, by omega, by go_num, rfl, by rw [crc_take _ _ _ _ HT.out]; rfl, by trivial⟩
      case measure => simp [intOf]; omega
    · have e : j = l.length := by omega
      go_wp2
      go_ret
      rw [hx.out, e, List.take_length]
      exact ⟨rfl, rfl⟩

set_option maxHeartbeats 1000000 in
theorem radd_any (w : World) (v : BitVec 32) (b : Value) (l : List Nat) (h : SlAt w b l) (hl : l.length ≤ 1000000) (h256 : ∀ x ∈ l, x < 256) :
    Calls Try.prog 36 #[u32v v, b] w fun e w' => e = .returned (u32v (crc v l)) ∧ w = w' := by
  obtain ⟨a1, c1, rfl, hc1⟩ := h
  have H1 : Hid (∀ j x, l[j]? = some x → ∃ b off, a1 = some ⟨b, off, none⟩ ∧ w.cell? ⟨b, off + j, none⟩ = some (.int .u8 ((x : Nat) : Int))) := hc1
  have H2 : Hid (∀ x ∈ l, x < 256) := h256
  clear hc1 h256
  go_enter Try.func36, Try.ntmps36
  go_wp2
  go_loopw [0, 10] (fun s i wr => ∃ j x : Nat, j ≤ l.length ∧ i = .int .i64 j ∧ s = .int .u32 (x : Int) ∧ Hid (x = (crc v (l.take j)).toNat) ∧ w = wr) (fun _ i _ => l.length - (intOf i).toNat)
  case atStart => exact ⟨0, v.toNat, by omega, rfl, rfl, rfl, rfl⟩
  case round =>
    obtain ⟨j, x, hj, rfl, rfl, hx, rfl⟩ := hrel
    have hx32 : x < 4294967296 := by rw [hx.out]; exact BitVec.isLt _
    by_cases hjl : j < l.length
    · obtain ⟨b1, o1, rfl, e1⟩ := H1.out j l[j] (by simp [hjl])
      obtain ⟨c, hc⟩ : ∃ c : Nat, c = l[j] := ⟨_, rfl⟩
      have hc256 : c < 256 := by rw [hc]; exact H2.out _ (by simp)
      have HT : Hid (l[j]? = some c) := by show _ = _; rw [hc]; simp [hjl]
      rw [← hc] at e1
      clear hc
      have hjlb : decide (j < l.length) = true := by simp [hjl]
      obtain ⟨y, hy⟩ : ∃ y : BitVec 32, y = crc v (l.take j) ^^^ (BitVec.ofNat 32 c <<< 24) := ⟨_, rfl⟩
      have HY : Hid (y = crc v (l.take j) ^^^ (BitVec.ofNat 32 c <<< 24)) := hy
      have HA := add_num (crc v (l.take j)) x c hx.out hc256
      rw [← hy] at HA
      have HA' : Hid (bits BinOp.xor IntKind.u32 (x : Int) ((c : Int) * 16777216) = ((y.toNat : Nat) : Int)) := HA
      clear hy HA
      go_wp2
      rw [HA'.out]
      go_loopw [0, 6] (fun s i wr => ∃ k z : Nat, k ≤ 8 ∧ i = .int .i64 k ∧ s = .int .u32 (z : Int) ∧ Hid (z = (upN k y).toNat) ∧ w = wr) (fun _ i _ => 8 - (intOf i).toNat)
      case atStart => exact ⟨0, y.toNat, by omega, rfl, rfl, rfl, rfl⟩
      case round =>
        obtain ⟨k, z, hk, rfl, rfl, hz, rfl⟩ := hrel
        have hz32 : z < 4294967296 := by rw [hz.out]; exact BitVec.isLt _
        by_cases hk8 : k < 8
        · have hkb : decide (k < 8) = true := by simp [hk8]
          by_cases hz1 : 2147483648 ≤ z
          · have hz2 : (z : Int) / 2147483648 = 1 := by omega
            go_wp2
            rw [up_num1 (upN k y) z hz.out hz1]
            go_roundw
            case rel => exact ⟨k + 1, _, by omega, by go_num, rfl, by rw [upN_next]; rfl, by trivial⟩
            case measure => simp [intOf]; omega
          · have hz2 : (z : Int) / 2147483648 = 0 := by omega
            go_wp2
            rw [up_num0' (upN k y) z hz.out (by omega)]
            go_roundw
            case rel => exact ⟨k + 1, _, by omega, by go_num, rfl, by rw [upN_next]; rfl, by trivial⟩
            case measure => simp [intOf]; omega
        · have e : k = 8 := by omega
          go_wp2
          go_roundw
          case rel => exact ⟨j + 1, _, by omega, by go_num, rfl, by show _ = _; rw [crc_take _ _ _ _ HT.out, hz.out, e, HY.out]; rfl, by trivial⟩
          case measure => simp [intOf]; omega
    · have e : j = l.length := by omega
      go_wp2
      go_ret
      rw [hx.out, e, List.take_length]
      exact ⟨rfl, rfl⟩

theorem rsum_any (w : World) (b : Value) (l : List Nat) (h : SlAt w b l) (hl : l.length ≤ 1000000) (h256 : ∀ x ∈ l, x < 256) :
    Calls Try.prog 33 #[b] w fun e w' => e = .returned (u32v (crc ones l)) ∧ w = w' := by
  have HS : Hid (SlAt w b l) := h
  have H2 : Hid (∀ x ∈ l, x < 256) := h256
  have e1 : Value.int .u32 4294967295 = u32v ones := rfl
  have HE : Hid (Value.int .u32 4294967295 = u32v ones) := e1
  clear h h256 e1
  go_enter Try.func33, Try.ntmps33
  go_wp2_with (go_at_call 36; rw [HE.out]; refine (radd_any w ones b l HS.out hl H2.out).mono ?_; rintro e w1 ⟨rfl, rfl⟩)
  go_ret
  exact ⟨rfl, rfl⟩

end Go.Proofs.Ytdcnbakmmkbodaa
