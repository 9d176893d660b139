/- Numbers as bytes, the lowest first: the mathematics; Put and Get, of the program and of the document. -/
import Derived.Test.YtdfgceplgcblkaaOwn
import Derived.Test.YtdfgceplgcblkaaInts
namespace Go.Proofs.Ytdfgceplgcblkaa
set_option linter.unusedVariables false
set_option linter.unusedSimpArgs false
open Go.RowKit Dg

/-- The k lowest bytes of a number. -/
def byteN (N k : Nat) : List Nat := (List.range k).map fun i => N / 2 ^ (8 * i) % 256
/-- The number that bytes are. -/
def getN : List Nat → Nat
  | [] => 0
  | x :: l => x + 256 * getN l
@[simp] theorem length_byteN (N k : Nat) : (byteN N k).length = k := by simp [byteN]
theorem byteN_succ (N k : Nat) : byteN N (k + 1) = byteN N k ++ [N / 2 ^ (8 * k) % 256] := by simp [byteN, List.range_succ]
theorem byteN_lt (N k : Nat) : ∀ x ∈ byteN N k, x < 256 := by
  intro x hx
  simp [byteN] at hx
  obtain ⟨i, _, rfl⟩ := hx
  exact Nat.mod_lt _ (by decide)
theorem byteN_get (N k i : Nat) (h : i < k) : (byteN N k)[i]? = some (N / 2 ^ (8 * i) % 256) := by simp [byteN, h]
theorem byteN_take (N k j : Nat) (h : j ≤ k) : (byteN N k).take j = byteN N j := by
  simp [byteN, ← List.map_take, List.take_range, Nat.min_eq_left h]
theorem pow8 (k : Nat) : 2 ^ (8 * (k + 1)) = 256 * 2 ^ (8 * k) := by rw [Nat.mul_add, Nat.pow_add]; omega
theorem getN_lt (l : List Nat) (h : ∀ x ∈ l, x < 256) : getN l < 2 ^ (8 * l.length) := by
  induction l with
  | nil => simp [getN]
  | cons x l ih =>
    have h1 := h x (by simp)
    have h2 := ih (fun y hy => h y (by simp [hy]))
    simp only [getN, List.length_cons, pow8]
    omega
theorem getN_snoc (l : List Nat) (x : Nat) : getN (l ++ [x]) = getN l + 2 ^ (8 * l.length) * x := by
  induction l with
  | nil => simp [getN]
  | cons y l ih =>
    simp only [List.cons_append, getN, ih, List.length_cons, pow8]
    rw [Nat.mul_add, Nat.mul_assoc]; omega
theorem getN_byteN (N k : Nat) : getN (byteN N k) = N % 2 ^ (8 * k) := by
  induction k with
  | zero => simp [byteN, getN, Nat.mod_one]
  | succ k ih => rw [byteN_succ, getN_snoc, ih, length_byteN, pow8, Nat.mul_comm 256, Nat.mod_mul]
theorem getN_take (l : List Nat) (j x : Nat) (h : l[j]? = some x) : getN (l.take (j + 1)) = getN (l.take j) + 2 ^ (8 * j) * x := by
  have hj : j < l.length := (List.getElem?_eq_some_iff.1 h).1
  rw [List.take_add_one, h]
  show getN (l.take j ++ [x]) = _
  rw [getN_snoc]
  simp [Nat.min_eq_left (Nat.le_of_lt hj)]

theorem div_cast (N j : Nat) : ((N / 2 ^ (8 * j) % 256 : Nat) : Int) = (N : Int) / 2 ^ (8 * j) % 256 := by rw [Int.natCast_emod, Int.natCast_ediv, pow_cast]; rfl
theorem div_step (N j : Nat) : N / 2 ^ (8 * (j + 1)) = N / 2 ^ (8 * j) / 256 := by rw [pow8, Nat.mul_comm 256, Nat.div_div_eq_div_mul]
theorem put_zero (N k j : Nat) (h : j < k) : (byteN N j ++ List.replicate (k - j) 0)[j]? = some 0 := by
  rw [List.getElem?_append_right (by simp), length_byteN, Nat.sub_self, List.getElem?_replicate, if_pos (by omega)]
theorem put_step (N k j y : Nat) (h : j < k) (hy : y = N / 2 ^ (8 * j) % 256) : (byteN N j ++ List.replicate (k - j) 0).set j y = byteN N (j + 1) ++ List.replicate (k - (j + 1)) 0 := by
  have e : k - j = (k - (j + 1)) + 1 := by omega
  rw [byteN_succ, ← hy, e, List.replicate_succ, List.set_append_right _ _ (by simp)]
  simp

/-- What a row of bytes is once one more byte is laid. -/
theorem put_own {w : World} {g k j N : Nat} {X : Int} (h : w.ownsRow g 5 1 (.slice (some ⟨g, 0, none⟩) k k) k (u8s (byteN N j ++ List.replicate (k - j) 0))) (hj : j < k) (hX : X = ((N / 2 ^ (8 * j) % 256 : Nat) : Int)) :
    (w.setCell ⟨g, j, none⟩ (.int .u8 X)).ownsRow g 5 1 (.slice (some ⟨g, 0, none⟩) k k) k (u8s (byteN N (j + 1) ++ List.replicate (k - (j + 1)) 0)) := by
  rw [← put_step N k j _ hj rfl, hX]
  exact own_set h j _ hj

set_option maxHeartbeats 1000000 in
theorem fput_any (w : World) (n width : Int) (hn : I64 n) (hw : I64 width) (N k : Nat) (hN : N = n.toNat) (hk : k = min width.toNat 8) :
    Calls Try.prog 10 #[.int .i64 n, .int .i64 width] w fun e w' => e = .returned (.slice (some ⟨w.heap.size, 0, none⟩) k k) ∧ w'.ownsRow w.heap.size 5 1 (.slice (some ⟨w.heap.size, 0, none⟩) k k) k (u8s (byteN N k)) ∧ Below w.heap.size w w' := by
  obtain ⟨i0, hi, hz0, hz1, hz2⟩ := info_parts Try.info5
  obtain ⟨hn1, hn2⟩ := hn
  obtain ⟨hw1, hw2⟩ := hw
  have hc : (n < 0 ∧ Hid ((0 : Int) = (N : Int))) ∨ (0 ≤ n ∧ Hid (n = (N : Int))) := by
    by_cases h : n < 0
    · exact .inl ⟨h, by show _ = _; omega⟩
    · exact .inr ⟨by omega, by show _ = _; omega⟩
  have hd : (width < 0 ∧ (0 : Int) = (k : Int)) ∨ (0 ≤ width ∧ width ≤ 8 ∧ width = (k : Int)) ∨ (8 < width ∧ (8 : Int) = (k : Int)) := by omega
  have hk8 : k ≤ 8 := by omega
  have hN63 : N < 9223372036854775808 := by omega
  have HM : ∀ L : Int, L = (k : Int) → Hid (L = (k : Int)) := fun _ h => h
  obtain ⟨x, hx⟩ : ∃ x : Int, x = (k : Int) := ⟨_, rfl⟩
  clear hN hk
  rcases hc with ⟨hc, HN⟩ | ⟨hc, HN⟩
  all_goals rcases hd with ⟨hd, hL⟩ | ⟨hd, hd', hL⟩ | ⟨hd, hL⟩
  all_goals (have HL := HM _ hL; clear hL HM hx)
  all_goals go_enter Try.func10, Try.ntmps10
  all_goals go_wp2_with (at_make; refine wpList_make_full _ rfl _ _ 23 rfl w.heap.size 5 i0 (.int .u8 0) 1 Try.underlying23 hi hz0 hz1 _ _ _ _ k rfl rfl HL.out HL.out (by rw [hz2]; omega) (by unfold maxLen; omega) (Nat.le_refl _) ?_)
  all_goals
    intro w1 hown hgr
    have HB : Hid (Below w.heap.size w w1) := (Below.refl _ _).grown hgr (Nat.le_refl _) (fun k hk => by cases hk)
    have HO : Hid (w1.ownsRow w.heap.size 5 1 (.slice (some ⟨w.heap.size, 0, none⟩) k k) k (u8s (List.replicate k 0))) := by have e := made_zeros k; rw [Nat.mul_one] at e; rw [← e]; exact hown
    obtain ⟨g, hg⟩ : ∃ g, g = w.heap.size := ⟨_, rfl⟩
    rw [← hg] at HO ⊢
    have HG : Hid (g = w.heap.size) := hg
    clear hown hgr hg
    go_wp2_with fail
    go_loopw [15] (fun i wr => ∃ j : Nat, j ≤ k ∧ i = .int .i64 j ∧ Hid (wr.ownsRow g 5 1 (.slice (some ⟨g, 0, none⟩) k k) k (u8s (byteN N j ++ List.replicate (k - j) 0))) ∧ Hid (Below w.heap.size w wr)) (fun i _ => k - (intOf i).toNat)
  all_goals first
    | exact ⟨0, Nat.zero_le _, rfl, HO.out, HB.out⟩
    | (obtain ⟨j, hj, rfl, ho, hb⟩ := hrel
       by_cases hjk : j < k
       · obtain ⟨hcell, hfz⟩ := own_cell (x := 0) (j := j) ho.out (put_zero N k j hjk)
         have hj8 : 8 * j ≤ 62 := by omega
         go_wp2_with fail
         refine ⟨⟨j + 1, by omega, by go_num, put_own ho.out hjk ?_, hb.out.setCell (by show _ ≤ g; have := HG.out; omega) _⟩, by (simp [intOf]) <;> omega⟩
         first
           | (have e : N = 0 := by have := HN.out; omega
              subst e; simp)
           | (rw [HN.out]; exact (div_cast N j).symm)
       · have e : j = k := by omega
         subst e
         go_wp2_with fail
         go_ret
         refine ⟨by rw [HG.out]; rfl, ?_, hb.out⟩
         have := ho.out
         rw [Nat.sub_self, List.replicate_zero, List.append_nil, HG.out] at this
         exact this)

theorem or_high (v x j : Nat) (hv : v < 2 ^ (8 * j)) (hx : x < 256) (hj : j < 7) (X : Int) (hX : X = ((2 ^ (8 * j) * x : Nat) : Int)) : bits BinOp.or IntKind.i64 (v : Int) X = ((v + 2 ^ (8 * j) * x : Nat) : Int) := by
  have hp : 2 ^ (8 * j) ≤ 2 ^ 48 := Nat.pow_le_pow_right (by decide) (by omega)
  have hp2 : (2 : Nat) ^ 48 = 281474976710656 := by decide
  have hqm : 2 ^ (8 * j) * x ≤ 281474976710656 * 255 := Nat.mul_le_mul (by omega) (by omega)
  subst hX
  show IntKind.i64.wrap ((BitVec.ofInt 64 ((v : Nat) : Int) ||| BitVec.ofInt 64 ((2 ^ (8 * j) * x : Nat) : Int)).toNat : Int) = _
  rw [BitVec.toNat_or, ofInt_u64 v (by omega), ofInt_u64 (2 ^ (8 * j) * x) (by omega), Nat.or_comm, ← Nat.two_pow_add_eq_or_of_lt hv]
  have hw : ∀ n : Nat, n < 9223372036854775808 → IntKind.i64.wrap ((n : Nat) : Int) = (n : Int) := by
    intro n hn
    simp [IntKind.wrap, IntKind.bits, IntKind.signed]
    omega
  rw [hw _ (by omega), Nat.add_comm]

theorem wrap_high (x j : Nat) (hx : x < 256) (hj : j < 7) : wrap64 ((x : Int) * 2 ^ (8 * j)) = ((2 ^ (8 * j) * x : Nat) : Int) := by
  have hp : 2 ^ (8 * j) ≤ 2 ^ 48 := Nat.pow_le_pow_right (by decide) (by omega)
  have hp2 : (2 : Nat) ^ 48 = 281474976710656 := by decide
  have hqm : 2 ^ (8 * j) * x ≤ 281474976710656 * 255 := Nat.mul_le_mul (by omega) (by omega)
  have e : ((x : Int) * 2 ^ (8 * j)) = ((2 ^ (8 * j) * x : Nat) : Int) := by rw [Int.natCast_mul, pow_cast, Int.mul_comm]
  rw [e]
  generalize 2 ^ (8 * j) * x = V at hqm ⊢
  unfold wrap64
  omega

set_option maxHeartbeats 1000000 in
theorem fget_bad (w : World) (sv : Value) (l : List Nat) (h : SlAt w sv l) (hl : l.length ≤ 1000000) (h7 : 7 < l.length) :
    Calls Try.prog 12 #[sv] w fun e w' => e = .returned (.tuple #[.int .i64 0, .bool false]) ∧ w = w' := by
  obtain ⟨a1, c1, rfl, hc1⟩ := h
  clear hc1
  go_enter Try.func12, Try.ntmps12
  go_wp2
  go_ret2
  exact ⟨rfl, rfl⟩

set_option maxHeartbeats 1000000 in
theorem fget_ok (w : World) (sv : Value) (l : List Nat) (h : SlAt w sv l) (h7 : l.length ≤ 7) (h256 : ∀ x ∈ l, x < 256) (m : Nat) (hm : m = getN l) :
    Calls Try.prog 12 #[sv] w fun e w' => e = .returned (.tuple #[.int .i64 (m : Int), .bool true]) ∧ w = w' := by
  obtain ⟨a1, c1, rfl, hc1⟩ := h
  have HC : Hid (∀ j x, l[j]? = some x → ∃ b off, a1 = some ⟨b, off, none⟩ ∧ w.cell? ⟨b, off + j, none⟩ = some (.int .u8 ((x : Nat) : Int))) := hc1
  have HM : Hid (m = getN l) := hm
  have H256 : Hid (∀ x ∈ l, x < 256) := h256
  clear hc1 hm h256
  go_enter Try.func12, Try.ntmps12
  go_wp2
  go_loopw [4, 12] (fun t i wr => ∃ j v : Nat, j ≤ l.length ∧ i = .int .i64 j ∧ t = .int .i64 v ∧ Hid (v = getN (l.take j)) ∧ w = wr) (fun _ i _ => l.length - (intOf i).toNat)
  case atStart => exact ⟨0, 0, Nat.zero_le _, rfl, rfl, rfl, rfl⟩
  case round =>
    obtain ⟨j, v, hj, rfl, rfl, hv, rfl⟩ := hrel
    by_cases hjn : j < l.length
    · obtain ⟨x, hx⟩ : ∃ x, l[j]? = some x := ⟨l[j], by simp [hjn]⟩
      obtain ⟨b, off, rfl, hcell⟩ := HC.out j x hx
      have hx256 : x < 256 := H256.out x (List.mem_of_getElem? hx)
      have HX : Hid (l[j]? = some x) := hx
      have hj8 : 8 * j ≤ 48 := by omega
      clear hx
      go_wp2_with fail
      refine ⟨⟨j + 1, v + 2 ^ (8 * j) * x, by omega, by go_num, ?_, ?_, trivial⟩, by (simp [intOf]) <;> omega⟩
      · rw [or_high v x j ?_ hx256 (by omega) _ (wrap_high x j hx256 (by omega))]
        rw [hv.out]
        have := getN_lt (l.take j) (fun y hy => H256.out y (List.mem_of_mem_take hy))
        rw [List.length_take, Nat.min_eq_left (by omega)] at this
        exact this
      · show _ = _
        rw [getN_take l j x HX.out, hv.out]
    · go_wp2_with fail
      go_ret2
      have e : j = l.length := by omega
      have e2 := hv.out
      rw [e, List.take_length, ← HM.out] at e2
      exact ⟨by rw [← e2]; rfl, rfl⟩

set_option maxHeartbeats 1000000 in
theorem rgetN_bad (w : World) (sv : Value) (l : List Nat) (h : SlAt w sv l) (hl : l.length ≤ 1000000) (h7 : 7 < l.length) :
    Calls Try.prog 15 #[sv] w fun e w' => e = .returned (.tuple #[.int .i64 0, .bool false]) ∧ w = w' := by
  obtain ⟨a1, c1, rfl, hc1⟩ := h
  clear hc1
  go_enter Try.func15, Try.ntmps15
  go_wp2
  go_ret2
  exact ⟨rfl, rfl⟩

theorem getN_drop (l : List Nat) (j x : Nat) (h : l[j]? = some x) : getN (l.drop j) = 256 * getN (l.drop (j + 1)) + x := by
  have hj : j < l.length := (List.getElem?_eq_some_iff.1 h).1
  have e : l[j] = x := (List.getElem?_eq_some_iff.1 h).2
  rw [List.drop_eq_getElem_cons hj, e]
  simp only [getN]; omega

set_option maxHeartbeats 1000000 in
theorem rgetN_ok (w : World) (sv : Value) (l : List Nat) (h : SlAt w sv l) (h7 : l.length ≤ 7) (h256 : ∀ x ∈ l, x < 256) (m : Nat) (hm : m = getN l) :
    Calls Try.prog 15 #[sv] w fun e w' => e = .returned (.tuple #[.int .i64 (m : Int), .bool true]) ∧ w = w' := by
  obtain ⟨a1, c1, rfl, hc1⟩ := h
  have HC : Hid (∀ j x, l[j]? = some x → ∃ b off, a1 = some ⟨b, off, none⟩ ∧ w.cell? ⟨b, off + j, none⟩ = some (.int .u8 ((x : Nat) : Int))) := hc1
  have HM : Hid (m = getN l) := hm
  have H256 : Hid (∀ x ∈ l, x < 256) := h256
  have HB : Hid (∀ j, 0 < j → getN (l.drop j) < 281474976710656) := by
    intro j hj
    have h1 := getN_lt (l.drop j) (fun x hx => h256 x (List.mem_of_mem_drop hx))
    have h2 : 2 ^ (8 * (l.drop j).length) ≤ 2 ^ 48 := Nat.pow_le_pow_right (by decide) (by simp; omega)
    have h3 : (2 : Nat) ^ 48 = 281474976710656 := by decide
    omega
  clear hc1 hm h256
  go_enter Try.func15, Try.ntmps15
  go_wp2
  go_loopw [4, 5] (fun t i wr => ∃ j v : Nat, j ≤ l.length ∧ i = .int .i64 ((j : Int) - 1) ∧ t = .int .i64 v ∧ Hid (v = getN (l.drop j)) ∧ w = wr) (fun _ i _ => (intOf i + 1).toNat)
  case atStart => exact ⟨l.length, 0, Nat.le_refl _, by go_num, rfl, by show _ = _; simp [getN], rfl⟩
  case round =>
    obtain ⟨j, v, hj, rfl, rfl, hv, rfl⟩ := hrel
    by_cases hjn : 0 < j
    · obtain ⟨i, rfl⟩ : ∃ i, j = i + 1 := ⟨j - 1, by omega⟩
      have hil : i < l.length := by omega
      obtain ⟨x, hx⟩ : ∃ x, l[i]? = some x := ⟨l[i], by simp [hil]⟩
      obtain ⟨b, off, rfl, hcell⟩ := HC.out i x hx
      have hx256 : x < 256 := H256.out x (List.mem_of_getElem? hx)
      have HX : Hid (l[i]? = some x) := hx
      have hvb : v < 281474976710656 := by rw [hv.out]; exact HB.out _ hjn
      have ei : ((i + 1 : Nat) : Int) - 1 = (i : Int) := by omega
      rw [ei]
      clear hx ei
      go_wp2_with fail
      refine ⟨⟨i, 256 * v + x, by omega, rfl, ?_, ?_, trivial⟩, by (simp [intOf]) <;> omega⟩
      · rfl
      · show _ = _
        rw [getN_drop l i x HX.out, hv.out]
    · go_wp2_with fail
      go_ret2
      have e : j = 0 := by omega
      have e2 := hv.out
      rw [e, List.drop_zero, ← HM.out] at e2
      exact ⟨by rw [← e2]; rfl, rfl⟩

set_option maxHeartbeats 1000000 in
theorem rputN_any (w : World) (n width : Int) (hn : I64 n) (hw : I64 width) (N k : Nat) (hN : N = n.toNat) (hk : k = min width.toNat 8) :
    Calls Try.prog 16 #[.int .i64 n, .int .i64 width] w fun e w' => e = .returned (.slice (some ⟨w.heap.size, 0, none⟩) k k) ∧ w'.ownsRow w.heap.size 5 1 (.slice (some ⟨w.heap.size, 0, none⟩) k k) k (u8s (byteN N k)) ∧ Below w.heap.size w w' := by
  obtain ⟨i0, hi, hz0, hz1, hz2⟩ := info_parts Try.info5
  obtain ⟨hn1, hn2⟩ := hn
  obtain ⟨hw1, hw2⟩ := hw
  have hc : (n < 0 ∧ Hid ((0 : Int) = (N : Int))) ∨ (0 ≤ n ∧ Hid (n = (N : Int))) := by
    by_cases h : n < 0
    · exact .inl ⟨h, by show _ = _; omega⟩
    · exact .inr ⟨by omega, by show _ = _; omega⟩
  have hd : (width < 0 ∧ (0 : Int) = (k : Int)) ∨ (0 ≤ width ∧ width ≤ 8 ∧ width = (k : Int)) ∨ (8 < width ∧ (8 : Int) = (k : Int)) := by omega
  have hk8 : k ≤ 8 := by omega
  have hN63 : N < 9223372036854775808 := by omega
  have HM : ∀ L : Int, L = (k : Int) → Hid (L = (k : Int)) := fun _ h => h
  clear hN hk
  rcases hc with ⟨hc, HN⟩ | ⟨hc, HN⟩
  all_goals rcases hd with ⟨hd, hL⟩ | ⟨hd, hd', hL⟩ | ⟨hd, hL⟩
  all_goals (have HL := HM _ hL; clear hL HM)
  all_goals go_enter Try.func16, Try.ntmps16
  all_goals go_wp2_with (at_make; refine wpList_make_full _ rfl _ _ 23 rfl w.heap.size 5 i0 (.int .u8 0) 1 Try.underlying23 hi hz0 hz1 _ _ _ _ k rfl rfl HL.out HL.out (by rw [hz2]; omega) (by unfold maxLen; omega) (Nat.le_refl _) ?_)
  all_goals
    intro w1 hown hgr
    have HB : Hid (Below w.heap.size w w1) := (Below.refl _ _).grown hgr (Nat.le_refl _) (fun k hk => by cases hk)
    have HO : Hid (w1.ownsRow w.heap.size 5 1 (.slice (some ⟨w.heap.size, 0, none⟩) k k) k (u8s (List.replicate k 0))) := by have e := made_zeros k; rw [Nat.mul_one] at e; rw [← e]; exact hown
    obtain ⟨g, hg⟩ : ∃ g, g = w.heap.size := ⟨_, rfl⟩
    rw [← hg] at HO ⊢
    have HG : Hid (g = w.heap.size) := hg
    clear hown hgr hg
    go_wp2_with fail
    go_loopw [0, 16] (fun t i wr => ∃ (j : Nat) (T : Int), j ≤ k ∧ i = .int .i64 j ∧ t = .int .i64 T ∧ Hid (T = ((N / 2 ^ (8 * j) : Nat) : Int)) ∧ 0 ≤ T ∧ T ≤ 9223372036854775807 ∧ Hid (wr.ownsRow g 5 1 (.slice (some ⟨g, 0, none⟩) k k) k (u8s (byteN N j ++ List.replicate (k - j) 0))) ∧ Hid (Below w.heap.size w wr)) (fun _ i _ => k - (intOf i).toNat)
  all_goals first
    | exact ⟨0, _, Nat.zero_le _, rfl, rfl, by show _ = _; rw [HN.out]; simp, by omega, by omega, HO.out, HB.out⟩
    | exact ⟨0, _, Nat.zero_le _, rfl, rfl, by show _ = _; simp [← HN.out], by omega, by omega, HO.out, HB.out⟩
    | (obtain ⟨j, T, hj, rfl, rfl, hT, hT0, hT1, ho, hb⟩ := hrel
       by_cases hjk : j < k
       · obtain ⟨hcell, hfz⟩ := own_cell (x := 0) (j := j) ho.out (put_zero N k j hjk)
         go_wp2_with fail
         refine ⟨⟨j + 1, T / 256, by omega, by go_num, rfl, ?_, by omega, by omega, put_own ho.out hjk ?_, hb.out.setCell (by show _ ≤ g; have := HG.out; omega) _⟩, by (simp [intOf]) <;> omega⟩
         · show _ = _
           rw [div_step, hT.out]; rfl
         · rw [hT.out]; rfl
       · have e : j = k := by omega
         subst e
         go_wp2_with fail
         go_ret
         refine ⟨by rw [HG.out]; rfl, ?_, hb.out⟩
         have := ho.out
         rw [Nat.sub_self, List.replicate_zero, List.append_nil, HG.out] at this
         exact this)

end Go.Proofs.Ytdfgceplgcblkaa
