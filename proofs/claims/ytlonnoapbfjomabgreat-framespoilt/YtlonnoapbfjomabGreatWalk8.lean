/- The contracts once more, over numbers as a walk spells them. -/
import Derived.Test.YtlonnoapbfjomabGreatWalk7
namespace Go.Proofs.YtlonnoapbfjomabGreat
set_option linter.unusedVariables false
set_option linter.unusedSimpArgs false
open Go.RowKit Dg

theorem within_nat (v : Int) (n : Nat) (w : World) (hv1 : -9223372036854775808 ≤ v) (hv2 : v ≤ 9223372036854775807) (hn1 : 1 ≤ n) (hn2 : n ≤ 4611686018427387904) (I : Int) (hI : I = (n : Int)) :
    Calls Tryz.prog 5 #[.int .i64 v, .int .i64 I] w fun e w' => ∃ k : Nat, e = .returned (.int .i64 (k : Int)) ∧ k < n ∧ (k : Int) = v % n ∧ w = w' := by
  subst hI
  refine (within_any v n w hv1 hv2 (by omega) (by omega)).mono ?_
  rintro e w' ⟨rfl, rfl⟩
  refine ⟨(v % n).toNat, ?_, ?_, ?_, rfl⟩
  · have : 0 ≤ v % (n : Int) := Int.emod_nonneg _ (by omega)
    exact ret_int (by omega)
  · have : v % (n : Int) < n := Int.emod_lt_of_pos _ (by omega)
    omega
  · have : 0 ≤ v % (n : Int) := Int.emod_nonneg _ (by omega)
    omega

theorem put_at (w : World) (b : Nat) (rv : Value) (ds : List Bool) (v : Int) (n : Nat) (h : WrAt w b rv ds) (hlt : ds.length < 4398046511000) (hn : n ≤ 62) (I : Int) (hI : I = (n : Int)) :
    Calls Tryz.prog 50 #[.pointer (some ⟨b, 0, none⟩), .int .i64 v, .int .i64 I] w fun e w' => e = .returned (.bool true) ∧ Wrote w w' b rv (ds ++ dig v n) := by
  subst hI; exact put_any w b rv ds v n h hlt hn

/-- Get, what is taken under a name. -/
theorem get_at (w : World) (b : Nat) (rv : Value) (l : List Nat) (k n : Nat) (h : RdAt w b rv l k) (h62 : n ≤ 62) (hn : k + n ≤ 8 * l.length) (I : Int) (hI : I = (n : Int)) (x : Int) (hx : ((num (((unpack l).drop k).take n) : Nat) : Int) = x) :
    Calls Tryz.prog 58 #[.pointer (some ⟨b, 0, none⟩), .int .i64 I] w fun e w' => e = .returned (.tuple #[.int .i64 x, .bool true]) ∧ RdAt w' b rv l (k + n) ∧ Kept (fun i => i = b) w w' := by
  subst hI; subst hx; exact get_any w b rv l k n h h62 hn

theorem wrap64_pow (k : Nat) (hk : k ≤ 62) : wrap64 (2 ^ k) = ((2 ^ k : Nat) : Int) := by
  have h1 : 2 ^ k ≤ 2 ^ 62 := Nat.pow_le_pow_right (by decide) hk
  have h2 : (2 : Nat) ^ 62 = 4611686018427387904 := by decide
  rw [← pow_cast k]
  generalize 2 ^ k = P at h1 ⊢
  unfold wrap64
  omega

theorem Wf_nil {b k : Nat} (h : Wf b (.slice none 0 0) k) : k = b := by
  rcases h with h | h
  · exact h
  · simp [Value.ownBlock] at h

/-- What is read of digits that were written. -/
theorem taken (ds es fs : List Bool) (h : ds = es ++ fs) (k n : Nat) (hk : k = es.length) (hn : n ≤ fs.length) : ((unpack (pack ds)).drop k).take n = fs.take n := by
  rw [unpack_pack, h, hk, List.append_assoc, List.drop_left, List.take_append_of_le_length hn]

theorem and_mask (v m : Nat) (hv : v < 4611686018427387904) (hm : m ≤ 31) : bits BinOp.and IntKind.i64 (v : Int) (2 ^ m - 1) = ((v % 2 ^ m : Nat) : Int) := by
  have hp : 2 ^ m ≤ 2 ^ 31 := Nat.pow_le_pow_right (by decide) hm
  have hp2 : (2 : Nat) ^ 31 = 2147483648 := by decide
  have hp0 : 0 < 2 ^ m := Nat.pow_pos (by decide)
  have e : ((2 : Int) ^ m - 1) = ((2 ^ m - 1 : Nat) : Int) := by rw [← pow_cast]; omega
  rw [e]
  show IntKind.i64.wrap ((BitVec.ofInt 64 ((v : Nat) : Int) &&& BitVec.ofInt 64 ((2 ^ m - 1 : Nat) : Int)).toNat : Int) = _
  rw [BitVec.toNat_and, ofInt_u64 v (by omega), ofInt_u64 (2 ^ m - 1) (by omega), Nat.and_two_pow_sub_one_eq_mod]
  have hlt : v % 2 ^ m < 2 ^ m := Nat.mod_lt _ hp0
  have hw : ∀ n : Nat, n < 9223372036854775808 → IntKind.i64.wrap ((n : Nat) : Int) = (n : Int) := by
    intro n hn
    simp [IntKind.wrap, IntKind.bits, IntKind.signed]
    omega
  exact hw _ (by omega)

theorem and_mask' (v m : Nat) (hv : v < 4611686018427387904) (hm : m ≤ 31) : bits BinOp.and IntKind.i64 (v : Int) (wrap64 (wrap64 (2 ^ m) - 1)) = (v : Int) % 2 ^ m := by
  have hp : 2 ^ m ≤ 2 ^ 31 := Nat.pow_le_pow_right (by decide) hm
  have hp2 : (2 : Nat) ^ 31 = 2147483648 := by decide
  have e : wrap64 (wrap64 (2 ^ m) - 1) = (2 : Int) ^ m - 1 := by
    rw [wrap64_pow m (by omega), ← pow_cast]
    generalize 2 ^ m = P at hp ⊢
    unfold wrap64
    omega
  rw [e, and_mask v m hv hm]
  push_cast; rfl

theorem WrAt.below {w w' : World} {b : Nat} {rv : Value} {ds : List Bool} (h : WrAt w b rv ds) (hb : Below w.heap.size w w') : WrAt w' b rv ds :=
  h.other (F := fun _ => False) (Kept.of_below hb) (fun _ _ h => h)
theorem RdAt.below {w w' : World} {b : Nat} {rv : Value} {l : List Nat} {k : Nat} (h : RdAt w b rv l k) (hb : Below w.heap.size w w') : RdAt w' b rv l k :=
  h.kept (F := fun _ => False) (Kept.of_below hb) (fun h => h) (fun _ _ h => h)
theorem SlAt.below {w w' : World} {v : Value} {l : List Nat} (h : SlAt w v l) (hb : Below w.heap.size w w') : SlAt w' v l :=
  h.kept (F := fun _ => False) (Kept.of_below hb) (fun _ _ h => h)
theorem RdAt.foot {w : World} {b : Nat} {rv : Value} {l : List Nat} {k : Nat} (h : RdAt w b rv l k) : b < w.heap.size := h.lt

end Go.Proofs.YtlonnoapbfjomabGreat
