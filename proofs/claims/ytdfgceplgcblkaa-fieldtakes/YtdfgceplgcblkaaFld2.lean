/- The document's example of numbers as bytes; masks; Same at like numbers. -/
import Derived.Test.YtdfgceplgcblkaaFld1
namespace Go.Proofs.Ytdfgceplgcblkaa
set_option linter.unusedVariables false
set_option linter.unusedSimpArgs false
open Go.RowKit Dg

theorem two_at (w : World) (l : List Nat) (hl : l = [2, 1]) : SlAt (w.alloc (.cells #[.int .u8 2, .int .u8 1] 5)) (.slice (some ⟨w.heap.size, 0, none⟩) 2 2) l := by
  subst hl
  refine ⟨some ⟨w.heap.size, 0, none⟩, 2, rfl, fun j x hx => ⟨w.heap.size, 0, rfl, ?_⟩⟩
  match j, hx with
  | 0, hx => simp at hx; subst hx; simp
  | 1, hx => simp at hx; subst hx; simp

set_option maxHeartbeats 1000000 in
theorem wakes4_any (w : World) :
    Calls Try.prog 13 #[] w fun e w' => e = .returned (.bool true) ∧ Below w.heap.size w w' := by
  obtain ⟨l, hl⟩ : ∃ l, l = byteN 258 2 := ⟨_, rfl⟩
  have hl2 : l = [2, 1] := by rw [hl]; decide
  have HL : Hid (byteN 258 2 = l) := hl.symm
  have HL2 : Hid (l = [2, 1]) := hl2
  have hll : l.length ≤ 2 := by rw [hl2]; decide
  clear hl hl2
  go_enter Try.func13, Try.ntmps13
  go_wp2_with fail
  refine (fput_any w 258 2 (by unfold I64; decide) (by unfold I64; decide) 258 2 rfl rfl).mono ?_
  rw [HL.out]
  rintro e w1 ⟨rfl, ho1, hb1⟩
  have HS1 : Hid (SlAt w1 (.slice (some ⟨w.heap.size, 0, none⟩) 2 2) l) := SlAt.of_owns ho1
  have HB1 : Hid (Below w.heap.size w w1) := hb1
  have hs1 : w.heap.size ≤ w1.heap.size := hb1.size
  clear ho1 hb1
  go_wp2_with fail
  refine (same_any _ _ _ l (HS1.out.below ((Below.refl _ _).alloc (Nat.le_refl _) _)) (two_at w1 l HL2.out) (by omega)).mono ?_
  rintro e w2 ⟨rfl, n2, rfl⟩
  go_wp2
  go_ret
  exact ⟨rfl, below_drewN (HB1.out.alloc hs1 _) _⟩

theorem wrapN (n : Nat) (hn : n < 9223372036854775808) : IntKind.i64.wrap ((n : Nat) : Int) = (n : Int) := by
  simp [IntKind.wrap, IntKind.bits, IntKind.signed]
  omega
/-- The lowest digits. -/
theorem and_low (v m : Nat) (hv : v < 9223372036854775808) (hm : m ≤ 62) : bits BinOp.and IntKind.i64 (v : Int) ((2 ^ m - 1 : Nat) : Int) = ((v % 2 ^ m : Nat) : Int) := by
  have hp : 2 ^ m ≤ 2 ^ 62 := Nat.pow_le_pow_right (by decide) hm
  have hp2 : (2 : Nat) ^ 62 = 4611686018427387904 := by decide
  have hp0 : 0 < 2 ^ m := Nat.pow_pos (by decide)
  show IntKind.i64.wrap ((BitVec.ofInt 64 ((v : Nat) : Int) &&& BitVec.ofInt 64 ((2 ^ m - 1 : Nat) : Int)).toNat : Int) = _
  rw [BitVec.toNat_and, ofInt_u64 v (by omega), ofInt_u64 (2 ^ m - 1) (by omega), Nat.and_two_pow_sub_one_eq_mod]
  have hlt : v % 2 ^ m < 2 ^ m := Nat.mod_lt _ hp0
  exact wrapN _ (by omega)
theorem mask_eq (m : Nat) (hm : m ≤ 62) : wrap64 (wrap64 (2 ^ m) - 1) = ((2 ^ m - 1 : Nat) : Int) := by
  have hp : 2 ^ m ≤ 2 ^ 62 := Nat.pow_le_pow_right (by decide) hm
  have hp2 : (2 : Nat) ^ 62 = 4611686018427387904 := by decide
  have hp0 : 0 < 2 ^ m := Nat.pow_pos (by decide)
  rw [wrap64_pow m (by omega)]
  generalize 2 ^ m = P at hp hp0 ⊢
  unfold wrap64
  omega

end Go.Proofs.Ytdfgceplgcblkaa
