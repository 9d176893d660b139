/- RiceRises: the walk. -/
import Derived.Test.YtiimgkkagfbkmaaRice1
import Derived.Test.YtiimgkkagfbkmaaActs
namespace Go.Proofs.Ytiimgkkagfbkmaa
set_option linter.unusedVariables false
set_option linter.unusedSimpArgs false
open Go.RowKit Dg

theorem isNum_of {z : Int} (h1 : 0 ≤ z) (h2 : z < 4294967296) : isNum z = true := by simp [isNum]; omega

theorem sizeIn_bounds (z : Int) (k : Nat) (hz : 0 ≤ z) (hk : k ≤ 24) : 1 + (k : Int) ≤ sizeIn z k ∧ sizeIn z k ≤ 56 := by
  have := quot_le z k hz
  unfold sizeIn
  split <;> omega
theorem sizeIn_mono (x y : Int) (k : Nat) (hx : 0 ≤ x) (hxy : x ≤ y) (hk : k ≤ 24) : sizeIn x k ≤ sizeIn y k := by
  have h : x / 2 ^ k ≤ y / 2 ^ k := Int.ediv_le_ediv (Int.pow_pos (by decide)) hxy
  have := quot_le x k hx
  unfold sizeIn
  split <;> split <;> omega
theorem zig_pos {x : Int} (h1 : 0 ≤ x) (h2 : x < 1099511627776) : zigOf x = 2 * x := by
  unfold zigOf; rw [if_neg (by omega), if_neg (by omega)]
theorem zig_neg {x : Int} (h1 : 0 < x) (h2 : x < 1099511627776) : zigOf (-x) = 2 * x - 1 := by
  unfold zigOf; rw [if_neg (by omega), if_pos (by omega)]; omega
theorem zig_neg0 : zigOf (-0) = 0 := by decide

set_option maxRecDepth 100000 in
set_option maxHeartbeats 4000000 in
theorem rises_walk (W : World) (a b c : Int) (ha : I64 a) (hb : I64 b) (hc : I64 c) (k : Nat) (hk : k ≤ 24) (HK : Hid (c % 25 = k)) (a' b' x y sx sy nx ny : Int)
    (HA : Hid (a % 1073741824 = a')) (HB : Hid (b % 1073741824 = b')) (hx : 0 ≤ x) (hy : y < 1073741824) (hxy : x ≤ y) (hab : (b' < a' ∧ x = b' ∧ y = a') ∨ (a' ≤ b' ∧ x = a' ∧ y = b'))
    (HSX : Hid (sizeIn x k = sx)) (HSY : Hid (sizeIn y k = sy)) (HNX : Hid (zigOf (-x) = nx)) (HNY : Hid (zigOf (-y) = ny))
    (h1 : sx ≤ sy) (h2 : 1 + (k : Int) ≤ sx) (h3 : sy ≤ 56) (h4 : x = y ∨ (x < y ∧ nx < ny)) (h5 : (x = 0 ∧ nx = 0) ∨ (0 < x ∧ nx = 2 * x - 1)) :
    Calls Try.prog 3 #[.int .i64 a, .int .i64 b, .int .i64 c] W fun e W' => e = .returned (.bool true) ∧ Below W.heap.size W W' := by
  obtain ⟨ha1, ha2⟩ := ha
  obtain ⟨hb1, hb2⟩ := hb
  obtain ⟨hc1, hc2⟩ := hc
  rcases hab with ⟨hab, rfl, rfl⟩ | ⟨hab, rfl, rfl⟩ <;> rcases h4 with rfl | ⟨h4, h4'⟩ <;> rcases h5 with ⟨rfl, rfl⟩ | ⟨h5, h5'⟩ <;> first
    | (exfalso; omega)
    | (go_enter Try.func3, Try.ntmps3
       go_wp2_with first
         | (go_at_call 9; refine (within_any _ _ W (by omega) (by omega) (by decide) (by decide)).mono ?_; (first | rw [HA.out] | rw [HB.out] | rw [HK.out]); rintro e w2 ⟨rfl, rfl⟩)
         | (go_at_call 10; refine (size_in _ k W (isNum_of (by omega) (by omega)) hk).mono ?_; (first | rw [HSX.out] | rw [HSY.out]); rintro e w2 ⟨rfl, rfl⟩)
         | (go_at_call 11; refine (zig_any _ W).mono ?_; (first | rw [HNX.out] | rw [HNY.out] | rw [zig_pos (by omega) (by omega)]); rintro e w2 ⟨rfl, rfl⟩)
         | (go_at_call 12; refine (wakes_any W).mono ?_; rintro e w2 ⟨rfl, rfl⟩)
       go_ret
       exact ⟨rfl, Below.refl _ _⟩)

theorem rises_any (W : World) (a b c : Int) (ha : I64 a) (hb : I64 b) (hc : I64 c) :
    Calls Try.prog 3 #[.int .i64 a, .int .i64 b, .int .i64 c] W fun e W' => e = .returned (.bool true) ∧ Below W.heap.size W W' := by
  have e : ∀ x y : Int, 0 ≤ x → x ≤ y → y < 1073741824 → ((b % 1073741824 < a % 1073741824 ∧ x = b % 1073741824 ∧ y = a % 1073741824) ∨ (a % 1073741824 ≤ b % 1073741824 ∧ x = a % 1073741824 ∧ y = b % 1073741824)) →
      Calls Try.prog 3 #[.int .i64 a, .int .i64 b, .int .i64 c] W fun e W' => e = .returned (.bool true) ∧ Below W.heap.size W W' := by
    intro x y hx hxy hy hab
    have hk : (c % 25).toNat ≤ 24 := by omega
    have b1 := sizeIn_bounds x (c % 25).toNat hx hk
    have b2 := sizeIn_bounds y (c % 25).toNat (by omega) hk
    have b3 := sizeIn_mono x y (c % 25).toNat hx hxy hk
    have ez : ∀ v : Int, 0 ≤ v → v < 1073741824 → (v = 0 ∧ zigOf (-v) = 0) ∨ (0 < v ∧ zigOf (-v) = 2 * v - 1) := by
      intro v h1 h2
      by_cases h : v = 0
      · subst h; exact .inl ⟨rfl, zig_neg0⟩
      · exact .inr ⟨by omega, zig_neg (by omega) (by omega)⟩
    have e1 := ez x hx (by omega)
    have e2 := ez y (by omega) hy
    exact rises_walk W a b c ha hb hc (c % 25).toNat hk (show _ = _ by omega) _ _ x y _ _ _ _ rfl rfl hx hy hxy hab rfl rfl rfl rfl b3 b1.1 b2.2 (by omega) (by omega)
  by_cases h : b % 1073741824 < a % 1073741824
  · exact e _ _ (by omega) (by omega) (by omega) (.inl ⟨h, rfl, rfl⟩)
  · exact e _ _ (by omega) (by omega) (by omega) (.inr ⟨by omega, rfl, rfl⟩)

end Go.Proofs.Ytiimgkkagfbkmaa
