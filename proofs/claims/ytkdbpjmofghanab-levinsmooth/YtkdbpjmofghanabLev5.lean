/- The document's own Auto and Scaled; its example. -/
import Derived.Test.YtkdbpjmofghanabLev4
namespace Go.Proofs.Ytkdbpjmofghanab
set_option linter.unusedVariables false
set_option linter.unusedSimpArgs false
open Go.RowKit Dg

set_option maxHeartbeats 1000000 in
theorem wakes7_any (w : World) : Calls Try.prog 8 #[] w fun e w' => e = .returned (.bool true) ∧ Below w.heap.size w w' := by
  have HR : Hid ((([14, 8], 0) : List Int × Int) = autoOut [1, 2, 3] 1) := by show _ = _; decide
  go_enter Try.func8, Try.ntmps8
  go_wp2_with fail
  have HA : Hid (Ns (w.alloc (.cells #[.int .i64 1, .int .i64 2, .int .i64 3] 3)) (some ⟨w.heap.size, 0, none⟩) 3 [1, 2, 3]) := Ns.lit w [1, 2, 3] 3 rfl (by decide) _ rfl
  have HB0 : Hid (Below w.heap.size w (w.alloc (.cells #[.int .i64 1, .int .i64 2, .int .i64 3] 3))) := (Below.refl _ _).alloc (Nat.le_refl _) _
  generalize w.alloc (.cells #[.int .i64 1, .int .i64 2, .int .i64 3] 3) = w1 at *
  have hs1 : w.heap.size ≤ w1.heap.size := HB0.out.size
  refine (vauto_any w1 _ 3 [1, 2, 3] 1 HA.out.at_ (by decide) _ HR.out).mono ?_
  rintro e w2 hg
  obtain ⟨a2, c2, rfl, -, hn2, hb2⟩ := hg.ok
  have HN2 := hid_of hn2
  have HB2 : Hid (Below w.heap.size w w2) := HB0.out.trans (hb2.mono hs1)
  have hs2 := HB2.out.size
  clear hg hb2 hn2
  go_wp2_with fail
  have HL : Hid (Ns (w2.alloc (.cells #[.int .i64 14, .int .i64 8] 3)) (some ⟨w2.heap.size, 0, none⟩) 2 [14, 8]) := Ns.lit w2 [14, 8] 2 rfl (by decide) _ rfl
  have HB3 : Hid (Below w.heap.size w (w2.alloc (.cells #[.int .i64 14, .int .i64 8] 3))) := HB2.out.alloc hs2 _
  have HN3 : Hid (Ns (w2.alloc (.cells #[.int .i64 14, .int .i64 8] 3)) a2 c2 [14, 8]) := HN2.out.mono ((Below.refl _ _).alloc (Nat.le_refl _) _)
  generalize w2.alloc (.cells #[.int .i64 14, .int .i64 8] 3) = w3 at *
  refine (sameInt_any w3 a2 _ c2 2 [14, 8] HN3.out.at_ HL.out.at_ (by decide)).mono ?_
  rintro e w5 ⟨rfl, n5, rfl⟩
  go_wp2
  go_ret
  exact ⟨rfl, below_drewN HB3.out n5⟩

theorem autoL_take (x : List Int) {k n : Nat} (h : k ≤ n) : (autoL x n).take k = autoL x k := by
  unfold autoL
  rw [← List.map_take, List.take_range, Nat.min_eq_left h]

theorem pow_fit {t : Nat} (h : t ≤ 31) : wrap64 (2 ^ t) = 2 ^ t ∧ (1 : Int) ≤ 2 ^ t ∧ (2 : Int) ^ t ≤ 4611686018427387904 := by
  have h1 : (1 : Int) ≤ 2 ^ t := Int.pow_pos (by decide)
  have h2 : (2 : Nat) ^ t ≤ 2 ^ 31 := Nat.pow_le_pow_right (by decide) h
  have h3 : (2 : Int) ^ t = ((2 ^ t : Nat) : Int) := by simp
  refine ⟨Go.IntWalk.wrap64_in _ ?_, h1, ?_⟩
  · rw [h3]; omega
  · rw [h3]; omega
theorem scaleL_next {l : List Int} {s k : Nat} {x : Int} (h : l[k]? = some x) : (scaleL l s).take (k + 1) = (scaleL l s).take k ++ [x / 2 ^ s] := take_next _ _ _ (scaleL_get h)

end Go.Proofs.Ytkdbpjmofghanab
