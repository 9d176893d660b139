/- The document's example of law06; its coefficients. -/
import Derived.Test.YtgikbcicjeeofabLpc2
namespace Go.Proofs.Ytgikbcicjeeofab
set_option linter.unusedVariables false
set_option linter.unusedSimpArgs false
open Go.RowKit Dg

set_option maxHeartbeats 1000000 in
theorem wakes6_any (w : World) : Calls Try.prog 10 #[] w fun e w' => e = .returned (.bool true) ∧ Below w.heap.size w w' := by
  have HR : Hid ((20 : Int) = lguess [10, 20] [4096]) := by show _ = _; decide
  have HN : Hid (Ns ((w.alloc (.cells #[.int .i64 10, .int .i64 20] 3)).alloc (.cells #[.int .i64 4096] 3)) (some ⟨w.heap.size, 0, none⟩) 2 [10, 20]) := (Ns.lit w [10, 20] 2 rfl (by decide) _ rfl).mono ((Below.refl _ _).alloc (Nat.le_refl _) _)
  have HG : Hid (Ns ((w.alloc (.cells #[.int .i64 10, .int .i64 20] 3)).alloc (.cells #[.int .i64 4096] 3)) (some ⟨w.heap.size + 1, 0, none⟩) 1 [4096]) := by
    have h := Ns.lit (w.alloc (.cells #[.int .i64 10, .int .i64 20] 3)) [4096] 1 rfl (by decide) _ rfl
    have e : (w.alloc (.cells #[.int .i64 10, .int .i64 20] 3)).heap.size = w.heap.size + 1 := by simp
    rw [e] at h
    exact h
  have HB : Hid (Below w.heap.size w ((w.alloc (.cells #[.int .i64 10, .int .i64 20] 3)).alloc (.cells #[.int .i64 4096] 3))) := ((Below.refl _ _).alloc (Nat.le_refl _) _).alloc (by simp) _
  go_enter Try.func10, Try.ntmps10
  go_wp2_with fail
  refine (lguess_any _ _ _ _ _ _ _ [10, 20] [4096] rfl rfl HN.out.at_ HG.out.at_ (by decide) (by decide) 20 HR.out).mono ?_
  rintro e w1 ⟨rfl, rfl⟩
  go_wp2_with fail
  go_ret
  exact ⟨rfl, HB.out⟩

end Go.Proofs.Ytgikbcicjeeofab
