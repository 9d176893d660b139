/- Walks over the small functions of the seat, and over add. -/
import Derived.Test.YtkdbpjmofghanaaRows
import Derived.Test.YtkdbpjmofghanaaBase
import Derived.Test.YtkdbpjmofghanaaMath
import Derived.BigRegion
import Derived.Deep.QuietTactic
import Derived.BigQuiet
namespace Go.Proofs.Ytkdbpjmofghanaa
set_option linter.unusedVariables false
set_option linter.unusedSimpArgs false
open Go.RowKit Dg

theorem Try.info5 : (Try.prog.info? 5).map (fun i => (i.zero, i.size, i.bytes)) = some (some (.int .u8 0), 1, 1) := by kernel_rfl

theorem ret_int {k : IntKind} {a b : Int} (h : a = b) : Ending.returned (.int k a) = .returned (.int k b) := by rw [h]

theorem tmod_pos {v n : Int} (h : 0 ≤ v.tmod n) (hn : 1 ≤ n) : v.tmod n = v % n := by
  by_cases hv : 0 ≤ v
  · exact Int.tmod_eq_emod_of_nonneg hv
  · have h1 := Int.tmod_def v n
    have h2 : v.tmod n ≤ 0 := by
      have := Int.tmod_nonneg n (show 0 ≤ -v by omega)
      rw [Int.neg_tmod] at this; omega
    have h3 : v.tmod n = 0 := by omega
    have h4 : v % n = 0 := by
      apply Int.emod_eq_zero_of_dvd
      exact Int.dvd_of_tmod_eq_zero h3
    omega
theorem tmod_neg {v n : Int} (h : v.tmod n < 0) (hn : 1 ≤ n) : v.tmod n + n = v % n := by
  have hv : v < 0 := by
    by_cases hv : 0 ≤ v
    · have := Int.tmod_nonneg n hv; omega
    · omega
  have e := Int.tmod_eq_emod (a := v) (b := n)
  rw [e] at h ⊢
  have h0 : ¬ 0 ≤ v := by omega
  by_cases hd : n ∣ v
  · have := Int.emod_eq_zero_of_dvd hd
    simp [hd] at h
    omega
  · simp [h0, hd]
    omega

set_option maxHeartbeats 400000 in
theorem within_any (v n : Int) (w : World) (hv1 : -9223372036854775808 ≤ v) (hv2 : v ≤ 9223372036854775807) (hn1 : 1 ≤ n) (hn2 : n ≤ 4611686018427387904) :
    Calls Try.prog 10 #[.int .i64 v, .int .i64 n] w fun e w' => e = .returned (.int .i64 (v % n)) ∧ w = w' := by
  have hb1 : -n < v.tmod n := by have := Int.lt_tmod_of_pos v (show 0 < n by omega); omega
  have hb2 : v.tmod n < n := Int.tmod_lt_of_pos v (by omega)
  go_enter Try.func10, Try.ntmps10
  go_wp2
  · go_ret
    exact ⟨ret_int (tmod_neg ‹_› hn1), rfl⟩
  · go_ret
    exact ⟨ret_int (tmod_pos ‹_› hn1), rfl⟩

end Go.Proofs.Ytkdbpjmofghanaa
