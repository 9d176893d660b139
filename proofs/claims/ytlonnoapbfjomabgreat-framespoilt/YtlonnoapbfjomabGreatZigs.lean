/- RiceZigs: the walk. -/
import Derived.Test.YtlonnoapbfjomabGreatRice1
import Derived.Test.YtlonnoapbfjomabGreatActs
namespace Go.Proofs.YtlonnoapbfjomabGreat
set_option linter.unusedVariables false
set_option linter.unusedSimpArgs false
open Go.RowKit Dg

set_option maxHeartbeats 1000000 in
theorem rzig_any (n : Int) (w : World) :
    Calls Tryz.prog 41 #[.int .i64 n] w fun e w' => e = .returned (.int .i64 (zigOf n)) ∧ w = w' := by
  by_cases h1 : n < -1099511627776
  · have e : zigOf n = 0 := by simp [zigOf, h1]
    rw [e]
    go_enter Tryz.func41, Tryz.ntmps41
    go_wp2
    go_ret
    exact ⟨rfl, rfl⟩
  · by_cases h2 : 1099511627776 ≤ n
    · have e : zigOf n = 0 := by simp [zigOf, h2]
      rw [e]
      go_enter Tryz.func41, Tryz.ntmps41
      go_wp2
      go_ret
      exact ⟨rfl, rfl⟩
    · by_cases h3 : n < 0
      · have e : zigOf n = -2 * n - 1 := by simp only [zigOf]; rw [if_neg (by omega), if_pos h3]
        rw [e]
        clear e
        go_enter Tryz.func41, Tryz.ntmps41
        go_wp2
        go_ret
        exact ⟨rfl, rfl⟩
      · have e : zigOf n = 2 * n := by simp only [zigOf]; rw [if_neg (by omega), if_neg h3]
        rw [e]
        clear e
        go_enter Tryz.func41, Tryz.ntmps41
        go_wp2
        go_ret
        exact ⟨rfl, rfl⟩

set_option maxHeartbeats 1000000 in
theorem rzag_any (n : Int) (w : World) :
    Calls Tryz.prog 65 #[.int .i64 n] w fun e w' => e = .returned (.int .i64 (zagOf n)) ∧ w = w' := by
  by_cases h1 : n < 0
  · have e : zagOf n = 0 := by simp [zagOf, h1]
    rw [e]
    go_enter Tryz.func65, Tryz.ntmps65
    go_wp2
    go_ret
    exact ⟨rfl, rfl⟩
  · by_cases h2 : 2199023255552 ≤ n
    · have e : zagOf n = 0 := by simp [zagOf, h2]
      rw [e]
      go_enter Tryz.func65, Tryz.ntmps65
      go_wp2
      go_ret
      exact ⟨rfl, rfl⟩
    · by_cases h3 : n % 2 = 1
      · have e : zagOf n = -((n + 1) / 2) := by simp only [zagOf]; rw [if_neg (by omega), if_pos h3]
        rw [e]
        clear e
        have hm : n.tmod 2 = 1 := by rw [tmod2_pos n (by omega)]; exact h3
        have hd := tdiv2_neg n (by omega)
        go_enter Tryz.func65, Tryz.ntmps65
        go_wp2
        all_goals go_ret
        all_goals exact ⟨rfl, rfl⟩
      · have e : zagOf n = n / 2 := by simp only [zagOf]; rw [if_neg (by omega), if_neg h3]
        rw [e]
        clear e
        have hm : n.tmod 2 = 0 := by rw [tmod2_pos n (by omega)]; omega
        have hd := tdiv2_pos n (by omega)
        go_enter Tryz.func65, Tryz.ntmps65
        go_wp2
        all_goals go_ret
        all_goals exact ⟨rfl, rfl⟩

theorem zag_zig (n : Int) (h1 : -1099511627776 ≤ n) (h2 : n < 1099511627776) : zagOf (zigOf n) = n ∧ 0 ≤ zigOf n := by
  unfold zigOf
  rw [if_neg (by omega)]
  by_cases h : n < 0
  · rw [if_pos h]
    unfold zagOf
    rw [if_neg (by omega), if_pos (by omega)]
    omega
  · rw [if_neg h]
    unfold zagOf
    rw [if_neg (by omega), if_neg (by omega)]
    omega
theorem zig_zag (n : Int) (h1 : 0 ≤ n) (h2 : n < 2199023255552) : zigOf (zagOf n) = n := by
  unfold zagOf
  rw [if_neg (by omega)]
  by_cases h : n % 2 = 1
  · rw [if_pos h]
    unfold zigOf
    rw [if_neg (by omega), if_pos (by omega)]
    omega
  · rw [if_neg h]
    unfold zigOf
    rw [if_neg (by omega), if_neg (by omega)]
    omega

end Go.Proofs.YtlonnoapbfjomabGreat
