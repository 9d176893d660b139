/- RiceZigs: the walk. -/
import Derived.Test.YtiimgkkagfbkmaaRice1
import Derived.Test.YtiimgkkagfbkmaaActs
namespace Go.Proofs.Ytiimgkkagfbkmaa
set_option linter.unusedVariables false
set_option linter.unusedSimpArgs false
open Go.RowKit Dg

set_option maxHeartbeats 1000000 in
theorem rzig_any (n : Int) (w : World) :
    Calls Try.prog 15 #[.int .i64 n] w fun e w' => e = .returned (.int .i64 (zigOf n)) ∧ w = w' := by
  by_cases h1 : n < -1099511627776
  · have e : zigOf n = 0 := by simp [zigOf, h1]
    rw [e]
    go_enter Try.func15, Try.ntmps15
    go_wp2
    go_ret
    exact ⟨rfl, rfl⟩
  · by_cases h2 : 1099511627776 ≤ n
    · have e : zigOf n = 0 := by simp [zigOf, h2]
      rw [e]
      go_enter Try.func15, Try.ntmps15
      go_wp2
      go_ret
      exact ⟨rfl, rfl⟩
    · by_cases h3 : n < 0
      · have e : zigOf n = -2 * n - 1 := by simp only [zigOf]; rw [if_neg (by omega), if_pos h3]
        rw [e]
        clear e
        go_enter Try.func15, Try.ntmps15
        go_wp2
        go_ret
        exact ⟨rfl, rfl⟩
      · have e : zigOf n = 2 * n := by simp only [zigOf]; rw [if_neg (by omega), if_neg h3]
        rw [e]
        clear e
        go_enter Try.func15, Try.ntmps15
        go_wp2
        go_ret
        exact ⟨rfl, rfl⟩

set_option maxHeartbeats 1000000 in
theorem rzag_any (n : Int) (w : World) :
    Calls Try.prog 17 #[.int .i64 n] w fun e w' => e = .returned (.int .i64 (zagOf n)) ∧ w = w' := by
  by_cases h1 : n < 0
  · have e : zagOf n = 0 := by simp [zagOf, h1]
    rw [e]
    go_enter Try.func17, Try.ntmps17
    go_wp2
    go_ret
    exact ⟨rfl, rfl⟩
  · by_cases h2 : 2199023255552 ≤ n
    · have e : zagOf n = 0 := by simp [zagOf, h2]
      rw [e]
      go_enter Try.func17, Try.ntmps17
      go_wp2
      go_ret
      exact ⟨rfl, rfl⟩
    · by_cases h3 : n % 2 = 1
      · have e : zagOf n = -((n + 1) / 2) := by simp only [zagOf]; rw [if_neg (by omega), if_pos h3]
        rw [e]
        clear e
        have hm : n.tmod 2 = 1 := by rw [tmod2_pos n (by omega)]; exact h3
        have hd := tdiv2_neg n (by omega)
        go_enter Try.func17, Try.ntmps17
        go_wp2
        all_goals go_ret
        all_goals exact ⟨rfl, rfl⟩
      · have e : zagOf n = n / 2 := by simp only [zagOf]; rw [if_neg (by omega), if_neg h3]
        rw [e]
        clear e
        have hm : n.tmod 2 = 0 := by rw [tmod2_pos n (by omega)]; omega
        have hd := tdiv2_pos n (by omega)
        go_enter Try.func17, Try.ntmps17
        go_wp2
        all_goals go_ret
        all_goals exact ⟨rfl, rfl⟩

theorem zag_zig (n : Int) (h1 : -1099511627776 ≤ n) (h2 : n < 1099511627776) : zagOf (zigOf n) = n ∧ 0 ≤ zigOf n := by
  unfold zigOf
  rw [if_neg (by omega)]
  by_cases h : n < 0
  · rw [if_pos h]
    unfold zagOf
    rw [if_neg (by omega), if_pos (by omega)]
    omega
  · rw [if_neg h]
    unfold zagOf
    rw [if_neg (by omega), if_neg (by omega)]
    omega
theorem zig_zag (n : Int) (h1 : 0 ≤ n) (h2 : n < 2199023255552) : zigOf (zagOf n) = n := by
  unfold zagOf
  rw [if_neg (by omega)]
  by_cases h : n % 2 = 1
  · rw [if_pos h]
    unfold zigOf
    rw [if_neg (by omega), if_pos (by omega)]
    omega
  · rw [if_neg h]
    unfold zigOf
    rw [if_neg (by omega), if_neg (by omega)]
    omega

set_option maxRecDepth 100000 in
set_option maxHeartbeats 2000000 in
theorem zigs_any (W : World) (n : Int) (hn : I64 n) :
    Calls Try.prog 5 #[.int .i64 n] W fun e W' => e = .returned (.bool true) ∧ Below W.heap.size W W' := by
  obtain ⟨hn1, hn2⟩ := hn
  obtain ⟨z, hz⟩ : ∃ z, z = zigOf n := ⟨_, rfl⟩
  obtain ⟨g, hg⟩ : ∃ g, g = zagOf n := ⟨_, rfl⟩
  obtain ⟨zg, hzg⟩ : ∃ x, x = zagOf z := ⟨_, rfl⟩
  obtain ⟨gz, hgz⟩ : ∃ x, x = zigOf g := ⟨_, rfl⟩
  have HZ : Hid (z = zigOf n) := hz
  have HG : Hid (g = zagOf n) := hg
  have HZG : Hid (zg = zagOf z) := hzg
  have HGZ : Hid (gz = zigOf g) := hgz
  have c1 : n < -1099511627776 ∨ 1099511627776 ≤ n ∨ (-1099511627776 ≤ n ∧ n < 1099511627776 ∧ Hid (zg = n) ∧ 0 ≤ z) := by
    by_cases h1 : n < -1099511627776
    · exact .inl h1
    · by_cases h2 : 1099511627776 ≤ n
      · exact .inr (.inl h2)
      · have := zag_zig n (by omega) (by omega)
        rw [← hz, ← hzg] at this
        exact .inr (.inr ⟨by omega, by omega, this.1, this.2⟩)
  have c2 : n < 0 ∨ 2199023255552 ≤ n ∨ (0 ≤ n ∧ n < 2199023255552 ∧ Hid (gz = n)) := by
    by_cases h1 : n < 0
    · exact .inl h1
    · by_cases h2 : 2199023255552 ≤ n
      · exact .inr (.inl h2)
      · have := zig_zag n (by omega) (by omega)
        rw [← hg, ← hgz] at this
        exact .inr (.inr ⟨by omega, by omega, this⟩)
  clear hz hg hzg hgz
  rcases c1 with h1 | h1 | ⟨h1, h1', h1'', h1z⟩ <;> rcases c2 with h2 | h2 | ⟨h2, h2', h2''⟩ <;> first
    | (exfalso; omega)
    | (try (have ezg := h1''.out; subst ezg)
       try (have egz := h2''.out; subst egz)
       go_enter Try.func5, Try.ntmps5
       go_wp2_with first
         | (go_at_call 11; refine (zig_any _ W).mono ?_; (first | rw [← HZ.out] | rw [← HGZ.out]); rintro e w2 ⟨rfl, rfl⟩)
         | (go_at_call 16; refine (zag_any _ W).mono ?_; (first | rw [← HG.out] | rw [← HZG.out]); rintro e w2 ⟨rfl, rfl⟩)
         | (go_at_call 15; refine (rzig_any _ W).mono ?_; rw [← HZ.out]; rintro e w2 ⟨rfl, rfl⟩)
         | (go_at_call 17; refine (rzag_any _ W).mono ?_; rw [← HG.out]; rintro e w2 ⟨rfl, rfl⟩)
         | (go_at_call 12; refine (wakes_any W).mono ?_; rintro e w2 ⟨rfl, rfl⟩)
       go_ret
       exact ⟨rfl, Below.refl _ _⟩)

end Go.Proofs.Ytiimgkkagfbkmaa
