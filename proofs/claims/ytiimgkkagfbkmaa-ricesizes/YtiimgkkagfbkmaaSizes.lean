/- RiceSizes: the walk. -/
import Derived.Test.YtiimgkkagfbkmaaRice4
namespace Go.Proofs.Ytiimgkkagfbkmaa
set_option linter.unusedVariables false
set_option linter.unusedSimpArgs false
open Go.RowKit Dg

set_option maxRecDepth 100000 in
set_option maxHeartbeats 2000000 in
theorem sizes_go (W : World) (z k : Int) (a : Option Addr) (len cap n : Nat) (hn : min len 70 = n) (hle : len ≤ cap) (hm : cap ≤ maxLen) (h0 : a = none → len = 0 ∧ cap = 0) (x y : Int)
    (HX : Hid (Calls Try.prog 13 #[.slice a n cap] W fun e w' => e = .returned (.tuple #[.int .i64 x, .int .i64 y]) ∧ W = w'))
    (HY : Hid (Calls Try.prog 19 #[.slice a n cap] W fun e w' => e = .returned (.tuple #[.int .i64 x, .int .i64 y]) ∧ W = w')) :
    Calls Try.prog 6 #[.int .i64 z, .int .i64 k, .slice a len cap] W fun e W' => e = .returned (.bool true) ∧ Below W.heap.size W W' := by
  have HN : Hid (min len 70 = n) := hn
  have HM : Hid (cap ≤ maxLen) := hm
  have H0 : Hid (a = none → len = 0 ∧ cap = 0) := h0
  obtain ⟨s, hs⟩ : ∃ s, s = sizeOf1 z k := ⟨_, rfl⟩
  have HS : Hid (s = sizeOf1 z k) := hs
  clear hn hm h0 hs
  go_enter Try.func6, Try.ntmps6
  go_wp2_with first
    | (go_at_call 18; refine (cutInt_any W a len cap 70 (by decide) hle HM.out H0.out).mono ?_; rw [HN.out]; rintro e w2 ⟨rfl, rfl⟩)
    | (go_at_call 13; refine HX.out.mono ?_; rintro e w2 ⟨rfl, rfl⟩)
    | (go_at_call 19; refine HY.out.mono ?_; rintro e w2 ⟨rfl, rfl⟩)
    | (go_at_call 10; refine (size_any z k W).mono ?_; rw [← HS.out]; rintro e w2 ⟨rfl, rfl⟩)
    | (go_at_call 20; refine (rsize_any z k W).mono ?_; rw [← HS.out]; rintro e w2 ⟨rfl, rfl⟩)
    | (go_at_call 12; refine (wakes_any W).mono ?_; rintro e w2 ⟨rfl, rfl⟩)
  go_ret
  exact ⟨rfl, Below.refl _ _⟩

theorem sizes_law_any (W : World) (z k : Int) (a : Option Addr) (len cap : Nat) (zs : List Int) (hz : I64 z) (hk : I64 k) (hrow : IsRow .i64 W a len cap zs) :
    Calls Try.prog 6 #[.int .i64 z, .int .i64 k, .slice a len cap] W fun e W' => e = .returned (.bool true) ∧ Below W.heap.size W W' := by
  obtain ⟨l, hl, hI, hat, hle, hm, hnone, hblk⟩ := hrow.ints
  have hat' := hat.take 70
  have hll : (l.take 70).length = min len 70 := by simp [hl, Nat.min_comm]
  by_cases hall : ∀ x ∈ l.take 70, isNum x = true
  · refine sizes_go W z k a len cap (l.take 70).length hll.symm hle hm hnone (bestTo (l.take 70) 24).1 (bestTo (l.take 70) 24).2 ?_ ?_
    · exact best_all W a cap (l.take 70) hat' (by omega) hall _ _ rfl
    · exact rbest_all W a cap (l.take 70) hat' (by omega) hall _ _ rfl
  · have hbad : ∃ x ∈ l.take 70, isNum x = false := by
      simpa using hall
    refine sizes_go W z k a len cap (l.take 70).length hll.symm hle hm hnone 0 0 ?_ ?_
    · exact best_bad W a cap (l.take 70) hat' (by omega) hbad
    · exact rbest_bad W a cap (l.take 70) hat' (by omega) hbad

end Go.Proofs.Ytiimgkkagfbkmaa
