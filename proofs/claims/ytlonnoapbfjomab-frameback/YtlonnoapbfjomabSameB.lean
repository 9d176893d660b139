/- Same of any two rows of bytes. -/
import Derived.Test.YtlonnoapbfjomabOwn
namespace Go.Proofs.Ytlonnoapbfjomab
set_option linter.unusedVariables false
set_option linter.unusedSimpArgs false
open Go.RowKit Dg

set_option maxHeartbeats 1000000 in
theorem sameB_short (w : World) (a1 a2 : Option Addr) (n1 n2 c1 c2 : Nat) (h : n1 ≠ n2) :
    Calls Try.prog 16 #[.slice a1 n1 c1, .slice a2 n2 c2] w fun e w' => e = .returned (.bool false) ∧ ∃ n, w' = w.drewN n := by
  have hb : ((n1 : Int) != (n2 : Int)) = true := by simp; omega
  go_enter Try.func16, Try.ntmps16
  go_wp2
  go_ret
  exact ⟨rfl, 0, rfl⟩
theorem sameB_all (w : World) (v1 v2 : Value) (l1 l2 : List Nat) (h1 : SlAt w v1 l1) (h2 : SlAt w v2 l2) (hl : l1.length ≤ 1000000) (t : Bool) (ht : t = decide (l1 = l2)) :
    Calls Try.prog 16 #[v1, v2] w fun e w' => e = .returned (.bool t) ∧ ∃ n, w' = w.drewN n := by
  by_cases e : l1 = l2
  · subst e
    rw [ht, decide_eq_true rfl]
    exact same_any w v1 v2 l1 h1 h2 (by omega)
  · rw [ht, decide_eq_false e]
    by_cases hlen : l2.length = l1.length
    · exact same_not w v1 v2 l1 l2 h1 h2 hlen hl e
    · obtain ⟨a1, c1, rfl, -⟩ := h1
      obtain ⟨a2, c2, rfl, -⟩ := h2
      exact sameB_short w a1 a2 _ _ c1 c2 (fun h => hlen h.symm)

end Go.Proofs.Ytlonnoapbfjomab
