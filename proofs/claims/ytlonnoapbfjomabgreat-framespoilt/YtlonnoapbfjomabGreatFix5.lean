/- What Residual and Restore gave, as slices; the document's example of law05. -/
import Derived.Test.YtlonnoapbfjomabGreatFix4
namespace Go.Proofs.YtlonnoapbfjomabGreat
set_option linter.unusedVariables false
set_option linter.unusedSimpArgs false
open Go.RowKit Dg

theorem Gave.ok {w w' : World} {L : List Int} {k : Int} {e : Ending} (h : Gave w w' (L, k) e) : ∃ a cap, e = .returned (.tuple #[.slice a L.length cap, .int .i64 k]) ∧ OwnInts w' w.heap.size (.slice a L.length cap) L ∧ Ns w' a cap L ∧ Below w.heap.size w w' := by
  obtain ⟨v, rfl, ho, hb⟩ := h
  have ho' : OwnInts w' w.heap.size v L := ho
  obtain ⟨a, cap, rfl, hn, _, _⟩ := ho'.ns
  exact ⟨a, cap, rfl, ho', hn, hb⟩
/-- The numbers of a row that was just built. -/
theorem Ns.lit (w : World) (l : List Int) (n : Nat) (hn : l.length = n) (hl : n ≤ 1000000) (cs : Array Value) (hcs : cs.toList = i64s l) : Ns (w.alloc (.cells cs 3)) (some ⟨w.heap.size, 0, none⟩) n l := by
  have := OwnInts.lit w w.heap.size l n hn (Nat.le_refl _) hl cs hcs
  exact ⟨IntsAt.of_owns (n := l.length) this, by omega, fun e => by cases e⟩

end Go.Proofs.YtlonnoapbfjomabGreat
