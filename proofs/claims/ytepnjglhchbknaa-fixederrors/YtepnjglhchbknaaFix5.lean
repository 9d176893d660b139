/- What Residual and Restore gave, as slices; the document's example of law05. -/
import Derived.Test.YtepnjglhchbknaaFix4
namespace Go.Proofs.Ytepnjglhchbknaa
set_option linter.unusedVariables false
set_option linter.unusedSimpArgs false
open Go.RowKit Dg

theorem Gave.ok {w w' : World} {L : List Int} {k : Int} {e : Ending} (h : Gave w w' (L, k) e) : ∃ a cap, e = .returned (.tuple #[.slice a L.length cap, .int .i64 k]) ∧ OwnInts w' w.heap.size (.slice a L.length cap) L ∧ Ns w' a cap L ∧ Below w.heap.size w w' := by
  obtain ⟨v, rfl, ho, hb⟩ := h
  have ho' : OwnInts w' w.heap.size v L := ho
  obtain ⟨a, cap, rfl, hn, _, _⟩ := ho'.ns
  exact ⟨a, cap, rfl, ho', hn, hb⟩
/-- The numbers of a row that was just built. -/
theorem Ns.lit (w : World) (l : List Int) (n : Nat) (hn : l.length = n) (hl : n ≤ 1000000) (cs : Array Value) (hcs : cs.toList = i64s l) : Ns (w.alloc (.cells cs 3)) (some ⟨w.heap.size, 0, none⟩) n l := by
  have := OwnInts.lit w w.heap.size l n hn (Nat.le_refl _) hl cs hcs
  exact ⟨IntsAt.of_owns (n := l.length) this, by omega, fun e => by cases e⟩

set_option maxHeartbeats 1000000 in
theorem wakes5_any (w : World) : Calls Try.prog 13 #[] w fun e w' => e = .returned (.bool true) ∧ Below w.heap.size w w' := by
  have HR : Hid ((([1, 2], 0) : List Int × Int) = resOut [1, 2, 4] 1) := by show _ = _; decide
  have HN : Hid (Ns (w.alloc (.cells #[.int .i64 1, .int .i64 2, .int .i64 4] 3)) (some ⟨w.heap.size, 0, none⟩) 3 [1, 2, 4]) := Ns.lit w [1, 2, 4] 3 rfl (by decide) _ rfl
  go_enter Try.func13, Try.ntmps13
  go_wp2_with fail
  refine (fresid_any _ _ _ [1, 2, 4] 1 HN.out (by decide) _ HR.out).mono ?_
  rintro e w1 hg
  obtain ⟨a1, c1, rfl, -, hn1, hb1⟩ := hg.ok
  have HB1 : Hid (Below w.heap.size w w1) := ((Below.refl _ _).alloc (Nat.le_refl _) _).trans (hb1.mono (by simp))
  have HN1 : Hid (IntsAt (w1.alloc (.cells #[.int .i64 1, .int .i64 2] 3)) a1 [1, 2]) := hn1.at_.mono ((Below.refl _ _).alloc (Nat.le_refl _) _)
  have HN2 : Hid (IntsAt (w1.alloc (.cells #[.int .i64 1, .int .i64 2] 3)) (some ⟨w1.heap.size, 0, none⟩) [1, 2]) := (Ns.lit w1 [1, 2] 2 rfl (by decide) _ rfl).at_
  have hs1 : w.heap.size ≤ w1.heap.size := HB1.out.size
  clear hg hn1 hb1 HR HN
  go_wp2_with fail
  refine (sameInt_any _ _ _ _ _ [1, 2] HN1.out HN2.out (by decide)).mono ?_
  rintro e w2 ⟨rfl, n2, hw2⟩
  have HB2 : Hid (Below w.heap.size w w2) := by rw [hw2]; exact below_drewN (HB1.out.alloc hs1 _) n2
  clear hw2
  go_wp2
  go_ret
  exact ⟨rfl, HB2.out⟩

end Go.Proofs.Ytepnjglhchbknaa
