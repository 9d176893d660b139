/- Bytes that are read: copied, Bytes, Same, NewReader. -/
import Derived.Test.YtkdbpjmofghanaaWalk3
import Derived.Laws.CopyOwn
namespace Go.Proofs.Ytkdbpjmofghanaa
set_option linter.unusedVariables false
set_option linter.unusedSimpArgs false
open Go.RowKit Dg

/-- A slice of bytes that can be read. -/
def SlAt (w : World) (v : Value) (l : List Nat) : Prop :=
  ∃ ao cap, v = .slice ao l.length cap ∧ ∀ j x, l[j]? = some x → ∃ b off, ao = some ⟨b, off, none⟩ ∧ w.cell? ⟨b, off + j, none⟩ = some (.int .u8 ((x : Nat) : Int))

theorem SlAt.kept {w w' : World} {v : Value} {l : List Nat} {F : Nat → Prop} (h : SlAt w v l) (hk : Kept F w w') (hF : ∀ k, v.ownBlock = some k → ¬ F k) : SlAt w' v l := by
  obtain ⟨ao, cap, rfl, hc⟩ := h
  refine ⟨ao, cap, rfl, fun j x hx => ?_⟩
  obtain ⟨b, off, rfl, hcell⟩ := hc j x hx
  refine ⟨b, off, rfl, ?_⟩
  rw [hk.cell (World.block_lt_of_cell? w _ hcell) (hF b rfl)]
  exact hcell

theorem SlAt.nil (w : World) : SlAt w (.slice none 0 0) [] := ⟨none, 0, rfl, fun j x hx => by simp at hx⟩

theorem SlAt.of_owns {w : World} {base : Nat} {v : Value} {n : Nat} {l : List Nat} (h : w.ownsRow base 5 1 v n (u8s l)) : SlAt w v l := by
  have hl : l.length = n := by have := h.1; simpa using this
  rcases h.2 with ⟨rfl, rfl⟩ | ⟨g, cap, cur, rfl, hb, hh, hn, _, hcs, htake⟩
  · have : l = [] := List.eq_nil_of_length_eq_zero hl
    subst this
    exact SlAt.nil w
  · refine ⟨some ⟨g, 0, none⟩, cap, by rw [hl], fun j x hx => ⟨g, 0, rfl, ?_⟩⟩
    have hj : j < l.length := (List.getElem?_eq_some_iff.1 hx).1
    have e : (u8s l)[j]? = some (.int .u8 ((x : Nat) : Int)) := by rw [u8s_get, hx]; rfl
    rw [← htake, List.getElem?_take, if_pos (by omega)] at e
    simp only [World.cell?, hh]
    simpa using e

end Go.Proofs.Ytkdbpjmofghanaa
