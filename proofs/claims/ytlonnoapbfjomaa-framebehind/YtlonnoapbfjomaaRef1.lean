/- The document's own answers, by their contracts: digits as bytes: Get, TakeOnes, Rest. -/
import Derived.Test.YtlonnoapbfjomaaActs
namespace Go.Proofs.Ytlonnoapbfjomaa
set_option linter.unusedVariables false
set_option linter.unusedSimpArgs false
open Go.RowKit Dg

/-- Digits, a byte each, that can be read. -/
def BtAt (w : World) (v : Value) (ds : List Bool) : Prop :=
  (v = .slice none 0 0 ∧ ds = []) ∨
  ∃ b off cap, v = .slice (some ⟨b, off, none⟩) ds.length cap ∧ b < w.heap.size ∧ ds.length ≤ cap ∧ cap ≤ maxLen ∧ ∀ j d, ds[j]? = some d → w.cell? ⟨b, off + j, none⟩ = some (.int .u8 (d.toNat : Int))

theorem BtAt.kept {w w' : World} {v : Value} {ds : List Bool} {F : Nat → Prop} (h : BtAt w v ds) (hk : Kept F w w') (hF : ∀ k, v.ownBlock = some k → ¬ F k) : BtAt w' v ds := by
  rcases h with h | ⟨b, off, cap, rfl, hb, hl, hm, hc⟩
  · exact Or.inl h
  · refine Or.inr ⟨b, off, cap, rfl, Nat.lt_of_lt_of_le hb hk.size, hl, hm, fun j d hd => ?_⟩
    rw [hk.cell hb (hF b rfl)]
    exact hc j d hd
theorem BtAt.below {w w' : World} {v : Value} {ds : List Bool} (h : BtAt w v ds) (hb : Below w.heap.size w w') : BtAt w' v ds :=
  h.kept (F := fun _ => False) (Kept.of_below hb) (fun _ _ h => h)
theorem BtAt.drew {w : World} {v : Value} {ds : List Bool} (h : BtAt w v ds) : BtAt w.drew v ds := h
theorem BtAt.drewN {w : World} {v : Value} {ds : List Bool} (n : Nat) (h : BtAt w v ds) : BtAt (w.drewN n) v ds := h
theorem BtAt.lt {w : World} {v : Value} {ds : List Bool} (h : BtAt w v ds) : ∀ k, v.ownBlock = some k → k < w.heap.size := by
  rcases h with ⟨rfl, _⟩ | ⟨b, off, cap, rfl, hb, _⟩
  · intro k hk; simp [Value.ownBlock] at hk
  · intro k hk; simp [Value.ownBlock] at hk; omega

/-- What is behind the first n digits. -/
theorem BtAt.drop {w : World} {b off cap o n : Nat} {ds : List Bool} (hb : b < w.heap.size) (hn : n ≤ ds.length) (hl : ds.length ≤ cap) (hm : cap ≤ maxLen) (hc : ∀ j d, ds[j]? = some d → w.cell? ⟨b, off + j, none⟩ = some (.int .u8 (d.toNat : Int))) (ho : cap ≠ n → o = off + n) :
    BtAt w (.slice (some ⟨b, o, none⟩) (ds.length - n) (cap - n)) (ds.drop n) := by
  refine Or.inr ⟨b, o, cap - n, by simp, hb, by simp; omega, by omega, fun j d hd => ?_⟩
  have hj : n + j < ds.length := by
    have := (List.getElem?_eq_some_iff.1 hd).1
    simp at this; omega
  rw [ho (by omega)]
  rw [List.getElem?_drop] at hd
  have := hc (n + j) d hd
  rw [Nat.add_assoc]
  exact this

/-- Get: what comes, how many are taken, whether it may be. -/
def getOut (ds : List Bool) (n : Int) : Nat × Nat × Bool :=
  if 0 ≤ n ∧ n ≤ 62 ∧ n ≤ ds.length then (num (ds.take n.toNat), n.toNat, true) else (0, 0, false)

end Go.Proofs.Ytlonnoapbfjomaa
