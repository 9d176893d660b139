/- BitsWrites: the walk of the law. -/
import Derived.Test.YtlonnoapbfjomabGreatRef7
namespace Go.Proofs.YtlonnoapbfjomabGreat
set_option linter.unusedVariables false
set_option linter.unusedSimpArgs false
open Go.RowKit Dg

/-- What the loop keeps: a writer and the document's digits, the same ones. -/
structure WroteAt (w wr : World) (b : Nat) (rv v : Value) (ds : List Bool) : Prop where
  wt : WrAt wr b rv ds
  bt : BtAt wr v ds
  ap : ∀ i, v.ownBlock = some i → ¬ Wf b rv i
  bel : Below w.heap.size w wr

theorem WroteAt.below {w W0 W1 : World} {b : Nat} {rv v : Value} {ds : List Bool} (h : WroteAt w W0 b rv v ds) (hb : Below W0.heap.size W0 W1) (hs : w.heap.size ≤ W0.heap.size) : WroteAt w W1 b rv v ds :=
  ⟨h.wt.below hb, h.bt.below hb, h.ap, h.bel.trans (hb.mono hs)⟩

/-- Some digits more, on both sides. -/
theorem WroteAt.next {w W0 w2 w3 : World} {b : Nat} {rv v v' : Value} {ds ds' : List Bool} (h : WroteAt w W0 b rv v ds) (hown : w2.ownsRow W0.heap.size 5 1 v' ds'.length (u8s (bn ds'))) (hb2 : Below W0.heap.size W0 w2)
    (hwr : Wrote w2 w3 b rv ds') (hbw : w.heap.size ≤ b) : ∃ rv', WroteAt w w3 b rv' v' ds' ∧ b < w3.heap.size := by
  obtain ⟨rv3, hw3, hk3, hn3⟩ := hwr
  have hfoot := h.wt.foot
  have hblk := hown.lt
  refine ⟨rv3, ⟨hw3, (BtAt.of_owns hown).kept hk3 (fun k hk hf => ?_), fun i hi hf => ?_, hk3.below_of (h.bel.trans (hb2.mono ?_)) (fun k hk => ?_) ?_⟩, hw3.lt⟩
  · have := (hblk k hk).1; have := (hfoot k hf).2; omega
  · have h1 := hblk i hi
    rcases hf with rfl | hf
    · have := h.wt.lt; omega
    · rcases hn3 i hf with h2 | h2
      · have := (hfoot i (Or.inr h2)).2; omega
      · omega
  · have := h.wt.lt; omega
  · have := (hfoot k hk).1; omega
  · have := h.wt.lt; have := hb2.size; omega

end Go.Proofs.YtlonnoapbfjomabGreat
