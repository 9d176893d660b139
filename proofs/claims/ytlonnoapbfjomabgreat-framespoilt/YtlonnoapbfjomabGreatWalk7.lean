/- Same at like bytes; the document's example. -/
import Derived.Test.YtlonnoapbfjomabGreatWalk6
namespace Go.Proofs.YtlonnoapbfjomabGreat
set_option linter.unusedVariables false
set_option linter.unusedSimpArgs false
open Go.RowKit Dg

theorem newWriter_any (w : World) :
    Calls Tryz.prog 49 #[] w fun e w' => e = .returned (.pointer (some ⟨w.heap.size, 0, none⟩)) ∧ WrAt w' w.heap.size (.slice none 0 0) [] ∧ Below w.heap.size w w' ∧ w.heap.size < w'.heap.size := by
  refine (newWriter_raw w).mono ?_
  rintro e w' ⟨rfl, rfl⟩
  exact ⟨rfl, ⟨heap_alloc_new w _, World.ownsRow_nil _ _ _ _⟩, (Below.refl _ _).alloc (Nat.le_refl _) _, by simp⟩

theorem len_any (w : World) (b : Nat) (rv : Value) (ds : List Bool) (h : WrAt w b rv ds) :
    Calls Tryz.prog 28 #[.pointer (some ⟨b, 0, none⟩)] w fun e w' => e = .returned (.int .i64 (ds.length : Int)) ∧ w = w' :=
  (len_raw w b _ (by simp [World.cell?, h.box])).mono fun e w' ⟨h1, h2⟩ => ⟨h1, h2.symm⟩

/-- A change of a writer that lies from B on turns nothing below B. -/
theorem Kept.below_of {F : Nat → Prop} {B : Nat} {w0 w w' : World} (hk : Kept F w w') (h0 : Below B w0 w) (hF : ∀ k, F k → B ≤ k) (hB : B ≤ w.heap.size) : Below B w0 w' :=
  h0.trans ⟨hk.os, hk.tape, hk.output, hk.size, fun k hk' => hk.block k (by omega) (fun hf => by have := hF k hf; omega)⟩

theorem below_drewN {B : Nat} {w0 w : World} (h : Below B w0 w) (n : Nat) : Below B w0 (w.drewN n) := ⟨h.os, h.tape, h.output, h.size, h.block⟩

theorem wakes_l {w2 w3 : World} {l : List Nat} (h : NewBytes w2 w3 l) (o : Obj) : SlAt (w3.alloc o) (.slice (some ⟨w2.heap.size, 0, none⟩) l.length l.length) l :=
  SlAt.of_owns (h.1.alloc o)
theorem wakes_r (w3 : World) (l : List Nat) (h : l = [80]) : SlAt (w3.alloc (.cells #[.int .u8 80] 5)) (.slice (some ⟨w3.heap.size, 0, none⟩) 1 1) l := by
  subst h
  refine ⟨some ⟨w3.heap.size, 0, none⟩, 1, rfl, fun j x hx => ⟨w3.heap.size, 0, rfl, ?_⟩⟩
  match j, hx with
  | 0, hx => simp at hx; subst hx; simp

end Go.Proofs.YtlonnoapbfjomabGreat
