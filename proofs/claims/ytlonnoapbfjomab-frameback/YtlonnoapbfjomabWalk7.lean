/- Same at like bytes; the document's example. -/
import Derived.Test.YtlonnoapbfjomabWalk6
namespace Go.Proofs.Ytlonnoapbfjomab
set_option linter.unusedVariables false
set_option linter.unusedSimpArgs false
open Go.RowKit Dg

set_option maxHeartbeats 1000000 in
theorem same_any (w : World) (v1 v2 : Value) (l : List Nat) (h1 : SlAt w v1 l) (h2 : SlAt w v2 l) (hl : l.length ≤ 4398046511104) :
    Calls Try.prog 16 #[v1, v2] w fun e w' => e = .returned (.bool true) ∧ ∃ n, w' = w.drewN n := by
  obtain ⟨a1, c1, rfl, hc1⟩ := h1
  obtain ⟨a2, c2, rfl, hc2⟩ := h2
  have H1 : Hid (∀ j x, l[j]? = some x → ∃ b off, a1 = some ⟨b, off, none⟩ ∧ w.cell? ⟨b, off + j, none⟩ = some (.int .u8 ((x : Nat) : Int))) := hc1
  have H2 : Hid (∀ j x, l[j]? = some x → ∃ b off, a2 = some ⟨b, off, none⟩ ∧ w.cell? ⟨b, off + j, none⟩ = some (.int .u8 ((x : Nat) : Int))) := hc2
  clear hc1 hc2
  go_enter Try.func16, Try.ntmps16
  go_wp2
  go_loopw [5] (fun i wr => ∃ k m : Nat, k ≤ l.length ∧ i = .int .i64 k ∧ wr = w.drewN m) (fun i _ => l.length - (intOf i).toNat)
  case atStart => exact ⟨0, 0, Nat.zero_le _, rfl, rfl⟩
  case round =>
    obtain ⟨k, m, hk, rfl, rfl⟩ := hrel
    by_cases hkn : k < l.length
    · obtain ⟨b1, o1, rfl, e1⟩ := H1.out k l[k] (by simp [hkn])
      obtain ⟨b2, o2, rfl, e2⟩ := H2.out k l[k] (by simp [hkn])
      obtain ⟨x, hx⟩ : ∃ x : Nat, x = l[k] := ⟨_, rfl⟩
      rw [← hx] at e1 e2
      clear hx H1 H2
      go_wp2
      go_region
      all_goals go_wp2
      all_goals go_roundw
      case rel => exact ⟨k + 1, m + 1, by omega, by go_num, rfl⟩
      case measure => simp [intOf]; omega
    · go_wp2
      go_ret
      exact ⟨rfl, m, rfl⟩

theorem newWriter_any (w : World) :
    Calls Try.prog 51 #[] w fun e w' => e = .returned (.pointer (some ⟨w.heap.size, 0, none⟩)) ∧ WrAt w' w.heap.size (.slice none 0 0) [] ∧ Below w.heap.size w w' ∧ w.heap.size < w'.heap.size := by
  refine (newWriter_raw w).mono ?_
  rintro e w' ⟨rfl, rfl⟩
  exact ⟨rfl, ⟨heap_alloc_new w _, World.ownsRow_nil _ _ _ _⟩, (Below.refl _ _).alloc (Nat.le_refl _) _, by simp⟩

theorem len_any (w : World) (b : Nat) (rv : Value) (ds : List Bool) (h : WrAt w b rv ds) :
    Calls Try.prog 32 #[.pointer (some ⟨b, 0, none⟩)] w fun e w' => e = .returned (.int .i64 (ds.length : Int)) ∧ w = w' :=
  (len_raw w b _ (by simp [World.cell?, h.box])).mono fun e w' ⟨h1, h2⟩ => ⟨h1, h2.symm⟩

/-- A change of a writer that lies from B on turns nothing below B. -/
theorem Kept.below_of {F : Nat → Prop} {B : Nat} {w0 w w' : World} (hk : Kept F w w') (h0 : Below B w0 w) (hF : ∀ k, F k → B ≤ k) (hB : B ≤ w.heap.size) : Below B w0 w' :=
  h0.trans ⟨hk.os, hk.tape, hk.output, hk.size, fun k hk' => hk.block k (by omega) (fun hf => by have := hF k hf; omega)⟩

theorem below_drewN {B : Nat} {w0 w : World} (h : Below B w0 w) (n : Nat) : Below B w0 (w.drewN n) := ⟨h.os, h.tape, h.output, h.size, h.block⟩

theorem wakes_l {w2 w3 : World} {l : List Nat} (h : NewBytes w2 w3 l) (o : Obj) : SlAt (w3.alloc o) (.slice (some ⟨w2.heap.size, 0, none⟩) l.length l.length) l :=
  SlAt.of_owns (h.1.alloc o)
theorem wakes_r (w3 : World) (l : List Nat) (h : l = [80]) : SlAt (w3.alloc (.cells #[.int .u8 80] 5)) (.slice (some ⟨w3.heap.size, 0, none⟩) 1 1) l := by
  subst h
  refine ⟨some ⟨w3.heap.size, 0, none⟩, 1, rfl, fun j x hx => ⟨w3.heap.size, 0, rfl, ?_⟩⟩
  match j, hx with
  | 0, hx => simp at hx; subst hx; simp

end Go.Proofs.Ytlonnoapbfjomab
