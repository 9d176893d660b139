/- Same at like bytes; the document's example. -/
import Derived.Test.YtkloocfceghddaaWalk6
namespace Go.Proofs.Ytkloocfceghddaa
set_option linter.unusedVariables false
set_option linter.unusedSimpArgs false
open Go.RowKit Dg

set_option maxHeartbeats 1000000 in
theorem same_any (w : World) (v1 v2 : Value) (l : List Nat) (h1 : SlAt w v1 l) (h2 : SlAt w v2 l) (hl : l.length ≤ 4398046511104) :
    Calls Try.prog 15 #[v1, v2] w fun e w' => e = .returned (.bool true) ∧ ∃ n, w' = w.drewN n := by
  obtain ⟨a1, c1, rfl, hc1⟩ := h1
  obtain ⟨a2, c2, rfl, hc2⟩ := h2
  have H1 : Hid (∀ j x, l[j]? = some x → ∃ b off, a1 = some ⟨b, off, none⟩ ∧ w.cell? ⟨b, off + j, none⟩ = some (.int .u8 ((x : Nat) : Int))) := hc1
  have H2 : Hid (∀ j x, l[j]? = some x → ∃ b off, a2 = some ⟨b, off, none⟩ ∧ w.cell? ⟨b, off + j, none⟩ = some (.int .u8 ((x : Nat) : Int))) := hc2
  clear hc1 hc2
  go_enter Try.func15, Try.ntmps15
  go_wp2
  go_loopw [5] (fun i wr => ∃ k m : Nat, k ≤ l.length ∧ i = .int .i64 k ∧ wr = w.drewN m) (fun i _ => l.length - (intOf i).toNat)
  case atStart => exact ⟨0, 0, Nat.zero_le _, rfl, rfl⟩
  case round =>
    obtain ⟨k, m, hk, rfl, rfl⟩ := hrel
    by_cases hkn : k < l.length
    · obtain ⟨b1, o1, rfl, e1⟩ := H1.out k l[k] (by simp [hkn])
      obtain ⟨b2, o2, rfl, e2⟩ := H2.out k l[k] (by simp [hkn])
      obtain ⟨x, hx⟩ : ∃ x : Nat, x = l[k] := ⟨_, rfl⟩
      rw [← hx] at e1 e2
      clear hx H1 H2
      go_wp2
      go_region
      all_goals go_wp2
      all_goals go_roundw
      case rel => exact ⟨k + 1, m + 1, by omega, by go_num, rfl⟩
      case measure => simp [intOf]; omega
    · go_wp2
      go_ret
      exact ⟨rfl, m, rfl⟩

theorem newWriter_any (w : World) :
    Calls Try.prog 10 #[] w fun e w' => e = .returned (.pointer (some ⟨w.heap.size, 0, none⟩)) ∧ WrAt w' w.heap.size (.slice none 0 0) [] ∧ Below w.heap.size w w' ∧ w.heap.size < w'.heap.size := by
  refine (newWriter_raw w).mono ?_
  rintro e w' ⟨rfl, rfl⟩
  exact ⟨rfl, ⟨heap_alloc_new w _, World.ownsRow_nil _ _ _ _⟩, (Below.refl _ _).alloc (Nat.le_refl _) _, by simp⟩

theorem len_any (w : World) (b : Nat) (rv : Value) (ds : List Bool) (h : WrAt w b rv ds) :
    Calls Try.prog 18 #[.pointer (some ⟨b, 0, none⟩)] w fun e w' => e = .returned (.int .i64 (ds.length : Int)) ∧ w = w' :=
  (len_raw w b _ (by simp [World.cell?, h.box])).mono fun e w' ⟨h1, h2⟩ => ⟨h1, h2.symm⟩

/-- A change of a writer that lies from B on turns nothing below B. -/
theorem Kept.below_of {F : Nat → Prop} {B : Nat} {w0 w w' : World} (hk : Kept F w w') (h0 : Below B w0 w) (hF : ∀ k, F k → B ≤ k) (hB : B ≤ w.heap.size) : Below B w0 w' :=
  h0.trans ⟨hk.os, hk.tape, hk.output, hk.size, fun k hk' => hk.block k (by omega) (fun hf => by have := hF k hf; omega)⟩

theorem below_drewN {B : Nat} {w0 w : World} (h : Below B w0 w) (n : Nat) : Below B w0 (w.drewN n) := ⟨h.os, h.tape, h.output, h.size, h.block⟩

theorem wakes_l {w2 w3 : World} {l : List Nat} (h : NewBytes w2 w3 l) (o : Obj) : SlAt (w3.alloc o) (.slice (some ⟨w2.heap.size, 0, none⟩) l.length l.length) l :=
  SlAt.of_owns (h.1.alloc o)
theorem wakes_r (w3 : World) (l : List Nat) (h : l = [80]) : SlAt (w3.alloc (.cells #[.int .u8 80] 5)) (.slice (some ⟨w3.heap.size, 0, none⟩) 1 1) l := by
  subst h
  refine ⟨some ⟨w3.heap.size, 0, none⟩, 1, rfl, fun j x hx => ⟨w3.heap.size, 0, rfl, ?_⟩⟩
  match j, hx with
  | 0, hx => simp at hx; subst hx; simp

set_option maxHeartbeats 1000000 in
theorem wakes_any (w : World) :
    Calls Try.prog 16 #[] w fun e w' => e = .returned (.bool true) ∧ Below w.heap.size w w' := by
  obtain ⟨l, hl⟩ : ∃ l, l = pack ([] ++ dig 5 4) := ⟨_, rfl⟩
  have hl80 : l = [80] := by rw [hl]; decide
  have HL : Hid (l = pack ([] ++ dig 5 4)) := hl
  have HL8 : Hid (l = [80]) := hl80
  clear hl hl80
  go_enter Try.func16, Try.ntmps16
  go_wp2_with (first
    | (go_at_call 10; refine (newWriter_any w).mono ?_; rintro e w1 ⟨rfl, hw1, hb1, hs1⟩; have HW1 : Hid (WrAt w1 w.heap.size (.slice none 0 0) []) := hw1; have HB1 : Hid (Below w.heap.size w w1) := hb1; clear hw1 hb1)
    | (go_at_call 11; refine (put_any _ _ _ [] 5 4 HW1.out (by decide) (by decide)).mono ?_; rintro e w2 ⟨rfl, hw2⟩; obtain ⟨rv2, hw2, hk2, hn2⟩ := hw2; have HW2 : Hid (WrAt w2 w.heap.size rv2 ([] ++ dig 5 4)) := hw2; have HB2 : Hid (Below w.heap.size w w2) := hk2.below_of HB1.out (fun k hk => (HW1.out.foot k hk).1) (by omega); have hs2 : w.heap.size < w2.heap.size := Nat.lt_of_lt_of_le hs1 hk2.size; clear hw2 hk2 hn2)
    | (go_at_call 18; refine (len_any _ _ _ _ HW2.out).mono ?_; rintro e w3 ⟨rfl, rfl⟩)
    | (go_at_call 13; refine (bytes_any _ _ _ _ l HL.out HW2.out (by decide)).mono ?_; rintro e w3 ⟨rfl, hn3⟩; have HN3 : Hid (NewBytes w2 w3 l) := hn3; clear hn3)
    | (go_at_call 15; refine (same_any (w3.alloc (.cells #[.int .u8 80] 5)) _ _ l (wakes_l HN3.out _) (wakes_r w3 l HL8.out) (by rw [HL8.out]; decide)).mono ?_; rintro e w4 ⟨rfl, n4, rfl⟩))
  go_ret
  refine ⟨rfl, below_drewN (Below.alloc (HB2.out.trans (HN3.out.2.mono (by omega))) ?_ _) _⟩
  have := HN3.out.2.size
  omega

end Go.Proofs.Ytkloocfceghddaa
