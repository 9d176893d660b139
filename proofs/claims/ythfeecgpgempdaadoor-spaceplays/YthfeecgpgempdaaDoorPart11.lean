/- The texts SpRp, SpActs, SpPlay, one behind the other. -/
import Derived.Test.YthfeecgpgempdaaDoorPart10
import Derived.Test.YthfeecgpgempdaaDoorPart04
import Derived.Test.YthfeecgpgempdaaDoorPart01
import Derived.Deep.Grids
import Derived.Deep.CutRange
import Derived.BigQuiet
import Derived.Deep.RegionHeld
import Derived.Deep.CutBlock

/- The document's space over its blocks; a space of the program's and one of the document's beside each other. -/
namespace Go.Proofs.YthfeecgpgempdaaDoor
set_option linter.unusedVariables false
set_option linter.unusedSimpArgs false
open Go.RowKit Dg

def Rp (w : World) (r : Nat) (G : Nat → Prop) (s : Sd) : Prop := ∃ gc gv cc cv, RsIs w r gc gv cc cv s ∧ s.Fine ∧ ∀ k, G k ↔ k = r ∨ k = gc ∨ k = gv
theorem rpMem : SpMem Rp where
  lt := fun ⟨gc, gv, cc, cv, h, hf, hG⟩ k hk => by
    have := h.lt
    rcases (hG k).1 hk with rfl | rfl | rfl
    · exact this.1
    · exact this.2.1
    · exact this.2.2
  keep := fun ⟨gc, gv, cc, cv, h, hf, hG⟩ hk hX => ⟨gc, gv, cc, cv, h.kept hk (hX _ ((hG _).2 (.inl rfl))) (hX _ ((hG _).2 (.inr (.inl rfl)))) (hX _ ((hG _).2 (.inr (.inr rfl)))), hf, hG⟩
  fine := fun ⟨gc, gv, cc, cv, h, hf, hG⟩ => hf
theorem RsIs.to {w w' : World} {r gc gv gc2 gv2 cc2 cv2 : Nat} {G X : Nat → Prop} {s2 : Sd} (h : RsIs w' r gc2 gv2 cc2 cv2 s2) (hf : s2.Fine) (hG : ∀ k, G k ↔ k = r ∨ k = gc ∨ k = gv) (h1 : gc2 = gc ∨ w.heap.size ≤ gc2) (h2 : gv2 = gv ∨ w.heap.size ≤ gv2) (hk : Kept X w w') (hX : ∀ k, X k → k = r ∨ k = gc ∨ k = gv) : SpTo Rp w w' r G s2 :=
  ⟨fun k => k = r ∨ k = gc2 ∨ k = gv2, ⟨gc2, gv2, cc2, cv2, h, hf, fun k => Iff.rfl⟩, hk.mono fun k _ e => (hG k).2 (hX k e), fun k e => by
    rcases e with rfl | rfl | rfl
    · exact .inl ((hG _).2 (.inl rfl))
    · rcases h1 with rfl | h1
      · exact .inl ((hG _).2 (.inr (.inl rfl)))
      · exact .inr h1
    · rcases h2 with rfl | h2
      · exact .inl ((hG _).2 (.inr (.inr rfl)))
      · exact .inr h2⟩
theorem rp_take (w : World) (r : Nat) (G : Nat → Prop) (s : Sd) (h : Rp w r G s) :
    Calls Tryd.prog 40 #[.pointer (some ⟨r, 0, none⟩)] w fun e w' => e = .returned (.tuple #[.int .i64 s.takeR.1, .int .i64 s.takeR.2]) ∧ SpTo Rp w w' r G s.takeS := by
  obtain ⟨gc, gv, cc, cv, h, hf, hG⟩ := h
  exact (rstake_any w r gc gv cc cv s h hf s.takeR.1 s.takeR.2 rfl _ rfl).mono fun e w' ⟨e1, e2, e3⟩ => ⟨e1, e2.to hf.taken hG (.inl rfl) (.inl rfl) e3 (fun k e => .inr (.inl e))⟩
theorem rp_drop (w : World) (r : Nat) (G : Nat → Prop) (s : Sd) (i : Int) (h : Rp w r G s) (hi : I64 i) (hC : sumC s.C ≤ 1000000) :
    Calls Tryd.prog 35 #[.pointer (some ⟨r, 0, none⟩), .int .i64 i] w fun e w' => e = .returned (.bool (decide (0 < s.of i))) ∧ SpTo Rp w w' r G (s.lessS i) := by
  obtain ⟨gc, gv, cc, cv, h, hf, hG⟩ := h
  exact (rsdrop_any w r gc gv cc cv s h i hi hC _ rfl _ rfl).mono fun e w' ⟨e1, e2, e3⟩ => ⟨e1, e2.to (hf.lessened i) hG (.inl rfl) (.inl rfl) e3 (fun k e => .inr e)⟩
theorem rp_share (w : World) (r : Nat) (G : Nat → Prop) (s : Sd) (i : Int) (h : Rp w r G s) (hi : I64 i) (hC : sumC s.C ≤ 1000000) :
    Calls Tryd.prog 36 #[.pointer (some ⟨r, 0, none⟩), .int .i64 i] w fun e w' => e = .returned (.bool (decide (0 < s.of i))) ∧ SpTo Rp w w' r G (s.shareS i) := by
  obtain ⟨gc, gv, cc, cv, h, hf, hG⟩ := h
  exact (rsshare_any w r gc gv cc cv s h i hi hC _ rfl _ rfl).mono fun e w' ⟨e1, e2, e3⟩ => ⟨e1, e2.to (hf.shared i) hG (.inl rfl) (.inl rfl) e3 (fun k e => .inr (.inl e))⟩
theorem rp_commit (w : World) (r : Nat) (G : Nat → Prop) (s : Sd) (h : Rp w r G s) :
    Calls Tryd.prog 37 #[.pointer (some ⟨r, 0, none⟩)] w fun e w' => e = .returned (.int .i64 (s.waits.length : Nat)) ∧ SpTo Rp w w' r G s.commitS := by
  obtain ⟨gc, gv, cc, cv, h, hf, hG⟩ := h
  exact (rscommit_any w r gc gv cc cv s h hf _ rfl _ rfl).mono fun e w' ⟨e1, ⟨g, e2, e4⟩, e3⟩ => ⟨e1, e2.to hf.committed hG (.inl rfl) (.inr e4) e3 (fun k e => .inl e)⟩
theorem rp_keep (w : World) (r : Nat) (G : Nat → Prop) (s : Sd) (a : Option Addr) (n cap : Nat) (l : List Int) (h : Rp w r G s) (ha : IntsAt w a l) (hl : l.length = n) (hn : n ≤ 100000) (h64 : ∀ x ∈ l, I64 x) (hX : l ≠ [] → ∀ y, a = some y → ¬ G y.block) :
    Calls Tryd.prog 39 #[.pointer (some ⟨r, 0, none⟩), .slice a n cap] w fun e w' => e = .returned (.bool (s.keepOk l)) ∧ SpTo Rp w w' r G (s.keepS l) := by
  obtain ⟨gc, gv, cc, cv, h, hf, hG⟩ := h
  exact (rskeep_any w r gc gv cc cv s h hf a n cap l ha hl hn h64 (fun hne y hy e => hX hne y hy ((hG _).2 (.inl e))) _ rfl _ rfl).mono fun e w' ⟨e1, ⟨gc2, gv2, cc2, cv2, e2, e4, e5⟩, e3⟩ => ⟨e1, e2.to (hf.keptS l) hG e4 e5 e3 (fun k e => .inl e)⟩
theorem rp_free (w : World) (r : Nat) (G : Nat → Prop) (s : Sd) (h : Rp w r G s) :
    Calls Tryd.prog 41 #[.pointer (some ⟨r, 0, none⟩)] w fun e w' => e = .returned (.int .i64 (s.free : Nat)) ∧ Below w.heap.size w w' := by
  obtain ⟨gc, gv, cc, cv, h, hf, hG⟩ := h
  exact (rsfree_any w r gc gv cc cv s h hf _ rfl).mono fun e w' ⟨e1, e2⟩ => ⟨e1, e2 ▸ Below.refl _ _⟩
theorem rp_used (w : World) (r : Nat) (G : Nat → Prop) (s : Sd) (i : Int) (h : Rp w r G s) (hi : I64 i) :
    Calls Tryd.prog 43 #[.pointer (some ⟨r, 0, none⟩), .int .i64 i] w fun e w' => e = .returned (.bool (s.uZ i)) ∧ Below w.heap.size w w' := by
  obtain ⟨gc, gv, cc, cv, h, hf, hG⟩ := h
  exact (rsused_any w r gc gv cc cv s h i hi _ rfl).mono fun e w' ⟨e1, e2⟩ => ⟨e1, e2 ▸ Below.refl _ _⟩
theorem rp_of (w : World) (r : Nat) (G : Nat → Prop) (s : Sd) (i : Int) (h : Rp w r G s) (hi : I64 i) :
    Calls Tryd.prog 44 #[.pointer (some ⟨r, 0, none⟩), .int .i64 i] w fun e w' => e = .returned (.int .i64 (s.of i : Nat)) ∧ Below w.heap.size w w' := by
  obtain ⟨gc, gv, cc, cv, h, hf, hG⟩ := h
  exact (rsof_any w r gc gv cc cv s h i hi _ rfl).mono fun e w' ⟨e1, e2⟩ => ⟨e1, e2 ▸ Below.refl _ _⟩
theorem rp_waits (w : World) (r : Nat) (G : Nat → Prop) (s : Sd) (h : Rp w r G s) :
    Calls Tryd.prog 42 #[.pointer (some ⟨r, 0, none⟩)] w fun e w' => ∃ v, e = .returned v ∧ OwnInts w' w.heap.size v s.waits ∧ Below w.heap.size w w' := by
  obtain ⟨gc, gv, cc, cv, h, hf, hG⟩ := h
  exact rswait_any w r gc gv cc cv s h hf
theorem rp_new (w : World) (n f : Nat) (h1 : 1 ≤ n) (h2 : n ≤ 4096) (h3 : f ≤ n) :
    Calls Tryd.prog 22 #[.int .i64 (n : Int), .int .i64 (f : Int)] w fun e w' => ∃ r G, e = .returned (.tuple #[.pointer (some ⟨r, 0, none⟩), .bool true]) ∧ Rp w' r G (newSd n f) ∧ (∀ k, G k → w.heap.size ≤ k) ∧ Below w.heap.size w w' :=
  (rsnew_any w n f h1 h2 h3).mono fun e w' ⟨r, gc, gv, e1, e2, e3, e4, e5, e6⟩ => ⟨r, _, e1, ⟨gc, gv, n, n, e2, newSd_fine h1 h2 h3, fun k => Iff.rfl⟩, fun k e => by rcases e with rfl | rfl | rfl <;> assumption, e6⟩
theorem rp_copy (w : World) (r : Nat) (G : Nat → Prop) (s : Sd) (h : Rp w r G s) :
    Calls Tryd.prog 25 #[.pointer (some ⟨r, 0, none⟩)] w fun e w' => ∃ r' G', e = .returned (.pointer (some ⟨r', 0, none⟩)) ∧ Rp w' r' G' s ∧ (∀ k, G' k → w.heap.size ≤ k) ∧ Below w.heap.size w w' := by
  obtain ⟨gc, gv, cc, cv, h, hf, hG⟩ := h
  exact (rscopy_any w r gc gv cc cv s h hf).mono fun e w' ⟨r, gc, gv, cc, cv, e1, e2, e3, e4, e5, e6⟩ => ⟨r, _, e1, ⟨gc, gv, cc, cv, e2, hf, fun k => Iff.rfl⟩, fun k e => by rcases e with rfl | rfl | rfl <;> assumption, e6⟩
theorem rp_n (w : World) (r : Nat) (G : Nat → Prop) (s : Sd) (h : Rp w r G s) : w.cell? ⟨r, 0, none⟩ = some (.int .i64 (s.N : Int)) := by
  obtain ⟨gc, gv, cc, cv, h, hf, hG⟩ := h
  exact h.cell.1

/-- The program's space b and the document's r, made behind W; the blocks X, too, are none of theirs. -/
structure Sq (Si : SpP) (Ok : World → Prop) (W : World) (X : Nat → Prop) (w : World) (b r : Nat) (s t : Sd) : Prop where
  ok : Ok W
  kept : Kept (fun k => W.heap.size ≤ k) W w
  at_ : ∃ F G : Nat → Prop, Si w b F s ∧ Rp w r G t ∧ (∀ k, F k → ¬ G k) ∧ ∀ k, (k < W.heap.size ∨ X k) → (¬ F k ∧ ¬ G k) ∧ k < w.heap.size
theorem Sq.okw {Si : SpP} {Ok : World → Prop} (S : Spc Si Ok) {W w : World} {X : Nat → Prop} {b r : Nat} {s t : Sd} (h : Sq Si Ok W X w b r s t) : Ok w := S.okK h.ok h.kept
theorem Sq.fine {Si : SpP} {Ok : World → Prop} (S : Spc Si Ok) {W w : World} {X : Nat → Prop} {b r : Nat} {s t : Sd} (h : Sq Si Ok W X w b r s t) : s.Fine ∧ t.Fine := by
  obtain ⟨F, G, h1, h2, -⟩ := h.at_
  exact ⟨S.mem.fine h1, rpMem.fine h2⟩
/-- A step that turns none of theirs. -/
theorem Sq.keep {Si : SpP} {Ok : World → Prop} (S : Spc Si Ok) {W w w' : World} {X Y : Nat → Prop} {b r : Nat} {s t : Sd} (h : Sq Si Ok W X w b r s t) (hk : Kept (fun k => (X k ∧ W.heap.size ≤ k) ∨ w.heap.size ≤ k) w w') (hY : ∀ k, Y k → X k ∨ (w.heap.size ≤ k ∧ k < w'.heap.size)) : Sq Si Ok W Y w' b r s t := by
  obtain ⟨F, G, h1, h2, h3, h4⟩ := h.at_
  have a1 := S.mem.lt h1
  have a2 := rpMem.lt h2
  have hsz := h.kept.size
  refine ⟨h.ok, h.kept.trans (hk.mono fun k _ e => by rcases e with e | e; exact e.2; omega), F, G, S.mem.keep h1 hk (fun k e e2 => ?_), rpMem.keep h2 hk (fun k e e2 => ?_), h3, fun k e => ?_⟩
  · rcases e2 with e2 | e2
    · exact (h4 k (.inr e2.1)).1.1 e
    · have := a1 k e; omega
  · rcases e2 with e2 | e2
    · exact (h4 k (.inr e2.1)).1.2 e
    · have := a2 k e; omega
  · rcases e with e | e
    · exact ⟨(h4 k (.inl e)).1, Nat.lt_of_lt_of_le (h4 k (.inl e)).2 hk.size⟩
    · rcases hY k e with e1 | ⟨e1, e2⟩
      · exact ⟨(h4 k (.inr e1)).1, Nat.lt_of_lt_of_le (h4 k (.inr e1)).2 hk.size⟩
      · exact ⟨⟨fun f => by have := a1 k f; omega, fun f => by have := a2 k f; omega⟩, e2⟩
theorem Sq.newer {Si : SpP} {Ok : World → Prop} (S : Spc Si Ok) {W w w' : World} {X : Nat → Prop} {b r : Nat} {s t : Sd} (h : Sq Si Ok W X w b r s t) (hb : Below w.heap.size w w') : Sq Si Ok W X w' b r s t :=
  h.keep S ⟨hb.os, hb.tape, hb.output, hb.size, fun k hk hf => hb.block k (Nat.lt_of_not_le fun e => hf (.inr e))⟩ (fun k e => .inl e)
theorem Sq.draws {Si : SpP} {Ok : World → Prop} (S : Spc Si Ok) {W w : World} {X : Nat → Prop} {b r : Nat} {s t : Sd} (h : Sq Si Ok W X w b r s t) (n : Nat) : Sq Si Ok W X (w.drewN n) b r s t :=
  h.keep S ⟨rfl, rfl, rfl, Nat.le_refl _, fun _ _ _ => rfl⟩ (fun k e => .inl e)
theorem Sq.drew {Si : SpP} {Ok : World → Prop} (S : Spc Si Ok) {W w : World} {X : Nat → Prop} {b r : Nat} {s t : Sd} (h : Sq Si Ok W X w b r s t) : Sq Si Ok W X w.drew b r s t :=
  h.keep S (Kept.refl _ _).drew (fun k e => .inl e)
theorem Sq.alloc {Si : SpP} {Ok : World → Prop} (S : Spc Si Ok) {W w : World} {X : Nat → Prop} {b r : Nat} {s t : Sd} (h : Sq Si Ok W X w b r s t) (o : Obj) : Sq Si Ok W (fun k => X k ∨ k = w.heap.size) (w.alloc o) b r s t :=
  h.keep S (Kept.alloc _ _ _) (fun k e => by
    rcases e with e | e
    · exact .inl e
    · exact .inr ⟨by omega, by simp; omega⟩)
theorem Sq.less {Si : SpP} {Ok : World → Prop} {W w : World} {X Y : Nat → Prop} {b r : Nat} {s t : Sd} (h : Sq Si Ok W X w b r s t) (hY : ∀ k, Y k → X k) : Sq Si Ok W Y w b r s t := by
  obtain ⟨F, G, h1, h2, h3, h4⟩ := h.at_
  exact ⟨h.ok, h.kept, F, G, h1, h2, h3, fun k e => h4 k (e.imp id (hY k))⟩
theorem Sq.n {Si : SpP} {Ok : World → Prop} {W w : World} {X : Nat → Prop} {b r : Nat} {s t : Sd} (h : Sq Si Ok W X w b r s t) : w.cell? ⟨r, 0, none⟩ = some (.int .i64 (t.N : Int)) := by
  obtain ⟨F, G, h1, h2, -⟩ := h.at_
  exact rp_n _ _ _ _ h2
theorem Sq.left {Si : SpP} {Ok : World → Prop} (S : Spc Si Ok) {W w : World} {X : Nat → Prop} {b r f : Nat} {s t s' : Sd} {args : Array Value} {P : Ending → Prop} (h : Sq Si Ok W X w b r s t)
    (hc : ∀ F : Nat → Prop, Ok w → Si w b F s → (∀ k, (k < W.heap.size ∨ X k) → ¬ F k) → Calls Tryd.prog f args w fun e w' => P e ∧ SpTo Si w w' b F s') :
    Calls Tryd.prog f args w fun e w' => P e ∧ Sq Si Ok W X w' b r s' t ∧ Kept (fun k => ¬ (k < W.heap.size ∨ X k)) w w' := by
  obtain ⟨F, G, h1, h2, h3, h4⟩ := h.at_
  have a2 := rpMem.lt h2
  refine (hc F (h.okw S) h1 (fun k e => (h4 k e).1.1)).mono ?_
  rintro e w' ⟨hP, F', m1, m2, m4⟩
  have hk := m2.mono (G := fun k => ¬ (k < W.heap.size ∨ X k)) (fun i _ e e2 => (h4 i e2).1.1 e)
  refine ⟨hP, ⟨h.ok, h.kept.trans (hk.mono fun k _ e => Nat.le_of_not_lt fun e2 => e (.inl e2)), F', G, m1, rpMem.keep h2 m2 (fun k e f => h3 k f e), fun k e f => ?_, fun k e => ⟨⟨fun f => ?_, (h4 k e).1.2⟩, Nat.lt_of_lt_of_le (h4 k e).2 m2.size⟩⟩, hk⟩
  · rcases m4 k e with f1 | f1
    · exact h3 k f1 f
    · have := a2 k f; omega
  · rcases m4 k f with f1 | f1
    · exact (h4 k e).1.1 f1
    · have := (h4 k e).2; omega
theorem Sq.right {Si : SpP} {Ok : World → Prop} (S : Spc Si Ok) {W w : World} {X : Nat → Prop} {b r f : Nat} {s t t' : Sd} {args : Array Value} {P : Ending → Prop} (h : Sq Si Ok W X w b r s t)
    (hc : ∀ G : Nat → Prop, Rp w r G t → (∀ k, (k < W.heap.size ∨ X k) → ¬ G k) → Calls Tryd.prog f args w fun e w' => P e ∧ SpTo Rp w w' r G t') :
    Calls Tryd.prog f args w fun e w' => P e ∧ Sq Si Ok W X w' b r s t' ∧ Kept (fun k => ¬ (k < W.heap.size ∨ X k)) w w' := by
  obtain ⟨F, G, h1, h2, h3, h4⟩ := h.at_
  have a1 := S.mem.lt h1
  refine (hc G h2 (fun k e => (h4 k e).1.2)).mono ?_
  rintro e w' ⟨hP, G', m1, m2, m4⟩
  have hk := m2.mono (G := fun k => ¬ (k < W.heap.size ∨ X k)) (fun i _ e e2 => (h4 i e2).1.2 e)
  refine ⟨hP, ⟨h.ok, h.kept.trans (hk.mono fun k _ e => Nat.le_of_not_lt fun e2 => e (.inl e2)), F, G', S.mem.keep h1 m2 (fun k e f => h3 k e f), m1, fun k e f => ?_, fun k e => ⟨⟨(h4 k e).1.1, fun f => ?_⟩, Nat.lt_of_lt_of_le (h4 k e).2 m2.size⟩⟩, hk⟩
  · rcases m4 k f with f1 | f1
    · exact h3 k e f1
    · have := a1 k e; omega
  · rcases m4 k f with f1 | f1
    · exact (h4 k e).1.2 f1
    · have := (h4 k e).2; omega
theorem Sq.lookL {Si : SpP} {Ok : World → Prop} (S : Spc Si Ok) {W w : World} {X : Nat → Prop} {b r f : Nat} {s t : Sd} {args : Array Value} {P : Ending → Prop} (h : Sq Si Ok W X w b r s t)
    (hc : ∀ F : Nat → Prop, Ok w → Si w b F s → Calls Tryd.prog f args w fun e w' => P e ∧ Below w.heap.size w w') :
    Calls Tryd.prog f args w fun e w' => P e ∧ Sq Si Ok W X w' b r s t ∧ Below w.heap.size w w' := by
  obtain ⟨F, G, h1, h2, h3, h4⟩ := h.at_
  exact (hc F (h.okw S) h1).mono fun e w' ⟨hP, hb⟩ => ⟨hP, h.newer S hb, hb⟩
theorem Sq.lookR {Si : SpP} {Ok : World → Prop} (S : Spc Si Ok) {W w : World} {X : Nat → Prop} {b r f : Nat} {s t : Sd} {args : Array Value} {P : Ending → Prop} (h : Sq Si Ok W X w b r s t)
    (hc : ∀ G : Nat → Prop, Rp w r G t → Calls Tryd.prog f args w fun e w' => P e ∧ Below w.heap.size w w') :
    Calls Tryd.prog f args w fun e w' => P e ∧ Sq Si Ok W X w' b r s t ∧ Below w.heap.size w w' := by
  obtain ⟨F, G, h1, h2, h3, h4⟩ := h.at_
  exact (hc G h2).mono fun e w' ⟨hP, hb⟩ => ⟨hP, h.newer S hb, hb⟩

/-- The calls of both, one by one. -/
theorem sq_take_l {Si : SpP} {Ok : World → Prop} (S : Spc Si Ok) {W w : World} {X : Nat → Prop} {b r : Nat} {s t : Sd} (h : Sq Si Ok W X w b r s t) (hC : sumC s.C ≤ 1000000) (i f : Int) (hr : s.takeR = (i, f)) (s2 : Sd) (hs : s2 = s.takeS) :
    Calls Tryd.prog 10 #[.pointer (some ⟨b, 0, none⟩)] w fun e w' => e = .returned (.tuple #[.int .i64 i, .int .i64 f]) ∧ Sq Si Ok W X w' b r s2 t ∧ Kept (fun k => ¬ (k < W.heap.size ∨ X k)) w w' := by
  subst hs
  have e := h.left S (P := fun e => e = .returned (.tuple #[.int .i64 s.takeR.1, .int .i64 s.takeR.2])) (fun F ho hT hXF => S.takeB w b F s ho hT hC)
  rw [hr] at e
  exact e
theorem sq_take_r {Si : SpP} {Ok : World → Prop} (S : Spc Si Ok) {W w : World} {X : Nat → Prop} {b r : Nat} {s t : Sd} (h : Sq Si Ok W X w b r s t) (i f : Int) (hr : t.takeR = (i, f)) (t2 : Sd) (ht : t2 = t.takeS) :
    Calls Tryd.prog 40 #[.pointer (some ⟨r, 0, none⟩)] w fun e w' => e = .returned (.tuple #[.int .i64 i, .int .i64 f]) ∧ Sq Si Ok W X w' b r s t2 ∧ Kept (fun k => ¬ (k < W.heap.size ∨ X k)) w w' := by
  subst ht
  have e := h.right S (P := fun e => e = .returned (.tuple #[.int .i64 t.takeR.1, .int .i64 t.takeR.2])) (fun G hT hXF => rp_take w r G t hT)
  rw [hr] at e
  exact e
theorem sq_drop_l {Si : SpP} {Ok : World → Prop} (S : Spc Si Ok) {W w : World} {X : Nat → Prop} {b r : Nat} {s t : Sd} (h : Sq Si Ok W X w b r s t) (i : Int) (hi : I64 i) (hC : sumC s.C ≤ 1000000) (R : Bool) (hR : R = decide (0 < s.of i)) (s2 : Sd) (hs : s2 = s.lessS i) :
    Calls Tryd.prog 14 #[.pointer (some ⟨b, 0, none⟩), .int .i64 i] w fun e w' => e = .returned (.bool R) ∧ Sq Si Ok W X w' b r s2 t ∧ Kept (fun k => ¬ (k < W.heap.size ∨ X k)) w w' := by
  subst hs hR
  exact h.left S (P := fun e => e = .returned (.bool (decide (0 < s.of i)))) (fun F ho hT hXF => S.dropB w b F s i ho hT hi hC)
theorem sq_drop_r {Si : SpP} {Ok : World → Prop} (S : Spc Si Ok) {W w : World} {X : Nat → Prop} {b r : Nat} {s t : Sd} (h : Sq Si Ok W X w b r s t) (i : Int) (hi : I64 i) (hC : sumC t.C ≤ 1000000) (R : Bool) (hR : R = decide (0 < t.of i)) (t2 : Sd) (ht : t2 = t.lessS i) :
    Calls Tryd.prog 35 #[.pointer (some ⟨r, 0, none⟩), .int .i64 i] w fun e w' => e = .returned (.bool R) ∧ Sq Si Ok W X w' b r s t2 ∧ Kept (fun k => ¬ (k < W.heap.size ∨ X k)) w w' := by
  subst ht hR
  exact h.right S (P := fun e => e = .returned (.bool (decide (0 < t.of i)))) (fun G hT hXF => rp_drop w r G t i hT hi hC)
theorem sq_share_l {Si : SpP} {Ok : World → Prop} (S : Spc Si Ok) (H : SpShare Si Ok) {W w : World} {X : Nat → Prop} {b r : Nat} {s t : Sd} (h : Sq Si Ok W X w b r s t) (i : Int) (hi : I64 i) (hC : sumC s.C ≤ 1000000) (R : Bool) (hR : R = decide (0 < s.of i)) (s2 : Sd) (hs : s2 = s.shareS i) :
    Calls Tryd.prog 11 #[.pointer (some ⟨b, 0, none⟩), .int .i64 i] w fun e w' => e = .returned (.bool R) ∧ Sq Si Ok W X w' b r s2 t ∧ Kept (fun k => ¬ (k < W.heap.size ∨ X k)) w w' := by
  subst hs hR
  exact h.left S (P := fun e => e = .returned (.bool (decide (0 < s.of i)))) (fun F ho hT hXF => H w b F s i ho hT hi hC)
theorem sq_share_r {Si : SpP} {Ok : World → Prop} (S : Spc Si Ok) {W w : World} {X : Nat → Prop} {b r : Nat} {s t : Sd} (h : Sq Si Ok W X w b r s t) (i : Int) (hi : I64 i) (hC : sumC t.C ≤ 1000000) (R : Bool) (hR : R = decide (0 < t.of i)) (t2 : Sd) (ht : t2 = t.shareS i) :
    Calls Tryd.prog 36 #[.pointer (some ⟨r, 0, none⟩), .int .i64 i] w fun e w' => e = .returned (.bool R) ∧ Sq Si Ok W X w' b r s t2 ∧ Kept (fun k => ¬ (k < W.heap.size ∨ X k)) w w' := by
  subst ht hR
  exact h.right S (P := fun e => e = .returned (.bool (decide (0 < t.of i)))) (fun G hT hXF => rp_share w r G t i hT hi hC)
theorem sq_commit_l {Si : SpP} {Ok : World → Prop} (S : Spc Si Ok) {W w : World} {X : Nat → Prop} {b r : Nat} {s t : Sd} (h : Sq Si Ok W X w b r s t) (hC : sumC s.C ≤ 1000000) (n : Int) (hn : n = (s.waits.length : Nat)) (s2 : Sd) (hs : s2 = s.commitS) :
    Calls Tryd.prog 18 #[.pointer (some ⟨b, 0, none⟩)] w fun e w' => e = .returned (.int .i64 n) ∧ Sq Si Ok W X w' b r s2 t ∧ Kept (fun k => ¬ (k < W.heap.size ∨ X k)) w w' := by
  subst hs hn
  exact h.left S (P := fun e => e = .returned (.int .i64 (s.waits.length : Nat))) (fun F ho hT hXF => S.commitB w b F s ho hT hC)
theorem sq_commit_r {Si : SpP} {Ok : World → Prop} (S : Spc Si Ok) {W w : World} {X : Nat → Prop} {b r : Nat} {s t : Sd} (h : Sq Si Ok W X w b r s t) (n : Int) (hn : n = (t.waits.length : Nat)) (t2 : Sd) (ht : t2 = t.commitS) :
    Calls Tryd.prog 37 #[.pointer (some ⟨r, 0, none⟩)] w fun e w' => e = .returned (.int .i64 n) ∧ Sq Si Ok W X w' b r s t2 ∧ Kept (fun k => ¬ (k < W.heap.size ∨ X k)) w w' := by
  subst ht hn
  exact h.right S (P := fun e => e = .returned (.int .i64 (t.waits.length : Nat))) (fun G hT hXF => rp_commit w r G t hT)
theorem sq_keep_l {Si : SpP} {Ok : World → Prop} (S : Spc Si Ok) (H : SpKeep Si Ok) {W w : World} {X : Nat → Prop} {b r : Nat} {s t : Sd} (h : Sq Si Ok W X w b r s t) (a : Option Addr) (n cap : Nat) (l : List Int) (ha : IntsAt w a l) (hl : l.length = n) (hn : n ≤ 100000) (h64 : ∀ x ∈ l, I64 x) (hX : l ≠ [] → ∀ y, a = some y → y.block < W.heap.size ∨ X y.block) (h0 : a = none → n = 0 ∧ cap = 0) (hc1 : n ≤ cap) (hc2 : cap ≤ maxLen) (hC : sumC s.C ≤ 1000000) (R : Bool) (hR : R = s.keepOk l) (s2 : Sd) (hs : s2 = s.keepS l) :
    Calls Tryd.prog 20 #[.pointer (some ⟨b, 0, none⟩), .slice a n cap] w fun e w' => e = .returned (.bool R) ∧ Sq Si Ok W X w' b r s2 t ∧ Kept (fun k => ¬ (k < W.heap.size ∨ X k)) w w' := by
  subst hs hR
  exact h.left S (P := fun e => e = .returned (.bool (s.keepOk l))) (fun F ho hT hXF => H w b F s a n cap l ho hT ha hl hn h64 (fun hne y hy => hXF _ (hX hne y hy)) h0 hc1 hc2 hC)
theorem sq_keep_r {Si : SpP} {Ok : World → Prop} (S : Spc Si Ok) {W w : World} {X : Nat → Prop} {b r : Nat} {s t : Sd} (h : Sq Si Ok W X w b r s t) (a : Option Addr) (n cap : Nat) (l : List Int) (ha : IntsAt w a l) (hl : l.length = n) (hn : n ≤ 100000) (h64 : ∀ x ∈ l, I64 x) (hX : l ≠ [] → ∀ y, a = some y → y.block < W.heap.size ∨ X y.block) (R : Bool) (hR : R = t.keepOk l) (t2 : Sd) (ht : t2 = t.keepS l) :
    Calls Tryd.prog 39 #[.pointer (some ⟨r, 0, none⟩), .slice a n cap] w fun e w' => e = .returned (.bool R) ∧ Sq Si Ok W X w' b r s t2 ∧ Kept (fun k => ¬ (k < W.heap.size ∨ X k)) w w' := by
  subst ht hR
  exact h.right S (P := fun e => e = .returned (.bool (t.keepOk l))) (fun G hT hXF => rp_keep w r G t a n cap l hT ha hl hn h64 (fun hne y hy => hXF _ (hX hne y hy)))
theorem sq_free_l {Si : SpP} {Ok : World → Prop} (S : Spc Si Ok) (H : SpFree Si Ok) {W w : World} {X : Nat → Prop} {b r : Nat} {s t : Sd} (h : Sq Si Ok W X w b r s t) (hC : sumC s.C ≤ 1000000) (n : Int) (hn : n = (s.free : Nat)) :
    Calls Tryd.prog 17 #[.pointer (some ⟨b, 0, none⟩)] w fun e w' => e = .returned (.int .i64 n) ∧ Sq Si Ok W X w' b r s t ∧ Below w.heap.size w w' := by
  subst hn
  exact h.lookL S (P := fun e => e = .returned (.int .i64 (s.free : Nat))) (fun F ho hT => H w b F s ho hT hC)
theorem sq_free_r {Si : SpP} {Ok : World → Prop} (S : Spc Si Ok) {W w : World} {X : Nat → Prop} {b r : Nat} {s t : Sd} (h : Sq Si Ok W X w b r s t) (n : Int) (hn : n = (t.free : Nat)) :
    Calls Tryd.prog 41 #[.pointer (some ⟨r, 0, none⟩)] w fun e w' => e = .returned (.int .i64 n) ∧ Sq Si Ok W X w' b r s t ∧ Below w.heap.size w w' := by
  subst hn
  exact h.lookR S (P := fun e => e = .returned (.int .i64 (t.free : Nat))) (fun G hT => rp_free w r G t hT)
theorem sq_used_l {Si : SpP} {Ok : World → Prop} (S : Spc Si Ok) (H : SpUsed Si Ok) {W w : World} {X : Nat → Prop} {b r : Nat} {s t : Sd} (h : Sq Si Ok W X w b r s t) (i : Int) (hi : I64 i) (hC : sumC s.C ≤ 1000000) (R : Bool) (hR : R = s.uZ i) :
    Calls Tryd.prog 16 #[.pointer (some ⟨b, 0, none⟩), .int .i64 i] w fun e w' => e = .returned (.bool R) ∧ Sq Si Ok W X w' b r s t ∧ Below w.heap.size w w' := by
  subst hR
  exact h.lookL S (P := fun e => e = .returned (.bool (s.uZ i))) (fun F ho hT => H w b F s i ho hT hi hC)
theorem sq_used_r {Si : SpP} {Ok : World → Prop} (S : Spc Si Ok) {W w : World} {X : Nat → Prop} {b r : Nat} {s t : Sd} (h : Sq Si Ok W X w b r s t) (i : Int) (hi : I64 i) (R : Bool) (hR : R = t.uZ i) :
    Calls Tryd.prog 43 #[.pointer (some ⟨r, 0, none⟩), .int .i64 i] w fun e w' => e = .returned (.bool R) ∧ Sq Si Ok W X w' b r s t ∧ Below w.heap.size w w' := by
  subst hR
  exact h.lookR S (P := fun e => e = .returned (.bool (t.uZ i))) (fun G hT => rp_used w r G t i hT hi)
theorem sq_of_l {Si : SpP} {Ok : World → Prop} (S : Spc Si Ok) (H : SpOf Si Ok) {W w : World} {X : Nat → Prop} {b r : Nat} {s t : Sd} (h : Sq Si Ok W X w b r s t) (i : Int) (hi : I64 i) (hC : sumC s.C ≤ 1000000) (n : Int) (hn : n = (s.of i : Nat)) :
    Calls Tryd.prog 13 #[.pointer (some ⟨b, 0, none⟩), .int .i64 i] w fun e w' => e = .returned (.int .i64 n) ∧ Sq Si Ok W X w' b r s t ∧ Below w.heap.size w w' := by
  subst hn
  exact h.lookL S (P := fun e => e = .returned (.int .i64 (s.of i : Nat))) (fun F ho hT => H w b F s i ho hT hi hC)
theorem sq_of_r {Si : SpP} {Ok : World → Prop} (S : Spc Si Ok) {W w : World} {X : Nat → Prop} {b r : Nat} {s t : Sd} (h : Sq Si Ok W X w b r s t) (i : Int) (hi : I64 i) (n : Int) (hn : n = (t.of i : Nat)) :
    Calls Tryd.prog 44 #[.pointer (some ⟨r, 0, none⟩), .int .i64 i] w fun e w' => e = .returned (.int .i64 n) ∧ Sq Si Ok W X w' b r s t ∧ Below w.heap.size w w' := by
  subst hn
  exact h.lookR S (P := fun e => e = .returned (.int .i64 (t.of i : Nat))) (fun G hT => rp_of w r G t i hT hi)
theorem sq_waits_l {Si : SpP} {Ok : World → Prop} (S : Spc Si Ok) (H : SpWaits Si Ok) {W w : World} {X : Nat → Prop} {b r : Nat} {s t : Sd} (h : Sq Si Ok W X w b r s t) (hC : sumC s.C ≤ 1000000) (l : List Int) (hl : l = s.waits) :
    Calls Tryd.prog 12 #[.pointer (some ⟨b, 0, none⟩)] w fun e w' => ∃ v, e = .returned v ∧ OwnInts w' w.heap.size v l ∧ Sq Si Ok W X w' b r s t ∧ Below w.heap.size w w' := by
  subst hl
  obtain ⟨F, G, h1, h2, h3, h4⟩ := h.at_
  exact (H w b F s (h.okw S) h1 hC).mono fun e w' ⟨v, e1, e2, e3⟩ => ⟨v, e1, e2, h.newer S e3, e3⟩
theorem sq_waits_r {Si : SpP} {Ok : World → Prop} (S : Spc Si Ok) {W w : World} {X : Nat → Prop} {b r : Nat} {s t : Sd} (h : Sq Si Ok W X w b r s t) (l : List Int) (hl : l = t.waits) :
    Calls Tryd.prog 42 #[.pointer (some ⟨r, 0, none⟩)] w fun e w' => ∃ v, e = .returned v ∧ OwnInts w' w.heap.size v l ∧ Sq Si Ok W X w' b r s t ∧ Below w.heap.size w w' := by
  subst hl
  obtain ⟨F, G, h1, h2, h3, h4⟩ := h.at_
  exact (rp_waits w r G t h2).mono fun e w' ⟨v, e1, e2, e3⟩ => ⟨v, e1, e2, h.newer S e3, e3⟩

end Go.Proofs.YthfeecgpgempdaaDoor

/- Acts of layer 13 (two numbers and a list) that came in. -/
namespace Go.Proofs.YthfeecgpgempdaaDoor
set_option linter.unusedVariables false
set_option linter.unusedSimpArgs false
open Go.ChangeShapes Go.WideShapes Go.ChangeAt Go.RowKit Go.Deep Dg

/-- An act, as plain data. -/
structure Act3 where
  do_ : Int
  i : Int
  l : List Int
instance : Inhabited Act3 := ⟨⟨0, 0, []⟩⟩
/-- One act in memory, all of it below B0. -/
def Act3At (w : World) (B0 : Nat) (a : Option Addr) (j : Nat) (x : Act3) : Prop := ∃ (b off : Nat) (la : Option Addr) (lc : Nat), a = some ⟨b, off, none⟩ ∧ b < B0 ∧
  (w.cell? ⟨b, off + j * 3, none⟩ = some (.int .i64 x.do_) ∧ w.cell? ⟨b, off + j * 3 + 1, none⟩ = some (.int .i64 x.i) ∧ w.cell? ⟨b, off + j * 3 + 2, none⟩ = some (.slice la x.l.length lc)) ∧
  (I64 x.do_ ∧ I64 x.i) ∧ IntsAt w la x.l ∧ (∀ y ∈ x.l, I64 y) ∧ (x.l ≠ [] → ∀ y, la = some y → y.block < B0) ∧ x.l.length ≤ lc ∧ lc ≤ maxLen ∧ (la = none → x.l.length = 0 ∧ lc = 0)
def Acts3 (w : World) (B0 : Nat) (a : Option Addr) (L : List Act3) : Prop := ∀ j x, L[j]? = some x → Act3At w B0 a j x
theorem IntsAt.keptNe {w w' : World} {a : Option Addr} {l : List Int} {F : Nat → Prop} (h : IntsAt w a l) (hk : Kept F w w') (hF : l ≠ [] → ∀ x, a = some x → ¬ F x.block) : IntsAt w' a l := by
  by_cases hl : l = []
  · subst hl; exact IntsAt.nil _ _
  · exact h.kept hk (hF hl)
theorem Act3At.kept {w w' : World} {B0 : Nat} {a : Option Addr} {j : Nat} {x : Act3} (h : Act3At w B0 a j x) (hB : B0 ≤ w.heap.size) {F : Nat → Prop} (hk : Kept F w w') (hF : ∀ k, k < B0 → ¬ F k) : Act3At w' B0 a j x := by
  obtain ⟨b, off, la, lc, h1, h2, ⟨c0, c1, c2⟩, h3, h4, h5, h6, h7⟩ := h
  refine ⟨b, off, la, lc, h1, h2, ⟨?_, ?_, ?_⟩, h3, h4.keptNe hk (fun hne y hy => hF _ (h6 hne y hy)), h5, h6, h7⟩
  · rw [hk.cell (by show b < _; omega) (hF b h2)]; exact c0
  · rw [hk.cell (by show b < _; omega) (hF b h2)]; exact c1
  · rw [hk.cell (by show b < _; omega) (hF b h2)]; exact c2
theorem Acts3.kept {w w' : World} {B0 : Nat} {a : Option Addr} {L : List Act3} (h : Acts3 w B0 a L) (hB : B0 ≤ w.heap.size) {F : Nat → Prop} (hk : Kept F w w') (hF : ∀ k, k < B0 → ¬ F k) : Acts3 w' B0 a L :=
  fun j x hx => (h j x hx).kept hB hk hF
theorem Tryd.cellsAct3 : Tryd.prog.cellsOf 63 = 3 := by kernel_rfl
theorem Tryd.cellsI3 : Tryd.prog.cellsOf 3 = 1 := by kernel_rfl
theorem Tryd.cellsIs3 : Tryd.prog.cellsOf 30 = 1 := by kernel_rfl
set_option maxRecDepth 100000 in
theorem open_acts13 {H : Type} {enc : TypeId × Value → H} {W : World} {a : Option Addr} {len cap : Nat} {d : DataW H} {p : List MemPlace}
    (h : DataW.Trod enc Tryd.prog W 0 (fun _ => true) true 40 (.slice a len cap) d p) : len ≤ maxLen ∧ ∃ L : List Act3, L.length = len ∧ Acts3 W W.heap.size a L := by
  obtain ⟨fuel, hf⟩ := h
  rcases open_slice Tryd.underlying40 hf with ⟨hcs, _⟩ | ⟨x, l, c, m, n, D, Pl, hcs, _, hl, hm, hmm, _, hcell⟩
  · simp [Value.cells] at hcs
    obtain ⟨rfl, rfl, rfl⟩ := hcs
    exact ⟨by decide, [], rfl, fun j x hx => by simp at hx⟩
  · simp [Value.cells] at hcs
    obtain ⟨rfl, rfl, rfl⟩ := hcs
    refine ⟨by omega, ?_⟩
    have hlm : len ≤ m := by rw [hmm]; split <;> omega
    have key : ∀ i, i < len → ∃ t : Act3, Act3At W W.heap.size (some x) i t := by
      intro i hi
      have hx : x.spot = none := by
        obtain ⟨cs0, hc0, _⟩ := hcell 0 (by omega)
        rw [Tryd.cellsAct3] at hc0
        obtain ⟨_, _, _, _, h0, _, _⟩ := cells3_of hc0
        have := spot_of_cell h0
        simpa [Addr.add] using this
      obtain ⟨b, off, s⟩ := x
      simp at hx
      subst hx
      obtain ⟨cs, hc, ht⟩ := hcell i (by omega)
      rw [Tryd.cellsAct3] at hc
      obtain ⟨y0, y1, y2, rfl, h0, h1, h2⟩ := cells3_of hc
      have hadd : (⟨b, off, none⟩ : Addr).add (i * 3) = ⟨b, off + i * 3, none⟩ := by simp [Addr.add]
      rw [hadd] at h0 h1 h2
      have ha : ∀ k, (⟨b, off + i * 3, none⟩ : Addr).add k = ⟨b, off + i * 3 + k, none⟩ := fun k => by simp [Addr.add]
      rw [ha] at h1 h2
      obtain ⟨xs, n', _, _, _, hxl, hff⟩ := DataW.trod_struct Tryd.underlying63 ht
      have g0 : DataW.trod enc Tryd.prog W 0 (fun _ => true) true n' 3 (List.take (Tryd.prog.cellsOf 3) (List.drop 0 [y0, y1, y2])) = xs[0]? := hff 0 _ rfl
      have g1 : DataW.trod enc Tryd.prog W 0 (fun _ => true) true n' 3 (List.take (Tryd.prog.cellsOf 3) (List.drop 1 [y0, y1, y2])) = xs[1]? := hff 1 _ rfl
      have g2 : DataW.trod enc Tryd.prog W 0 (fun _ => true) true n' 30 (List.take (Tryd.prog.cellsOf 30) (List.drop 2 [y0, y1, y2])) = xs[2]? := hff 2 _ rfl
      have hx3 : xs.length = 3 := hxl
      match xs, hx3 with
      | [z0, z1, z2], _ =>
        simp only [List.getElem?_cons_zero, List.getElem?_cons_succ] at g0 g1 g2
        rw [Tryd.cellsI3] at g0 g1
        rw [Tryd.cellsIs3] at g2
        obtain ⟨n0, e0, _, w0⟩ := DataW.trod_int Tryd.underlying3 g0
        obtain ⟨n1, e1, _, w1⟩ := DataW.trod_int Tryd.underlying3 g1
        simp at e0 e1
        subst e0 e1
        have k3 : ∃ ba bl bc zs, y2 = .slice ba bl bc ∧ IsRow .i64 W ba bl bc zs := by
          rcases open_ints Tryd.underlying30 Tryd.underlying3 (by kernel_rfl) g2 with ⟨hcs, _⟩ | ⟨x', l', c', zs, hcs, _, hl', hm', hz', _, hcell', hwz'⟩
          · simp at hcs
            exact ⟨none, 0, 0, [], hcs, .inl ⟨rfl, rfl, rfl, rfl⟩⟩
          · simp at hcs
            exact ⟨some x', l', c', zs, hcs, .inr ⟨_, rfl, hl', hm', by simpa using hz', hcell', hwz'⟩⟩
        obtain ⟨ba, bl, bc, zs, rfl, hrow⟩ := k3
        obtain ⟨l, q1, q2, q3, q4, q5, q6, q7⟩ := hrow.ints
        refine ⟨⟨n0, n1, l⟩, b, off, ba, bc, rfl, World.block_lt_of_cell? W _ h0, ⟨h0, h1, by rw [q1]; exact h2⟩, ⟨wf_i64 w0, wf_i64 w1⟩, q3, q2, fun hne y hy => q7 y hy ?_, by rw [q1]; exact q4, q5, fun e => by rw [q1]; exact q6 e⟩
        rw [← q1]
        exact List.length_pos_iff.2 hne
    obtain ⟨f, hf'⟩ := choose_lt key
    refine ⟨(List.range len).map f, by simp, fun j t ht => ?_⟩
    rw [List.getElem?_map] at ht
    obtain ⟨k, hk, rfl⟩ := Option.map_eq_some_iff.1 ht
    rw [List.getElem?_eq_some_iff] at hk
    obtain ⟨h5, h6⟩ := hk
    simp at h5 h6
    subst h6
    exact hf' j h5

end Go.Proofs.YthfeecgpgempdaaDoor

/- 'play' of layer 13: the walk. -/
namespace Go.Proofs.YthfeecgpgempdaaDoor
set_option linter.unusedVariables false
set_option linter.unusedSimpArgs false
open Go.RowKit Dg

set_option maxRecDepth 100000 in
set_option maxHeartbeats 16000000 in
theorem play13_any {Si : SpP} {Ok : World → Prop} (S : Spc Si Ok) (SH : SpShare Si Ok) (KE : SpKeep Si Ok) (FR : SpFree Si Ok) (US : SpUsed Si Ok) (OF : SpOf Si Ok) (WA : SpWaits Si Ok) (W : World) (X : Nat → Prop) (w : World) (b r : Nat) (s0 : Sd) (h : Sq Si Ok W X w b r s0 s0)
    (a : Option Addr) (len cap : Nat) (L : List Act3) (hL : L.length = len) (hle : len ≤ 9223372036854775807) (hA : Acts3 w W.heap.size a L) (c : Nat) (hc : c ≤ 500000) (hs : sumC s0.C ≤ c) :
    Calls Tryd.prog 23 #[.pointer (some ⟨b, 0, none⟩), .pointer (some ⟨r, 0, none⟩), .slice a len cap] w fun e w' => e = .returned (.bool true) ∧ (∃ s, sumC s.C ≤ c + 320 ∧ Sq Si Ok W X w' b r s s) ∧ Kept (fun k => ¬ (k < W.heap.size ∨ X k)) w w' := by
  have hB0 : W.heap.size ≤ w.heap.size := h.kept.size
  have HA := hid_of hA
  have HP := hid_of h
  have HS0 : Hid (sumC s0.C ≤ c + 8 * 0) := hs
  have HLL := hid_of hL
  clear h hA hL hs
  go_enter Tryd.func23, Tryd.ntmps23
  go_wp2_with fail
  go_loopw [7] (fun v wr => ∃ (i : Nat) (s : Sd), i ≤ len ∧ i ≤ 40 ∧ v = .int .i64 (i : Int) ∧ Hid (sumC s.C ≤ c + 8 * i) ∧ Hid (Sq Si Ok W X wr b r s s) ∧ Hid (Kept (fun k => ¬ (k < W.heap.size ∨ X k)) w wr)) (fun v _ => len - (intOf v).toNat)
  case atStart => exact ⟨0, s0, Nat.zero_le _, Nat.zero_le _, rfl, HS0, HP, Kept.refl _ _⟩
  case round =>
    obtain ⟨i, s, hi, hi40, rfl, hsum, hp, hk⟩ := hrel
    have hway : (decide ((i : Int) < (len : Int)) = true ∧ decide ((i : Int) < 40) = true ∧ i < len ∧ i < 40) ∨ ((decide ((i : Int) < (len : Int)) = true ∧ decide ((i : Int) < 40) = false ∧ i < len) ∨ (decide ((i : Int) < (len : Int)) = false ∧ decide (i < len) = false ∧ True)) := by
      by_cases e1 : i < len
      · by_cases e2 : i < 40
        · exact .inl ⟨decide_eq_true (by omega), decide_eq_true (by omega), e1, e2⟩
        · exact .inr (.inl ⟨decide_eq_true (by omega), decide_eq_false (by omega), e1⟩)
      · exact .inr (.inr ⟨decide_eq_false (by omega), decide_eq_false e1, trivial⟩)
    rcases hway with ⟨hd1, hd2, hil, hi2⟩ | hout
    · obtain ⟨t, ht⟩ : ∃ t, L[i]? = some t := ⟨_, List.getElem?_eq_getElem (by rw [HLL.out]; exact hil)⟩
      have hta := (HA.out i t ht).kept hB0 hk.out (fun k e f => f (.inl e))
      obtain ⟨xd, xi, xl⟩ := t
      obtain ⟨bb, off, la, lc, rfl, hbb, ⟨c0, c1, c2⟩, ⟨⟨i1, i2⟩, i3, i4⟩, hla, hl64, hlb, hlc, hlm, hln⟩ := hta
      simp only [] at c0 c1 c2 i1 i2 i3 i4 hla hl64 hlb hlc hln
      obtain ⟨nl, hnl⟩ : ∃ nl, nl = xl.length := ⟨_, rfl⟩
      rw [← hnl] at c2 hlc hln
      obtain ⟨w1, hw1⟩ : ∃ w1, w1 = wr.alloc (.cells #[.int .i64 xd, .int .i64 xi, .slice la nl lc] 63) := ⟨_, rfl⟩
      obtain ⟨bx, hbx⟩ : ∃ bx, bx = wr.heap.size := ⟨_, rfl⟩
      have hb1 : Below wr.heap.size wr w1 := by
        have e : Kept (fun _ => False) wr w1 := by rw [hw1]; exact Kept.alloc _ _ _
        exact ⟨e.os, e.tape, e.output, e.size, fun k hk => e.block k hk (fun h => h)⟩
      have HBX : Hid (w1.heap[bx]? = some (.cells #[.int .i64 xd, .int .i64 xi, .slice la nl lc] 63 (0, 0))) := by show _ = _; rw [hw1, hbx]; exact heap_alloc_new wr _
      have hbl : bx < w1.heap.size := by rw [hw1, hbx]; simp
      have HC : Hid (∀ w' Y, Kept Y w1 w' → ¬ Y bx → w'.cell? ⟨bx, 0, none⟩ = some (.int .i64 xd) ∧ w'.cell? ⟨bx, 1, none⟩ = some (.int .i64 xi) ∧ w'.cell? ⟨bx, 2, none⟩ = some (.slice la nl lc)) := fun w' Y hkY hY => by
        have e : w'.heap[bx]? = some (.cells #[.int .i64 xd, .int .i64 xi, .slice la nl lc] 63 (0, 0)) := by rw [hkY.block bx hbl hY]; exact HBX.out
        refine ⟨?_, ?_, ?_⟩ <;> (unfold World.cell?; rw [e]; rfl)
      have HP1 : Hid (Sq Si Ok W (fun k => X k ∨ k = bx) w1 b r s s) := by show Sq _ _ _ _ _ _ _ _ _; rw [hw1, hbx]; exact hp.out.alloc S _
      have HK1 : Hid (Kept (fun k => ¬ (k < W.heap.size ∨ X k)) w w1) := hk.out.trans ⟨hb1.os, hb1.tape, hb1.output, hb1.size, fun k hkk _ => hb1.block k hkk⟩
      have HIA : Hid (IntsAt w1 la xl) := hla.mono hb1
      have HI : Hid ((∀ y ∈ xl, I64 y) ∧ (xl ≠ [] → ∀ y, la = some y → y.block < W.heap.size) ∧ nl = xl.length) := ⟨hl64, hlb, hnl⟩
      have hsb : sumC s.C ≤ 1000000 := by have := hsum.out; omega
      have HSB := hid_of hsb
      have HNB : Hid (∀ {Y : Nat → Prop}, (∀ k, Y k → ¬ (k < W.heap.size ∨ (X k ∨ k = bx))) → ¬ Y bx) := fun hY e => hY bx e (.inr (.inr rfl))
      obtain ⟨x0, x1, x2⟩ := HC.out w1 _ (Kept.refl (fun _ => False) _) (fun h => h)
      unfold maxLen at hlm
      clear hla hl64 hlb hnl hbb hb1 hsb hp hk
      obtain ⟨d, hd⟩ : ∃ d, d = xd % 9 := ⟨_, rfl⟩
      have hd9 : 0 ≤ d ∧ d < 9 := by omega
      have HW : Hid (Calls Tryd.prog 8 #[.int .i64 xd, .int .i64 9] w1 fun e w' => e = .returned (.int .i64 d) ∧ w1 = w') := by rw [hd]; exact within_any xd 9 w1 i1 i2 (by decide) (by decide)
      clear hd
      go_wp2_with fail
      rw [← hw1, ← hbx]
      clear hw1 hbx c0 c1 c2
      refine HW.out.mono ?_
      rintro e w2 ⟨rfl, rfl⟩
      clear HW
      go_upto_block 2 with fail
      go_cut [9] from 10 to 92 (fun v wx => v = .bool true ∧ ∃ s2, Hid (sumC s2.C ≤ c + 8 * (i + 1)) ∧ Hid (Sq Si Ok W X wx b r s2 s2) ∧ Hid (Kept (fun k => ¬ (k < W.heap.size ∨ X k)) w wx))
      case first =>
        have HEND : Hid (∀ (w' : World) (s2 : Sd), Sq Si Ok W (fun k => X k ∨ k = bx) w' b r s2 s2 → Kept (fun k => ¬ (k < W.heap.size ∨ (X k ∨ k = bx))) w1 w' → Hid (Sq Si Ok W X w' b r s2 s2) ∧ Hid (Kept (fun k => ¬ (k < W.heap.size ∨ X k)) w w')) := fun w' s2 hq hkk =>
          ⟨hq.less (fun k e => .inl e), HK1.out.trans (hkk.mono (fun k _ e f => e (f.imp id .inl)))⟩
        rcases (by omega : d = 4 ∨ d = 5 ∨ d = 6 ∨ d = 7 ∨ d = 8 ∨ (d ≠ 4 ∧ d ≠ 5 ∧ d ≠ 6 ∧ d ≠ 7 ∧ d ≠ 8)) with rfl | rfl | rfl | rfl | rfl | ⟨n4, n5, n6, n7, n8⟩
        · as_aux_lemma =>
          obtain ⟨R, hR⟩ : ∃ R, R = decide (0 < s.of xi) := ⟨_, rfl⟩
          obtain ⟨s2, hs2⟩ : ∃ s2, s2 = s.lessS xi := ⟨_, rfl⟩
          have HD := hid_of (sq_drop_l S (HP1.out.drew S) xi ⟨i3, i4⟩ HSB.out R hR s2 hs2)
          have HR2 := hid_of hR
          have HSS := hid_of hs2
          have hRR : (R == R) = true := by cases R <;> rfl
          have hsm : sumC s2.C ≤ c + 8 * (i + 1) := by have e := s.sum_less xi; rw [← hs2] at e; have := hsum.out; omega
          have HSM := hid_of hsm
          clear hR hs2 hsm
          go_upto_region 12 with fail
          go_region_held (fun W' => W'.cell? ⟨bx, 1, none⟩ = some (.int .i64 xi)) (first | assumption | go_keep) (first
            | (go_at_call 14; refine HD.out.mono ?_; rintro e w2 ⟨rfl, hq2, hk2⟩; have HQ2 := hid_of hq2; have HK2 : Hid (Kept (fun k => ¬ (k < W.heap.size ∨ (X k ∨ k = bx))) w1 w2) := (Kept.refl _ _).drew.trans hk2; obtain ⟨y0, y1, y2⟩ := HC.out w2 _ HK2.out (HNB.out (fun k e => e)); clear hq2 hk2)
            | (go_at_call 35; refine (sq_drop_r S HQ2.out xi ⟨i3, i4⟩ HSB.out R HR2.out s2 HSS.out).mono ?_; rintro e w3 ⟨rfl, hq3, hk3⟩; have HQ3 := hid_of hq3; have HK3 : Hid (Kept (fun k => ¬ (k < W.heap.size ∨ (X k ∨ k = bx))) w1 w3) := HK2.out.trans hk3; obtain ⟨u0, u1, u2⟩ := HC.out w3 _ HK3.out (HNB.out (fun k e => e)); clear hq3 hk3))
          all_goals (try go_wp2_with fail)
          all_goals go_meet
          all_goals exact ⟨rfl, s2, HSM, (HEND.out w3 s2 HQ3.out HK3.out).1, (HEND.out w3 s2 HQ3.out HK3.out).2⟩
        · as_aux_lemma =>
          obtain ⟨R, hR⟩ : ∃ R, R = decide (0 < s.of xi) := ⟨_, rfl⟩
          obtain ⟨s2, hs2⟩ : ∃ s2, s2 = s.lessS xi := ⟨_, rfl⟩
          have HD := hid_of (sq_drop_l S (HP1.out.drew S) xi ⟨i3, i4⟩ HSB.out R hR s2 hs2)
          have HR2 := hid_of hR
          have HSS := hid_of hs2
          have hRR : (R == R) = true := by cases R <;> rfl
          have hsm : sumC s2.C ≤ c + 8 * (i + 1) := by have e := s.sum_less xi; rw [← hs2] at e; have := hsum.out; omega
          have HSM := hid_of hsm
          clear hR hs2 hsm
          go_upto_region 12 with fail
          go_region_held (fun W' => W'.cell? ⟨bx, 1, none⟩ = some (.int .i64 xi)) (first | assumption | go_keep) (first
            | (go_at_call 14; refine HD.out.mono ?_; rintro e w2 ⟨rfl, hq2, hk2⟩; have HQ2 := hid_of hq2; have HK2 : Hid (Kept (fun k => ¬ (k < W.heap.size ∨ (X k ∨ k = bx))) w1 w2) := (Kept.refl _ _).drew.trans hk2; obtain ⟨y0, y1, y2⟩ := HC.out w2 _ HK2.out (HNB.out (fun k e => e)); clear hq2 hk2)
            | (go_at_call 35; refine (sq_drop_r S HQ2.out xi ⟨i3, i4⟩ HSB.out R HR2.out s2 HSS.out).mono ?_; rintro e w3 ⟨rfl, hq3, hk3⟩; have HQ3 := hid_of hq3; have HK3 : Hid (Kept (fun k => ¬ (k < W.heap.size ∨ (X k ∨ k = bx))) w1 w3) := HK2.out.trans hk3; obtain ⟨u0, u1, u2⟩ := HC.out w3 _ HK3.out (HNB.out (fun k e => e)); clear hq3 hk3))
          all_goals (try go_wp2_with fail)
          all_goals go_meet
          all_goals exact ⟨rfl, s2, HSM, (HEND.out w3 s2 HQ3.out HK3.out).1, (HEND.out w3 s2 HQ3.out HK3.out).2⟩
        · as_aux_lemma =>
          obtain ⟨R, hR⟩ : ∃ R, R = decide (0 < s.of xi) := ⟨_, rfl⟩
          obtain ⟨s2, hs2⟩ : ∃ s2, s2 = s.shareS xi := ⟨_, rfl⟩
          have HD := hid_of (sq_share_l S SH (HP1.out.drew S) xi ⟨i3, i4⟩ HSB.out R hR s2 hs2)
          have HR2 := hid_of hR
          have HSS := hid_of hs2
          have hRR : (R == R) = true := by cases R <;> rfl
          have hsm : sumC s2.C ≤ c + 8 * (i + 1) := by have e := s.sum_share xi; rw [← hs2] at e; have := hsum.out; omega
          have HSM := hid_of hsm
          clear hR hs2 hsm
          go_upto_region 14 with fail
          go_region_held (fun W' => W'.cell? ⟨bx, 1, none⟩ = some (.int .i64 xi)) (first | assumption | go_keep) (first
            | (go_at_call 11; refine HD.out.mono ?_; rintro e w2 ⟨rfl, hq2, hk2⟩; have HQ2 := hid_of hq2; have HK2 : Hid (Kept (fun k => ¬ (k < W.heap.size ∨ (X k ∨ k = bx))) w1 w2) := (Kept.refl _ _).drew.trans hk2; obtain ⟨y0, y1, y2⟩ := HC.out w2 _ HK2.out (HNB.out (fun k e => e)); clear hq2 hk2)
            | (go_at_call 36; refine (sq_share_r S HQ2.out xi ⟨i3, i4⟩ HSB.out R HR2.out s2 HSS.out).mono ?_; rintro e w3 ⟨rfl, hq3, hk3⟩; have HQ3 := hid_of hq3; have HK3 : Hid (Kept (fun k => ¬ (k < W.heap.size ∨ (X k ∨ k = bx))) w1 w3) := HK2.out.trans hk3; obtain ⟨u0, u1, u2⟩ := HC.out w3 _ HK3.out (HNB.out (fun k e => e)); clear hq3 hk3))
          all_goals (try go_wp2_with fail)
          all_goals go_meet
          all_goals exact ⟨rfl, s2, HSM, (HEND.out w3 s2 HQ3.out HK3.out).1, (HEND.out w3 s2 HQ3.out HK3.out).2⟩
        · as_aux_lemma =>
          obtain ⟨z, hz⟩ : ∃ z : Int, z = (s.waits.length : Nat) := ⟨_, rfl⟩
          obtain ⟨s2, hs2⟩ : ∃ s2, s2 = s.commitS := ⟨_, rfl⟩
          have HD := hid_of (sq_commit_l S HP1.out HSB.out z hz s2 hs2)
          have HZ := hid_of hz
          have HSS := hid_of hs2
          have hzz : (z == z) = true := by simp
          have hsm : sumC s2.C ≤ c + 8 * (i + 1) := by rw [hs2]; have := hsum.out; show sumC s.C ≤ _; omega
          have HSM := hid_of hsm
          clear hz hs2 hsm
          go_wp2_with fail
          refine HD.out.mono ?_
          rintro e w2 ⟨rfl, hq2, hk2⟩
          have HQ2 := hid_of hq2
          have HK2 := hid_of hk2
          clear hq2 hk2
          go_wp2_with fail
          refine (sq_commit_r S HQ2.out z HZ.out s2 HSS.out).mono ?_
          rintro e w3 ⟨rfl, hq3, hk3⟩
          have HQ3 := hid_of hq3
          have HK3 := hid_of (HK2.out.trans hk3)
          clear hq3 hk3
          go_wp2_with fail
          go_meet
          exact ⟨rfl, s2, HSM, (HEND.out w3 s2 HQ3.out HK3.out).1, (HEND.out w3 s2 HQ3.out HK3.out).2⟩
        · as_aux_lemma =>
          obtain ⟨m, hm⟩ : ∃ m, m = min nl 8 := ⟨_, rfl⟩
          have HCU : Hid (Calls Tryd.prog 38 #[.slice la nl lc, .int .i64 8] w1 fun e w' => e = .returned (.slice la m lc) ∧ w1 = w') := by rw [hm]; exact cutInt_any w1 la nl lc 8 (by decide) hlc hlm hln
          obtain ⟨xs, hxs⟩ : ∃ xs, xs = xl.take m := ⟨_, rfl⟩
          have hm8 : m ≤ 8 := by omega
          have HXL : Hid (xs.length = m) := by show _ = _; rw [hxs, List.length_take, ← HI.out.2.2]; omega
          have HXA : Hid (IntsAt w1 la xs) := by show IntsAt _ _ _; rw [hxs]; exact HIA.out.take m
          have HX64 : Hid (∀ y ∈ xs, I64 y) := fun y hy => HI.out.1 y (by rw [hxs] at hy; exact List.mem_of_mem_take hy)
          have HXB : Hid (xs ≠ [] → ∀ y, la = some y → y.block < W.heap.size) := fun hne => HI.out.2.1 (fun e => hne (by rw [hxs, e]; simp))
          have HL0 : Hid (la = none → m = 0 ∧ lc = 0) := fun e => by have := hln e; omega
          have hmc : m ≤ lc := by omega
          obtain ⟨R, hR⟩ : ∃ R, R = s.keepOk xs := ⟨_, rfl⟩
          obtain ⟨s2, hs2⟩ : ∃ s2, s2 = s.keepS xs := ⟨_, rfl⟩
          have HD := hid_of (sq_keep_l S KE HP1.out la m lc xs HXA.out HXL.out (by omega) HX64.out (fun hne y hy => .inl (HXB.out hne y hy)) HL0.out hmc (by unfold maxLen; omega) HSB.out R hR s2 hs2)
          have HR2 := hid_of hR
          have HSS := hid_of hs2
          have hRR : (R == R) = true := by cases R <;> rfl
          have hsm : sumC s2.C ≤ c + 8 * (i + 1) := by have e := s.sum_keep xs; rw [← hs2, HXL.out] at e; have := hsum.out; omega
          have HSM := hid_of hsm
          clear hR hs2 hsm hm hxs
          go_wp2_with fail
          refine HCU.out.mono ?_
          rintro e w2 ⟨rfl, rfl⟩
          go_wp2_with fail
          refine HD.out.mono ?_
          rintro e w2 ⟨rfl, hq2, hk2⟩
          have HQ2 := hid_of hq2
          have HK2 := hid_of hk2
          have HXA2 : Hid (IntsAt w2 la xs) := HXA.out.keptNe hk2 (fun hne y hy e => e (.inl (HXB.out hne y hy)))
          clear hq2 hk2
          go_wp2_with fail
          refine (sq_keep_r S HQ2.out la m lc xs HXA2.out HXL.out (by omega) HX64.out (fun hne y hy => .inl (HXB.out hne y hy)) R HR2.out s2 HSS.out).mono ?_
          rintro e w3 ⟨rfl, hq3, hk3⟩
          have HQ3 := hid_of hq3
          have HK3 := hid_of (HK2.out.trans hk3)
          clear hq3 hk3
          go_wp2_with fail
          go_meet
          exact ⟨rfl, s2, HSM, (HEND.out w3 s2 HQ3.out HK3.out).1, (HEND.out w3 s2 HQ3.out HK3.out).2⟩
        · as_aux_lemma =>
          have b4 : (d == 4) = false := beq_eq_false_iff_ne.2 n4
          have b5 : (d == 5) = false := beq_eq_false_iff_ne.2 n5
          have b6 : (d == 6) = false := beq_eq_false_iff_ne.2 n6
          have b7 : (d == 7) = false := beq_eq_false_iff_ne.2 n7
          have b8 : (d == 8) = false := beq_eq_false_iff_ne.2 n8
          obtain ⟨tn, te, hR⟩ : ∃ tn te, s.takeR = (tn, te) := ⟨_, _, rfl⟩
          obtain ⟨s2, hs2⟩ : ∃ s2, s2 = s.takeS := ⟨_, rfl⟩
          have HD := hid_of (sq_take_l S HP1.out HSB.out tn te hR s2 hs2)
          have HR2 := hid_of hR
          have HSS := hid_of hs2
          have e1 : (tn == tn) = true := by simp
          have e2 : (te == te) = true := by simp
          have hsm : sumC s2.C ≤ c + 8 * (i + 1) := by have e := Sd.sum_take (HP1.out.fine S).1; rw [← hs2] at e; have := hsum.out; omega
          have HSM := hid_of hsm
          clear hR hs2 hsm n4 n5 n6 n7 n8
          go_wp2_with fail
          refine HD.out.mono ?_
          rintro e w2 ⟨rfl, hq2, hk2⟩
          have HQ2 := hid_of hq2
          have HK2 := hid_of hk2
          clear hq2 hk2
          go_wp2_with fail
          refine (sq_take_r S HQ2.out tn te HR2.out s2 HSS.out).mono ?_
          rintro e w3 ⟨rfl, hq3, hk3⟩
          have HQ3 := hid_of hq3
          have HK3 := hid_of (HK2.out.trans hk3)
          clear hq3 hk3
          go_wp2_with fail
          go_meet
          exact ⟨rfl, s2, HSM, (HEND.out w3 s2 HQ3.out HK3.out).1, (HEND.out w3 s2 HQ3.out HK3.out).2⟩
      case rest =>
        obtain ⟨rfl, s2, hs2, hp2, hk2⟩ := hcut
        have hsb2 : sumC s2.C ≤ 1000000 := by have := hs2.out; omega
        have HSB2 := hid_of hsb2
        obtain ⟨N, hN⟩ : ∃ N, N = s2.N := ⟨_, rfl⟩
        have hN4 : N ≤ 4096 := by have := (hp2.out.fine S).1.le; omega
        have HN := hid_of hN
        obtain ⟨fz, hfz⟩ : ∃ z : Int, z = (s2.free : Nat) := ⟨_, rfl⟩
        have hne : (fz != fz) = false := by simp
        have HFZ := hid_of hfz
        obtain ⟨lw, hlw⟩ : ∃ l, l = s2.waits := ⟨_, rfl⟩
        have HLW := hid_of hlw
        have hll : lw.length ≤ 1000000 := by rw [hlw]; have e : s2.waits.length ≤ s2.N := length_waitTo _ _; omega
        obtain ⟨M, hM⟩ : ∃ M, M = lw.length := ⟨_, rfl⟩
        have HM := hid_of hM
        clear hfz hlw hM hN x0 x1 x2 HC HP1 HK1 HIA HI HSB HNB hsb2
        go_wp2_with fail
        refine (sq_free_l S FR hp2.out HSB2.out fz HFZ.out).mono ?_
        rintro e w3 ⟨rfl, h3, hb3⟩
        have H3 := hid_of h3
        have HB3 := hid_of hb3
        clear h3 hb3
        go_wp2_with fail
        refine (sq_free_r S H3.out fz HFZ.out).mono ?_
        rintro e w4 ⟨rfl, h4, hb4⟩
        have H4 := hid_of h4
        have HB4 : Hid (Below wc.heap.size wc w4) := HB3.out.trans (hb4.mono HB3.out.size)
        clear h4 hb4
        go_wp2_with fail
        refine (sq_waits_l S WA H4.out HSB2.out lw HLW.out).mono ?_
        rintro e w5 ⟨v5, rfl, ho5, h5, hb5⟩
        obtain ⟨a5, c5, hv5, hi5, -⟩ := ho5.slice
        rw [← HM.out] at hv5
        subst hv5
        have H5 := hid_of h5
        have HB5 : Hid (Below wc.heap.size wc w5) := HB4.out.trans (hb5.mono HB4.out.size)
        have HI5 := hid_of hi5
        have HO5 := hid_of ho5
        clear h5 hb5 ho5 hi5
        go_wp2_with fail
        refine (sq_waits_r S H5.out lw HLW.out).mono ?_
        rintro e w6 ⟨v6, rfl, ho6, h6, hb6⟩
        obtain ⟨a6, c6, hv6, hi6, -⟩ := ho6.slice
        rw [← HM.out] at hv6
        subst hv6
        have HSM : Hid (Calls Tryd.prog 15 #[.slice a5 M c5, .slice a6 M c6] w6 fun e w' => e = .returned (.bool true) ∧ ∃ n, w' = w6.drewN n) := by
          rw [HM.out]
          exact sameInt_any w6 a5 a6 c5 c6 lw (HI5.out.mono hb6) hi6 hll
        have H6 : Hid (∀ q, Sq Si Ok W X (w6.drewN q) b r s2 s2) := fun q => h6.draws S q
        have HK6 : Hid (∀ q, Kept (fun k => ¬ (k < W.heap.size ∨ X k)) w (w6.drewN q)) := fun q => by
          have e1 : Below wc.heap.size wc (w6.drewN q) := below_drewN (HB5.out.trans (hb6.mono HB5.out.size)) q
          exact hk2.out.trans ⟨e1.os, e1.tape, e1.output, e1.size, fun k hkk _ => e1.block k hkk⟩
        clear ho6 h6 hb6 hi6
        go_wp2_with fail
        refine HSM.out.mono ?_
        rintro e w7 ⟨rfl, q, rfl⟩
        go_wp2_with fail
        go_loopw [15] (fun v wr => ∃ k : Int, -1 ≤ k ∧ k ≤ (N : Int) + 1 ∧ v = .int .i64 k ∧ Hid (Sq Si Ok W X wr b r s2 s2) ∧ Hid (Kept (fun k => ¬ (k < W.heap.size ∨ X k)) w wr)) (fun v _ => ((N : Int) + 1 - intOf v).toNat)
        case atStart => exact ⟨-1, by omega, by omega, rfl, H6.out q, HK6.out q⟩
        case round =>
          obtain ⟨k, hk1, hk2', rfl, HQ, HKK⟩ := hrel
          have hcn : wr.cell? ⟨r, 0, none⟩ = some (.int .i64 (N : Int)) := by rw [HN.out]; exact HQ.out.n
          by_cases hkn : k ≤ (N : Int)
          · have hb1 : decide (k ≤ (N : Int)) = true := decide_eq_true hkn
            obtain ⟨R, hR⟩ : ∃ R, R = s2.uZ k := ⟨_, rfl⟩
            have hRR : (R != R) = false := by cases R <;> rfl
            obtain ⟨z, hz⟩ : ∃ z : Int, z = (s2.of k : Nat) := ⟨_, rfl⟩
            have hzz : (z != z) = false := by simp
            have HR := hid_of hR
            have HZ := hid_of hz
            have hi64 : I64 k := ⟨by omega, by omega⟩
            have HI64 := hid_of hi64
            clear hR hz hi64
            go_wp2_with fail
            refine (sq_used_l S US HQ.out k HI64.out HSB2.out R HR.out).mono ?_
            rintro e w8 ⟨rfl, h8, hb8⟩
            have H8 := hid_of h8
            have HB8 := hid_of hb8
            clear h8 hb8
            go_wp2_with fail
            refine (sq_used_r S H8.out k HI64.out R HR.out).mono ?_
            rintro e w9 ⟨rfl, h9, hb9⟩
            have H9 := hid_of h9
            have HB9 : Hid (Below wr.heap.size wr w9) := HB8.out.trans (hb9.mono HB8.out.size)
            clear h9 hb9
            go_wp2_with fail
            refine (sq_of_l S OF H9.out k HI64.out HSB2.out z HZ.out).mono ?_
            rintro e w10 ⟨rfl, h10, hb10⟩
            have H10 := hid_of h10
            have HB10 : Hid (Below wr.heap.size wr w10) := HB9.out.trans (hb10.mono HB9.out.size)
            clear h10 hb10
            go_wp2_with fail
            refine (sq_of_r S H10.out k HI64.out z HZ.out).mono ?_
            rintro e w11 ⟨rfl, h11, hb11⟩
            have H11 := hid_of h11
            have HK11 : Hid (Kept (fun k => ¬ (k < W.heap.size ∨ X k)) w w11) := by
              have e1 := HB10.out.trans (hb11.mono HB10.out.size)
              exact HKK.out.trans ⟨e1.os, e1.tape, e1.output, e1.size, fun k hkk _ => e1.block k hkk⟩
            clear h11 hb11
            go_wp2_with fail
            refine ⟨?_, by (simp [intOf]) <;> omega⟩
            first
              | exact ⟨k + 1, by omega, by omega, by go_num, H11, HK11⟩
              | ((repeat apply Exists.intro); refine ⟨?_, rfl⟩; exact ⟨k + 1, by omega, by omega, by go_num, H11, HK11⟩)
          · have hb1 : decide (k ≤ (N : Int)) = false := decide_eq_false hkn
            go_wp2_with fail
            refine ⟨?_, by (simp [intOf]) <;> omega⟩
            first
              | exact ⟨i + 1, s2, by omega, by omega, by go_num, hs2, HQ, HKK⟩
              | ((repeat apply Exists.intro); refine ⟨?_, rfl⟩; exact ⟨i + 1, s2, by omega, by omega, by go_num, hs2, HQ, HKK⟩)
    · rcases hout with ⟨hd1, hd2, hj1⟩ | ⟨hd1, hd2, hj1⟩
      all_goals
        go_wp2_with fail
        go_ret
        exact ⟨rfl, ⟨s, by have := hsum.out; omega, hp.out⟩, hk.out⟩

end Go.Proofs.YthfeecgpgempdaaDoor
