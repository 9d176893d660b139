/- The texts SpC, RfC, RfIn, RfP1, RfP2, one behind the other. -/
import Derived.Test.YthfeecgpgempdaaDoorPart02
import Derived.Test.YthfeecgpgempdaaDoorPart04
import Derived.Lib.SliceRun

/- A space, whatever it is made of: the bundle that the laws of layer 13 lean on; a space that was made behind a world. -/
namespace Go.Proofs.YthfeecgpgempdaaDoor
set_option linter.unusedVariables false
set_option linter.unusedSimpArgs false
open Go.RowKit Dg

/-- The space at b has s; it lies in the blocks F. -/
abbrev SpP := World → Nat → (Nat → Prop) → Sd → Prop
/-- A call has made s of it. -/
def SpTo (Q : SpP) (w w' : World) (b : Nat) (F : Nat → Prop) (s : Sd) : Prop := ∃ F' : Nat → Prop, Q w' b F' s ∧ Kept F w w' ∧ ∀ k, F' k → F k ∨ w.heap.size ≤ k
structure SpMem (Q : SpP) : Prop where
  lt : ∀ {w b F s}, Q w b F s → ∀ k, F k → k < w.heap.size
  keep : ∀ {w w' : World} {b F s X}, Q w b F s → Kept X w w' → (∀ k, F k → ¬ X k) → Q w' b F s
  fine : ∀ {w b F s}, Q w b F s → s.Fine
structure Spc (Si : SpP) (Ok : World → Prop) : Prop where
  mem : SpMem Si
  okK : ∀ {W w : World}, Ok W → Kept (fun k => W.heap.size ≤ k) W w → Ok w
  newB : ∀ (w : World) (n fx : Nat), Ok w → 1 ≤ n → n ≤ 4096 → fx ≤ n → Calls Tryd.prog 9 #[.int .i64 (n : Int), .int .i64 (fx : Int)] w fun e w' => ∃ b F, e = .returned (.tuple #[.pointer (some ⟨b, 0, none⟩), .int .i64 0]) ∧ Si w' b F (newSd n fx) ∧ (∀ k, F k → w.heap.size ≤ k) ∧ Below w.heap.size w w'
  takeB : ∀ (w : World) (b : Nat) (F : Nat → Prop) (s : Sd), Ok w → Si w b F s → sumC s.C ≤ 1000000 →
    Calls Tryd.prog 10 #[.pointer (some ⟨b, 0, none⟩)] w fun e w' => e = .returned (.tuple #[.int .i64 s.takeR.1, .int .i64 s.takeR.2]) ∧ SpTo Si w w' b F s.takeS
  dropB : ∀ (w : World) (b : Nat) (F : Nat → Prop) (s : Sd) (i : Int), Ok w → Si w b F s → I64 i → sumC s.C ≤ 1000000 →
    Calls Tryd.prog 14 #[.pointer (some ⟨b, 0, none⟩), .int .i64 i] w fun e w' => e = .returned (.bool (decide (0 < s.of i))) ∧ SpTo Si w w' b F (s.lessS i)
  commitB : ∀ (w : World) (b : Nat) (F : Nat → Prop) (s : Sd), Ok w → Si w b F s → sumC s.C ≤ 1000000 →
    Calls Tryd.prog 18 #[.pointer (some ⟨b, 0, none⟩)] w fun e w' => e = .returned (.int .i64 (s.waits.length : Nat)) ∧ SpTo Si w w' b F s.commitS
def SpShare (Si : SpP) (Ok : World → Prop) : Prop := ∀ (w : World) (b : Nat) (F : Nat → Prop) (s : Sd) (i : Int), Ok w → Si w b F s → I64 i → sumC s.C ≤ 1000000 →
    Calls Tryd.prog 11 #[.pointer (some ⟨b, 0, none⟩), .int .i64 i] w fun e w' => e = .returned (.bool (decide (0 < s.of i))) ∧ SpTo Si w w' b F (s.shareS i)
def SpKeep (Si : SpP) (Ok : World → Prop) : Prop := ∀ (w : World) (b : Nat) (F : Nat → Prop) (s : Sd) (a : Option Addr) (n cap : Nat) (l : List Int), Ok w → Si w b F s → IntsAt w a l → l.length = n → n ≤ 100000 → (∀ x ∈ l, I64 x) → (l ≠ [] → ∀ y, a = some y → ¬ F y.block) → (a = none → n = 0 ∧ cap = 0) → n ≤ cap → cap ≤ maxLen → sumC s.C ≤ 1000000 →
    Calls Tryd.prog 20 #[.pointer (some ⟨b, 0, none⟩), .slice a n cap] w fun e w' => e = .returned (.bool (s.keepOk l)) ∧ SpTo Si w w' b F (s.keepS l)
def SpFree (Si : SpP) (Ok : World → Prop) : Prop := ∀ (w : World) (b : Nat) (F : Nat → Prop) (s : Sd), Ok w → Si w b F s → sumC s.C ≤ 1000000 →
    Calls Tryd.prog 17 #[.pointer (some ⟨b, 0, none⟩)] w fun e w' => e = .returned (.int .i64 (s.free : Nat)) ∧ Below w.heap.size w w'
def SpUsed (Si : SpP) (Ok : World → Prop) : Prop := ∀ (w : World) (b : Nat) (F : Nat → Prop) (s : Sd) (i : Int), Ok w → Si w b F s → I64 i → sumC s.C ≤ 1000000 →
    Calls Tryd.prog 16 #[.pointer (some ⟨b, 0, none⟩), .int .i64 i] w fun e w' => e = .returned (.bool (s.uZ i)) ∧ Below w.heap.size w w'
def SpOf (Si : SpP) (Ok : World → Prop) : Prop := ∀ (w : World) (b : Nat) (F : Nat → Prop) (s : Sd) (i : Int), Ok w → Si w b F s → I64 i → sumC s.C ≤ 1000000 →
    Calls Tryd.prog 13 #[.pointer (some ⟨b, 0, none⟩), .int .i64 i] w fun e w' => e = .returned (.int .i64 (s.of i : Nat)) ∧ Below w.heap.size w w'
def SpWaits (Si : SpP) (Ok : World → Prop) : Prop := ∀ (w : World) (b : Nat) (F : Nat → Prop) (s : Sd), Ok w → Si w b F s → sumC s.C ≤ 1000000 →
    Calls Tryd.prog 12 #[.pointer (some ⟨b, 0, none⟩)] w fun e w' => ∃ v, e = .returned v ∧ OwnInts w' w.heap.size v s.waits ∧ Below w.heap.size w w'
/-- The two that do not touch the memory at all, so far as can be told. -/
def SpUsedQ (Si : SpP) (Ok : World → Prop) : Prop := ∀ (w : World) (b : Nat) (F : Nat → Prop) (s : Sd) (i : Int), Ok w → Si w b F s → I64 i → sumC s.C ≤ 1000000 →
    Calls Tryd.prog 16 #[.pointer (some ⟨b, 0, none⟩), .int .i64 i] w fun e w' => e = .returned (.bool (s.uZ i)) ∧ ∃ k, w' = w.drewN k
def SpOfQ (Si : SpP) (Ok : World → Prop) : Prop := ∀ (w : World) (b : Nat) (F : Nat → Prop) (s : Sd) (i : Int), Ok w → Si w b F s → I64 i → sumC s.C ≤ 1000000 →
    Calls Tryd.prog 13 #[.pointer (some ⟨b, 0, none⟩), .int .i64 i] w fun e w' => e = .returned (.int .i64 (s.of i : Nat)) ∧ ∃ k, w' = w.drewN k
theorem SpUsedQ.used {Si : SpP} {Ok : World → Prop} (h : SpUsedQ Si Ok) : SpUsed Si Ok := fun w b F s i ho hT hi hC => (h w b F s i ho hT hi hC).mono fun e w' ⟨e1, k, e2⟩ => ⟨e1, e2 ▸ below_drewN (Below.refl _ _) k⟩
theorem SpOfQ.of {Si : SpP} {Ok : World → Prop} (h : SpOfQ Si Ok) : SpOf Si Ok := fun w b F s i ho hT hi hC => (h w b F s i ho hT hi hC).mono fun e w' ⟨e1, k, e2⟩ => ⟨e1, e2 ▸ below_drewN (Below.refl _ _) k⟩
def SpClone (Si : SpP) (Ok : World → Prop) : Prop := ∀ (w : World) (b : Nat) (F : Nat → Prop) (s : Sd), Ok w → Si w b F s → sumC s.C ≤ 1000000 →
    Calls Tryd.prog 24 #[.pointer (some ⟨b, 0, none⟩)] w fun e w' => ∃ b' F', e = .returned (.pointer (some ⟨b', 0, none⟩)) ∧ Si w' b' F' s ∧ (∀ k, F' k → w.heap.size ≤ k) ∧ Below w.heap.size w w'
def SpNewNo : Prop := ∀ (w : World) (n fx : Int), I64 n → I64 fx → (n < 1 ∨ 4096 < n ∨ fx < 0 ∨ n < fx) → Calls Tryd.prog 9 #[.int .i64 n, .int .i64 fx] w fun e w' => e = .returned (.tuple #[.pointer none, .int .i64 1]) ∧ Below w.heap.size w w'

/-- A space made behind W: it has s; the blocks X, too, are none of its. -/
structure Sb (Si : SpP) (Ok : World → Prop) (W : World) (X : Nat → Prop) (w : World) (b : Nat) (s : Sd) : Prop where
  ok : Ok W
  kept : Kept (fun k => W.heap.size ≤ k) W w
  at_ : ∃ F : Nat → Prop, Si w b F s ∧ ∀ k, (k < W.heap.size ∨ X k) → ¬ F k ∧ k < w.heap.size
theorem Sb.okw {Si : SpP} {Ok : World → Prop} (S : Spc Si Ok) {W w : World} {X : Nat → Prop} {b : Nat} {s : Sd} (h : Sb Si Ok W X w b s) : Ok w := S.okK h.ok h.kept
theorem Sb.fine {Si : SpP} {Ok : World → Prop} (S : Spc Si Ok) {W w : World} {X : Nat → Prop} {b : Nat} {s : Sd} (h : Sb Si Ok W X w b s) : s.Fine := by
  obtain ⟨F, h1, -⟩ := h.at_
  exact S.mem.fine h1
/-- A step that turns none of its. -/
theorem Sb.keep {Si : SpP} {Ok : World → Prop} (S : Spc Si Ok) {W w w' : World} {X Y : Nat → Prop} {b : Nat} {s : Sd} (h : Sb Si Ok W X w b s) (hk : Kept (fun k => (X k ∧ W.heap.size ≤ k) ∨ w.heap.size ≤ k) w w') (hY : ∀ k, Y k → X k ∨ (w.heap.size ≤ k ∧ k < w'.heap.size)) : Sb Si Ok W Y w' b s := by
  obtain ⟨F, h1, h2⟩ := h.at_
  have a1 := S.mem.lt h1
  have hsz := h.kept.size
  refine ⟨h.ok, h.kept.trans (hk.mono fun k _ e => by rcases e with e | e; exact e.2; omega), F, S.mem.keep h1 hk (fun k e e2 => ?_), fun k e => ?_⟩
  · rcases e2 with e2 | e2
    · exact (h2 k (.inr e2.1)).1 e
    · have := a1 k e; omega
  · rcases e with e | e
    · exact ⟨(h2 k (.inl e)).1, Nat.lt_of_lt_of_le (h2 k (.inl e)).2 hk.size⟩
    · rcases hY k e with e1 | ⟨e1, e2⟩
      · exact ⟨(h2 k (.inr e1)).1, Nat.lt_of_lt_of_le (h2 k (.inr e1)).2 hk.size⟩
      · exact ⟨fun f => by have := a1 k f; omega, e2⟩
theorem Sb.newer {Si : SpP} {Ok : World → Prop} (S : Spc Si Ok) {W w w' : World} {X : Nat → Prop} {b : Nat} {s : Sd} (h : Sb Si Ok W X w b s) (hb : Below w.heap.size w w') : Sb Si Ok W X w' b s :=
  h.keep S ⟨hb.os, hb.tape, hb.output, hb.size, fun k hk hf => hb.block k (Nat.lt_of_not_le fun e => hf (.inr e))⟩ (fun k e => .inl e)
theorem Sb.draws {Si : SpP} {Ok : World → Prop} (S : Spc Si Ok) {W w : World} {X : Nat → Prop} {b : Nat} {s : Sd} (h : Sb Si Ok W X w b s) (n : Nat) : Sb Si Ok W X (w.drewN n) b s :=
  h.keep S ⟨rfl, rfl, rfl, Nat.le_refl _, fun _ _ _ => rfl⟩ (fun k e => .inl e)
theorem Sb.alloc {Si : SpP} {Ok : World → Prop} (S : Spc Si Ok) {W w : World} {X : Nat → Prop} {b : Nat} {s : Sd} (h : Sb Si Ok W X w b s) (o : Obj) : Sb Si Ok W (fun k => X k ∨ k = w.heap.size) (w.alloc o) b s :=
  h.keep S (Kept.alloc _ _ _) (fun k e => by
    rcases e with e | e
    · exact .inl e
    · exact .inr ⟨by omega, by simp; omega⟩)
/-- A call that turns it. -/
theorem Sb.call {Si : SpP} {Ok : World → Prop} (S : Spc Si Ok) {W w : World} {X : Nat → Prop} {b : Nat} {s : Sd} {f : Nat} {s' : Sd} {args : Array Value} {P : Ending → Prop} (h : Sb Si Ok W X w b s)
    (hc : ∀ F : Nat → Prop, Ok w → Si w b F s → (∀ k, (k < W.heap.size ∨ X k) → ¬ F k) → Calls Tryd.prog f args w fun e w' => P e ∧ SpTo Si w w' b F s') :
    Calls Tryd.prog f args w fun e w' => P e ∧ Sb Si Ok W X w' b s' ∧ Kept (fun k => ¬ (k < W.heap.size ∨ X k)) w w' := by
  obtain ⟨F, h1, h2⟩ := h.at_
  refine (hc F (h.okw S) h1 (fun k e => (h2 k e).1)).mono ?_
  rintro e w' ⟨hP, F', m1, m2, m4⟩
  have hk := m2.mono (G := fun k => ¬ (k < W.heap.size ∨ X k)) (fun i _ e e2 => (h2 i e2).1 e)
  refine ⟨hP, ⟨h.ok, h.kept.trans (hk.mono fun k _ e => Nat.le_of_not_lt fun e2 => e (.inl e2)), F', m1, fun k e => ⟨fun f => ?_, Nat.lt_of_lt_of_le (h2 k e).2 m2.size⟩⟩, hk⟩
  rcases m4 k f with f1 | f1
  · exact (h2 k e).1 f1
  · have := (h2 k e).2; omega
/-- A call that looks at it. -/
theorem Sb.look {Si : SpP} {Ok : World → Prop} (S : Spc Si Ok) {W w : World} {X : Nat → Prop} {b : Nat} {s : Sd} {f : Nat} {args : Array Value} {P : Ending → Prop} (h : Sb Si Ok W X w b s)
    (hc : ∀ F : Nat → Prop, Ok w → Si w b F s → Calls Tryd.prog f args w fun e w' => P e ∧ Below w.heap.size w w') :
    Calls Tryd.prog f args w fun e w' => P e ∧ Sb Si Ok W X w' b s ∧ Below w.heap.size w w' := by
  obtain ⟨F, h1, h2⟩ := h.at_
  refine (hc F (h.okw S) h1).mono ?_
  rintro e w' ⟨hP, hb⟩
  exact ⟨hP, h.newer S hb, hb⟩
theorem sb_new {Si : SpP} {Ok : World → Prop} (S : Spc Si Ok) {W w : World} (hok : Ok W) (hk : Kept (fun k => W.heap.size ≤ k) W w) (n fx : Nat) (h1 : 1 ≤ n) (h2 : n ≤ 4096) (h3 : fx ≤ n) :
    Calls Tryd.prog 9 #[.int .i64 (n : Int), .int .i64 (fx : Int)] w fun e w' => ∃ b, e = .returned (.tuple #[.pointer (some ⟨b, 0, none⟩), .int .i64 0]) ∧ Sb Si Ok W (fun k => k < w.heap.size) w' b (newSd n fx) ∧ Below w.heap.size w w' :=
  (S.newB w n fx (S.okK hok hk) h1 h2 h3).mono fun e w' ⟨b, F, e1, e2, e3, e4⟩ => ⟨b, e1, ⟨hok, hk.trans ⟨e4.os, e4.tape, e4.output, e4.size, fun k hkk hf => e4.block k hkk⟩, F, e2, fun k hkk => by
    have := hk.size
    have hlt : k < w.heap.size := by rcases hkk with h | h; omega; exact h
    exact ⟨fun f => by have := e3 k f; omega, Nat.lt_of_lt_of_le hlt e4.size⟩⟩, e4⟩
theorem sb_take {Si : SpP} {Ok : World → Prop} (S : Spc Si Ok) {W w : World} {X : Nat → Prop} {b : Nat} {s : Sd} (h : Sb Si Ok W X w b s) (hC : sumC s.C ≤ 1000000) (r f : Int) (hr : s.takeR = (r, f)) (s2 : Sd) (hs : s2 = s.takeS) :
    Calls Tryd.prog 10 #[.pointer (some ⟨b, 0, none⟩)] w fun e w' => e = .returned (.tuple #[.int .i64 r, .int .i64 f]) ∧ Sb Si Ok W X w' b s2 ∧ Kept (fun k => ¬ (k < W.heap.size ∨ X k)) w w' := by
  subst hs
  have e := h.call S (P := fun e => e = .returned (.tuple #[.int .i64 s.takeR.1, .int .i64 s.takeR.2])) (fun F ho hT hXF => S.takeB w b F s ho hT hC)
  rw [hr] at e
  exact e
theorem sb_drop {Si : SpP} {Ok : World → Prop} (S : Spc Si Ok) {W w : World} {X : Nat → Prop} {b : Nat} {s : Sd} (h : Sb Si Ok W X w b s) (i : Int) (hi : I64 i) (hC : sumC s.C ≤ 1000000) (R : Bool) (hR : R = decide (0 < s.of i)) (s2 : Sd) (hs : s2 = s.lessS i) :
    Calls Tryd.prog 14 #[.pointer (some ⟨b, 0, none⟩), .int .i64 i] w fun e w' => e = .returned (.bool R) ∧ Sb Si Ok W X w' b s2 ∧ Kept (fun k => ¬ (k < W.heap.size ∨ X k)) w w' := by
  subst hs hR
  exact h.call S (P := fun e => e = .returned (.bool (decide (0 < s.of i)))) (fun F ho hT hXF => S.dropB w b F s i ho hT hi hC)
theorem sb_commit {Si : SpP} {Ok : World → Prop} (S : Spc Si Ok) {W w : World} {X : Nat → Prop} {b : Nat} {s : Sd} (h : Sb Si Ok W X w b s) (hC : sumC s.C ≤ 1000000) (n : Nat) (hn : n = s.waits.length) (s2 : Sd) (hs : s2 = s.commitS) :
    Calls Tryd.prog 18 #[.pointer (some ⟨b, 0, none⟩)] w fun e w' => e = .returned (.int .i64 (n : Int)) ∧ Sb Si Ok W X w' b s2 ∧ Kept (fun k => ¬ (k < W.heap.size ∨ X k)) w w' := by
  subst hs hn
  exact h.call S (P := fun e => e = .returned (.int .i64 (s.waits.length : Nat))) (fun F ho hT hXF => S.commitB w b F s ho hT hC)
theorem sb_share {Si : SpP} {Ok : World → Prop} (S : Spc Si Ok) {W w : World} {X : Nat → Prop} {b : Nat} {s : Sd} (H : SpShare Si Ok) (h : Sb Si Ok W X w b s) (i : Int) (hi : I64 i) (hC : sumC s.C ≤ 1000000) (R : Bool) (hR : R = decide (0 < s.of i)) (s2 : Sd) (hs : s2 = s.shareS i) :
    Calls Tryd.prog 11 #[.pointer (some ⟨b, 0, none⟩), .int .i64 i] w fun e w' => e = .returned (.bool R) ∧ Sb Si Ok W X w' b s2 ∧ Kept (fun k => ¬ (k < W.heap.size ∨ X k)) w w' := by
  subst hs hR
  exact h.call S (P := fun e => e = .returned (.bool (decide (0 < s.of i)))) (fun F ho hT hXF => H w b F s i ho hT hi hC)
theorem sb_keep {Si : SpP} {Ok : World → Prop} (S : Spc Si Ok) {W w : World} {X : Nat → Prop} {b : Nat} {s : Sd} (H : SpKeep Si Ok) (h : Sb Si Ok W X w b s) (a : Option Addr) (n cap : Nat) (l : List Int) (ha : IntsAt w a l) (hl : l.length = n) (hn : n ≤ 100000) (h64 : ∀ x ∈ l, I64 x) (hX : l ≠ [] → ∀ y, a = some y → y.block < W.heap.size ∨ X y.block) (h0 : a = none → n = 0 ∧ cap = 0) (hc1 : n ≤ cap) (hc2 : cap ≤ maxLen) (hC : sumC s.C ≤ 1000000) (R : Bool) (hR : R = s.keepOk l) (s2 : Sd) (hs : s2 = s.keepS l) :
    Calls Tryd.prog 20 #[.pointer (some ⟨b, 0, none⟩), .slice a n cap] w fun e w' => e = .returned (.bool R) ∧ Sb Si Ok W X w' b s2 ∧ Kept (fun k => ¬ (k < W.heap.size ∨ X k)) w w' := by
  subst hs hR
  exact h.call S (P := fun e => e = .returned (.bool (s.keepOk l))) (fun F ho hT hXF => H w b F s a n cap l ho hT ha hl hn h64 (fun hne y hy => hXF _ (hX hne y hy)) h0 hc1 hc2 hC)
theorem sb_free {Si : SpP} {Ok : World → Prop} (S : Spc Si Ok) {W w : World} {X : Nat → Prop} {b : Nat} {s : Sd} (H : SpFree Si Ok) (h : Sb Si Ok W X w b s) (hC : sumC s.C ≤ 1000000) (n : Nat) (hn : n = s.free) :
    Calls Tryd.prog 17 #[.pointer (some ⟨b, 0, none⟩)] w fun e w' => e = .returned (.int .i64 (n : Int)) ∧ Sb Si Ok W X w' b s ∧ Below w.heap.size w w' := by
  subst hn
  exact h.look S (P := fun e => e = .returned (.int .i64 (s.free : Nat))) (fun F ho hT => H w b F s ho hT hC)
theorem sb_used {Si : SpP} {Ok : World → Prop} (S : Spc Si Ok) {W w : World} {X : Nat → Prop} {b : Nat} {s : Sd} (H : SpUsed Si Ok) (h : Sb Si Ok W X w b s) (i : Int) (hi : I64 i) (hC : sumC s.C ≤ 1000000) (R : Bool) (hR : R = s.uZ i) :
    Calls Tryd.prog 16 #[.pointer (some ⟨b, 0, none⟩), .int .i64 i] w fun e w' => e = .returned (.bool R) ∧ Sb Si Ok W X w' b s ∧ Below w.heap.size w w' := by
  subst hR
  exact h.look S (P := fun e => e = .returned (.bool (s.uZ i))) (fun F ho hT => H w b F s i ho hT hi hC)
theorem sb_of {Si : SpP} {Ok : World → Prop} (S : Spc Si Ok) {W w : World} {X : Nat → Prop} {b : Nat} {s : Sd} (H : SpOf Si Ok) (h : Sb Si Ok W X w b s) (i : Int) (hi : I64 i) (hC : sumC s.C ≤ 1000000) (n : Nat) (hn : n = s.of i) :
    Calls Tryd.prog 13 #[.pointer (some ⟨b, 0, none⟩), .int .i64 i] w fun e w' => e = .returned (.int .i64 (n : Int)) ∧ Sb Si Ok W X w' b s ∧ Below w.heap.size w w' := by
  subst hn
  exact h.look S (P := fun e => e = .returned (.int .i64 (s.of i : Nat))) (fun F ho hT => H w b F s i ho hT hi hC)
theorem sb_usedQ {Si : SpP} {Ok : World → Prop} (S : Spc Si Ok) {W w : World} {X : Nat → Prop} {b : Nat} {s : Sd} (H : SpUsedQ Si Ok) (h : Sb Si Ok W X w b s) (i : Int) (hi : I64 i) (hC : sumC s.C ≤ 1000000) (R : Bool) (hR : R = s.uZ i) (d : Nat) :
    Calls Tryd.prog 16 #[.pointer (some ⟨b, 0, none⟩), .int .i64 i] (w.drewN d) fun e w' => e = .returned (.bool R) ∧ ∃ k, w' = w.drewN k := by
  subst hR
  obtain ⟨F, h1, h2⟩ := (h.draws S d).at_
  exact (H (w.drewN d) b F s i ((h.draws S d).okw S) h1 hi hC).mono fun e w' ⟨e1, k, e2⟩ => ⟨e1, d + k, by rw [e2, World.drewN_drewN]⟩
theorem sb_ofQ {Si : SpP} {Ok : World → Prop} (S : Spc Si Ok) {W w : World} {X : Nat → Prop} {b : Nat} {s : Sd} (H : SpOfQ Si Ok) (h : Sb Si Ok W X w b s) (i : Int) (hi : I64 i) (hC : sumC s.C ≤ 1000000) (n : Nat) (hn : n = s.of i) (d : Nat) :
    Calls Tryd.prog 13 #[.pointer (some ⟨b, 0, none⟩), .int .i64 i] (w.drewN d) fun e w' => e = .returned (.int .i64 (n : Int)) ∧ ∃ k, w' = w.drewN k := by
  subst hn
  obtain ⟨F, h1, h2⟩ := (h.draws S d).at_
  exact (H (w.drewN d) b F s i ((h.draws S d).okw S) h1 hi hC).mono fun e w' ⟨e1, k, e2⟩ => ⟨e1, d + k, by rw [e2, World.drewN_drewN]⟩
theorem sb_waits {Si : SpP} {Ok : World → Prop} (S : Spc Si Ok) {W w : World} {X : Nat → Prop} {b : Nat} {s : Sd} (H : SpWaits Si Ok) (h : Sb Si Ok W X w b s) (hC : sumC s.C ≤ 1000000) (l : List Int) (hl : l = s.waits) :
    Calls Tryd.prog 12 #[.pointer (some ⟨b, 0, none⟩)] w fun e w' => ∃ v, e = .returned v ∧ OwnInts w' w.heap.size v l ∧ Sb Si Ok W X w' b s ∧ Below w.heap.size w w' := by
  subst hl
  obtain ⟨F, h1, h2⟩ := h.at_
  exact (H w b F s (h.okw S) h1 hC).mono fun e w' ⟨v, e1, e2, e3⟩ => ⟨v, e1, e2, h.newer S e3, e3⟩
theorem Sb.less {Si : SpP} {Ok : World → Prop} {W w : World} {X Y : Nat → Prop} {b : Nat} {s : Sd} (h : Sb Si Ok W X w b s) (hY : ∀ k, Y k → X k) : Sb Si Ok W Y w b s := by
  obtain ⟨F, h1, h2⟩ := h.at_
  exact ⟨h.ok, h.kept, F, h1, fun k e => h2 k (e.imp id (hY k))⟩
theorem Sb.end_ {Si : SpP} {Ok : World → Prop} {W w : World} {X : Nat → Prop} {b : Nat} {s : Sd} (h : Sb Si Ok W X w b s) : Below W.heap.size W w := ⟨h.kept.os, h.kept.tape, h.kept.output, h.kept.size, fun k hk => h.kept.block k hk (by omega)⟩
end Go.Proofs.YthfeecgpgempdaaDoor

/- A table of counts, whatever it is made of: the bundle that the laws of layer 12 lean on. -/
namespace Go.Proofs.YthfeecgpgempdaaDoor
set_option linter.unusedVariables false
set_option linter.unusedSimpArgs false
open Go.RowKit Dg

/-- The table at b has the counts C; it lies in the blocks F. -/
abbrev TbP := World → Nat → (Nat → Prop) → List Nat → Prop
/-- A call has made C of it. -/
def Turned (Ti : TbP) (w w' : World) (b : Nat) (F : Nat → Prop) (C : List Nat) : Prop := ∃ F' : Nat → Prop, Ti w' b F' C ∧ Kept F w w' ∧ ∀ k, F' k → F k ∨ w.heap.size ≤ k
def RfNewNo : Prop := ∀ (w : World) (n : Int), (n < 1 ∨ 4096 < n) → Calls Tryd.prog 48 #[.int .i64 n] w fun e w' => e = .returned (.tuple #[.pointer none, .int .i64 1]) ∧ w = w'
def RfOf (Ti : TbP) : Prop := ∀ (w : World) (b : Nat) (F : Nat → Prop) (C : List Nat) (i : Int), Ti w b F C → I64 i →
    Calls Tryd.prog 31 #[.pointer (some ⟨b, 0, none⟩), .int .i64 i] w fun e w' => e = .returned (.int .i64 (ofR C i : Nat)) ∧ ∃ k, w' = w.drewN k
def RfClone (Ti : TbP) : Prop := ∀ (w : World) (b : Nat) (F : Nat → Prop) (C : List Nat), Ti w b F C →
    Calls Tryd.prog 46 #[.pointer (some ⟨b, 0, none⟩)] w fun e w' => ∃ b' F', e = .returned (.pointer (some ⟨b', 0, none⟩)) ∧ Ti w' b' F' C ∧ (∀ k, F' k → w.heap.size ≤ k) ∧ Below w.heap.size w w'

/-- The table b has the counts C; the blocks X are none of its. -/
def Tb (Ti : TbP) (X : Nat → Prop) (w : World) (b : Nat) (C : List Nat) : Prop := ∃ F : Nat → Prop, Ti w b F C ∧ ∀ k, X k → ¬ F k ∧ k < w.heap.size
theorem Tb.less {Ti : TbP} {X Y : Nat → Prop} {w : World} {b : Nat} {C : List Nat} (h : Tb Ti X w b C) (hY : ∀ k, Y k → X k) : Tb Ti Y w b C := by
  obtain ⟨F, h1, h2⟩ := h
  exact ⟨F, h1, fun k e => h2 k (hY k e)⟩
/-- A call that turns it. -/
theorem Tb.call {Ti : TbP} {X : Nat → Prop} {w : World} {b f : Nat} {C C' : List Nat} {args : Array Value} {P : Ending → Prop} (h : Tb Ti X w b C)
    (hc : ∀ F : Nat → Prop, Ti w b F C → (∀ k, X k → ¬ F k) → Calls Tryd.prog f args w fun e w' => P e ∧ Turned Ti w w' b F C') :
    Calls Tryd.prog f args w fun e w' => P e ∧ Tb Ti X w' b C' ∧ Kept (fun k => ¬ X k) w w' := by
  obtain ⟨F, h1, h2⟩ := h
  refine (hc F h1 (fun k e => (h2 k e).1)).mono ?_
  rintro e w' ⟨hP, F', m1, m2, m4⟩
  refine ⟨hP, ⟨F', m1, fun k e => ⟨fun f => ?_, Nat.lt_of_lt_of_le (h2 k e).2 m2.size⟩⟩, m2.mono (fun i _ e e2 => (h2 i e2).1 e)⟩
  rcases m4 k f with f1 | f1
  · exact (h2 k e).1 f1
  · have := (h2 k e).2; omega
theorem tb_of {Ti : TbP} (O : RfOf Ti) {X : Nat → Prop} {w : World} {b : Nat} {C : List Nat} (h : Tb Ti X w b C) (i : Int) (hi : I64 i) (x : Nat) (hx : x = ofR C i) :
    Calls Tryd.prog 31 #[.pointer (some ⟨b, 0, none⟩), .int .i64 i] w fun e w' => e = .returned (.int .i64 (x : Int)) ∧ ∃ k, w' = w.drewN k := by
  obtain ⟨F, h1, -⟩ := h
  rw [hx]
  exact O w b F C i h1 hi
/-- A row of one number that was just built. -/
theorem lit1 (w : World) (x : Int) : IntsAt (w.alloc (.cells #[.int .i64 x] 3)) (some ⟨w.heap.size, 0, none⟩) [x] := by
  intro j y hj
  match j, hj with
  | 0, hj =>
    simp at hj
    subst hj
    exact ⟨w.heap.size, 0, rfl, by unfold World.cell?; rw [heap_alloc_new]; rfl⟩

end Go.Proofs.YthfeecgpgempdaaDoor

/- The program's table in memory: what it holds; has, Of, Sum. -/
namespace Go.Proofs.YthfeecgpgempdaaDoor
set_option linter.unusedVariables false
set_option linter.unusedSimpArgs false
open Go.RowKit Dg

/-- Counts as numbers. -/
def cI (C : List Nat) : List Int := C.map fun x : Nat => (x : Int)
theorem length_cI (C : List Nat) : (cI C).length = C.length := by simp [cI]
theorem cI_get (C : List Nat) (k : Nat) : (cI C)[k]? = C[k]?.map fun x : Nat => (x : Int) := by simp [cI]
theorem cI_set (C : List Nat) (k x : Nat) : cI (C.set k x) = (cI C).set k (x : Int) := by simp [cI]
theorem cI_nought (n : Nat) : cI (List.replicate n 0) = List.replicate n 0 := by simp [cI]

/-- A table in memory: its field at b, its counts at g. -/
structure TaIs (w : World) (b g c : Nat) (C : List Nat) : Prop where
  box : w.heap[b]? = some (.cells #[.slice (some ⟨g, 0, none⟩) C.length c] 73 (0, 0))
  row : w.ownsRow 0 3 1 (.slice (some ⟨g, 0, none⟩) C.length c) C.length (i64s (cI C))
  pos : 1 ≤ C.length
  le : C.length ≤ 4096
  ne : b ≠ g
theorem TaIs.cell {w : World} {b g c : Nat} {C : List Nat} (h : TaIs w b g c C) : w.cell? ⟨b, 0, none⟩ = some (.slice (some ⟨g, 0, none⟩) C.length c) := by
  have e := h.box
  unfold World.cell?; rw [e]; rfl
theorem TaIs.lt {w : World} {b g c : Nat} {C : List Nat} (h : TaIs w b g c C) : b < w.heap.size ∧ g < w.heap.size :=
  ⟨(Array.getElem?_eq_some_iff.1 h.box).1, (World.ownsRow.lt h.row g rfl).2⟩
theorem TaIs.kept {w w' : World} {b g c : Nat} {C : List Nat} {X : Nat → Prop} (h : TaIs w b g c C) (hk : Kept X w w') (h1 : ¬ X b) (h2 : ¬ X g) : TaIs w' b g c C :=
  { h with
    box := by rw [hk.block b h.lt.1 h1]; exact h.box
    row := ownsRow_other h.row hk (fun k e => by cases e; exact h2) }
theorem TaIs.draws {w : World} {b g c : Nat} {C : List Nat} (h : TaIs w b g c C) (n : Nat) : TaIs (w.drewN n) b g c C :=
  h.kept (X := fun _ => False) ⟨rfl, rfl, rfl, Nat.le_refl _, fun _ _ _ => rfl⟩ (fun h => h) (fun h => h)
/-- One of its counts. -/
theorem TaIs.get {w : World} {b g c : Nat} {C : List Nat} (h : TaIs w b g c C) {j x : Nat} (hx : C[j]? = some x) :
    w.cell? ⟨g, j, none⟩ = some (.int .i64 (x : Int)) ∧ w.frozen? ⟨g, j, none⟩ = false := by
  have hj : j < C.length := (List.getElem?_eq_some_iff.1 hx).1
  rcases h.row.2 with ⟨e1, e2⟩ | ⟨g', cap', cur, hv, hgb, hh, hncap, _, hcs, htake⟩
  · cases e1
  · cases hv
    refine ⟨?_, by simp [World.frozen?, hh]⟩
    have e : (i64s (cI C))[j]? = some (.int .i64 (x : Int)) := by rw [i64s_get, cI_get, hx]; rfl
    rw [← htake, List.getElem?_take, if_pos (by omega)] at e
    simp only [World.cell?, hh]
    simpa using e
/-- One of its counts is written. -/
theorem TaIs.set {w : World} {b g c : Nat} {C : List Nat} (h : TaIs w b g c C) {j : Nat} (hj : j < C.length) (y : Nat) :
    TaIs (w.setCell ⟨g, j, none⟩ (.int .i64 (y : Int))) b g c (C.set j y) := by
  have hk : Kept (fun k => k = g) w (w.setCell ⟨g, j, none⟩ (.int .i64 (y : Int))) := Kept.setCell _ _ _ rfl
  refine ⟨?_, ?_, by rw [List.length_set]; exact h.pos, by rw [List.length_set]; exact h.le, h.ne⟩
  · rw [hk.block b h.lt.1 h.ne, List.length_set]
    exact h.box
  · have e := ownsRow_set h.row j hj (.int .i64 (y : Int))
    have e2 : (i64s (cI C)).set j (.int .i64 (y : Int)) = i64s (cI (C.set j y)) := by rw [cI_set]; simp [i64s]
    rw [e2] at e
    rw [List.length_set]
    exact e
/-- What lies in the blocks F. -/
def Ta (w : World) (b : Nat) (F : Nat → Prop) (C : List Nat) : Prop := ∃ g c, TaIs w b g c C ∧ ∀ k, F k ↔ k = b ∨ k = g
theorem TaIs.ta {w : World} {b g c : Nat} {C : List Nat} (h : TaIs w b g c C) : Ta w b (fun k => k = b ∨ k = g) C := ⟨g, c, h, fun k => Iff.rfl⟩
theorem TaIs.turned {w w' : World} {b g c : Nat} {F : Nat → Prop} {C : List Nat} (h : TaIs w' b g c C) (hk : Kept (fun k => k = g) w w') (hF : ∀ k, F k ↔ k = b ∨ k = g) : Turned Ta w w' b F C :=
  ⟨_, h.ta, hk.mono fun k _ e => (hF k).2 (.inr e), fun k e => .inl ((hF k).2 e)⟩

set_option maxRecDepth 100000 in
set_option maxHeartbeats 1000000 in
theorem thas_is (w : World) (b g c : Nat) (C : List Nat) (h : TaIs w b g c C) (i : Int) (hi : I64 i) (R : Bool) (hR : R = decide (isSec C i)) :
    Calls Tryd.prog 50 #[.pointer (some ⟨b, 0, none⟩), .int .i64 i] w fun e w' => e = .returned (.bool R) ∧ w = w' := by
  have c0 := h.cell
  obtain ⟨n, hn⟩ : ∃ n, n = C.length := ⟨_, rfl⟩
  obtain ⟨hi1, hi2⟩ := hi
  have hR2 : R = decide (0 ≤ i ∧ i < (n : Int)) := by rw [hR, hn]; rfl
  rw [← hn] at c0
  clear h hn hR
  rcases (by omega : i < 0 ∨ (0 ≤ i ∧ i < (n : Int)) ∨ (0 ≤ i ∧ (n : Int) ≤ i)) with h1 | ⟨h1, h2⟩ | ⟨h1, h2⟩
  · obtain rfl : R = false := by rw [hR2]; exact decide_eq_false (by omega)
    clear hR2
    go_enter Tryd.func50, Tryd.ntmps50
    go_wp2_with fail
    go_ret
    exact ⟨rfl, rfl⟩
  · obtain rfl : R = true := by rw [hR2]; exact decide_eq_true (by omega)
    clear hR2
    go_enter Tryd.func50, Tryd.ntmps50
    go_wp2_with fail
    go_ret
    exact ⟨rfl, rfl⟩
  · obtain rfl : R = false := by rw [hR2]; exact decide_eq_false (by omega)
    have hb : decide (i < (n : Int)) = false := decide_eq_false (by omega)
    clear hR2
    go_enter Tryd.func50, Tryd.ntmps50
    go_wp2_with fail
    go_ret
    exact ⟨rfl, rfl⟩
set_option maxRecDepth 100000 in
set_option maxHeartbeats 1000000 in
theorem tof_is (w : World) (b g c : Nat) (C : List Nat) (h : TaIs w b g c C) (i : Int) (hi : I64 i) (x : Nat) (hx : x = ofR C i) :
    Calls Tryd.prog 31 #[.pointer (some ⟨b, 0, none⟩), .int .i64 i] w fun e w' => e = .returned (.int .i64 (x : Int)) ∧ ∃ k, w' = w.drewN k := by
  have HH := hid_of (thas_is w b g c C h i hi _ rfl)
  have c0 := h.cell
  obtain ⟨hi1, hi2⟩ := hi
  by_cases hin : isSec C i
  · have hin2 := hin
    obtain ⟨k, rfl⟩ : ∃ k : Nat, i = (k : Int) := ⟨i.toNat, by have := hin.1; omega⟩
    have hk : k < C.length := by have := hin.2; omega
    have hc : C[k]? = some x := by
      rw [hx]
      unfold ofR
      rw [if_pos hin, Int.toNat_natCast, List.getD_eq_getElem?_getD, List.getElem?_eq_getElem hk]
      rfl
    obtain ⟨c1, -⟩ := h.get hc
    obtain ⟨n, hn⟩ : ∃ n, n = C.length := ⟨_, rfl⟩
    rw [decide_eq_true hin] at HH
    rw [← hn] at c0 hk
    clear h hx hin hin2 hc hn
    go_enter Tryd.func31, Tryd.ntmps31
    go_wp2_with fail
    refine HH.out.mono ?_
    rintro e w1 ⟨rfl, rfl⟩
    go_wp2_with fail
    go_ret
    exact ⟨rfl, 0, rfl⟩
  · have e : x = 0 := by rw [hx]; unfold ofR; rw [if_neg hin]
    subst e
    rw [decide_eq_false hin] at HH
    clear h hx hin
    go_enter Tryd.func31, Tryd.ntmps31
    go_wp2_with fail
    refine HH.out.mono ?_
    rintro e w1 ⟨rfl, rfl⟩
    go_wp2_with fail
    go_ret
    exact ⟨rfl, 0, rfl⟩
theorem sumTo_upto (C : List Nat) : ∀ {j k : Nat}, j ≤ k → sumTo C j ≤ sumTo C k := by
  intro j k h
  induction k with
  | zero => obtain rfl : j = 0 := by omega
            exact Nat.le_refl _
  | succ k ih =>
    by_cases e : j = k + 1
    · rw [e]; exact Nat.le_refl _
    · have := ih (by omega)
      have e2 : sumTo C (k + 1) = sumTo C k + C.getD k 0 := rfl
      omega
end Go.Proofs.YthfeecgpgempdaaDoor

/- The program's table: New, Drop, Owned. -/
namespace Go.Proofs.YthfeecgpgempdaaDoor
set_option linter.unusedVariables false
set_option linter.unusedSimpArgs false
open Go.RowKit Dg

theorem ints_new (w : World) (base : Nat) (Z : Array Value) (N : Nat) (l : List Int) (hZ : Z.toList = i64s l) (hl : l.length = N) (hN : N ≤ 1000000) (hb : base ≤ w.heap.size) :
    (w.alloc (.cells Z 3)).ownsRow base 3 1 (.slice (some ⟨w.heap.size, 0, none⟩) N N) N (i64s l) := by
  have hs : Z.size = N := by have := congrArg List.length hZ; simpa [hl] using this
  refine ⟨by simp [hl], .inr ⟨w.heap.size, N, Z, rfl, hb, heap_alloc_new w _, Nat.le_refl _, by unfold maxLen; omega, by omega, ?_⟩⟩
  rw [hZ]; exact List.take_of_length_le (by simp [hl])
set_option maxRecDepth 100000 in
set_option maxHeartbeats 1000000 in
theorem tnew_is (w : World) (n : Nat) (h1 : 1 ≤ n) (h2 : n ≤ 4096) :
    Calls Tryd.prog 48 #[.int .i64 (n : Int)] w fun e w' => ∃ b g c, e = .returned (.tuple #[.pointer (some ⟨b, 0, none⟩), .int .i64 0]) ∧ TaIs w' b g c (List.replicate n 0) ∧ w.heap.size ≤ b ∧ w.heap.size ≤ g ∧ Below w.heap.size w w' := by
  obtain ⟨i0, hi, hz0, hz1, hz2⟩ := info_parts Tryd.info3
  obtain ⟨Z, hZ⟩ : ∃ Z, Z = madeCells (Value.int .i64 0).cells (n * i0.size) := ⟨_, rfl⟩
  have hmk : ∀ W : World, (Instr.makeSlice 30 (.int .i64 (n : Int)) (.int .i64 (n : Int))).run Tryd.prog W = .ok (.slice (some ⟨W.heap.size, 0, none⟩) n n) (W.alloc (.cells Z 3)) := by
    intro W
    have h := run_make (P := Tryd.prog) W 30 3 i0 (.int .i64 0) Tryd.underlying30 hi hz0 .i64 .i64 n n (by omega) (by omega) (by rw [hz2]; omega) (by omega)
    simp only [Int.toNat_natCast] at h
    rw [hZ]
    exact h
  have HZ : Hid (Z.toList = i64s (cI (List.replicate n 0))) := by show _ = _; rw [hZ, hz1, cI_nought]; exact madeI n
  have HO : Hid ((w.alloc (.cells Z 3)).ownsRow w.heap.size 3 1 (.slice (some ⟨w.heap.size, 0, none⟩) n n) n (i64s (cI (List.replicate n 0)))) := ints_new w _ Z n _ HZ.out (by rw [length_cI]; simp) (by omega) (Nat.le_refl _)
  clear hZ
  go_enter Tryd.func48, Tryd.ntmps48
  go_wp2_with fail
  go_ret2
  have hbel : Below w.heap.size w (w.alloc (.cells Z 3)) := (Below.refl _ _).alloc (Nat.le_refl _) _
  have hN : (w.alloc (.cells Z 3)).heap.size = w.heap.size + 1 := by simp
  refine ⟨w.heap.size + 1, w.heap.size, n, rfl, ⟨?_, ?_, by simpa using h1, by simpa using h2, by omega⟩, by omega, Nat.le_refl _, hbel.alloc hbel.size _⟩
  · rw [← hN, heap_alloc_new, List.length_replicate]
  · rw [List.length_replicate]
    exact ownsRow_base (World.ownsRow.alloc HO.out _) (Nat.zero_le _)
set_option maxRecDepth 100000 in
set_option maxHeartbeats 1000000 in
theorem tnew_no : RfNewNo := by
  intro w n h
  rcases (by omega : n < 1 ∨ (1 ≤ n ∧ 4096 < n)) with h | ⟨h0, h⟩
  · go_enter Tryd.func48, Tryd.ntmps48
    go_wp2_with fail
    go_ret2
    exact ⟨rfl, rfl⟩
  · go_enter Tryd.func48, Tryd.ntmps48
    go_wp2_with fail
    go_ret2
    exact ⟨rfl, rfl⟩
set_option maxRecDepth 100000 in
set_option maxHeartbeats 2000000 in
theorem tdrop_is (w : World) (b g c : Nat) (C : List Nat) (h : TaIs w b g c C) (i : Int) (hi : I64 i) (hs : sumC C ≤ 1000000) :
    Calls Tryd.prog 32 #[.pointer (some ⟨b, 0, none⟩), .int .i64 i] w fun e w' => e = .returned (.tuple #[.int .i64 ((dropR C i).1 : Nat), .bool (dropR C i).2]) ∧ TaIs w' b g c (dropS C i) ∧ Kept (fun k => k = g) w w' := by
  have HH := hid_of (tof_is w b g c C h i hi _ rfl)
  have H0 := hid_of h
  have c0 := h.cell
  obtain ⟨hi1, hi2⟩ := hi
  by_cases hin : isSec C i ∧ 0 < C.getD i.toNat 0
  · have hin2 := hin
    obtain ⟨k, rfl⟩ : ∃ k : Nat, i = (k : Int) := ⟨i.toNat, by have := hin.1.1; omega⟩
    have hk : k < C.length := by have := hin.1.2; omega
    obtain ⟨x, hx⟩ : ∃ x, C[k]? = some x := ⟨_, List.getElem?_eq_getElem hk⟩
    have hg : C.getD k 0 = x := by rw [List.getD_eq_getElem?_getD, hx]; rfl
    have hx0 : 0 < x := by have := hin.2; rw [Int.toNat_natCast, hg] at this; exact this
    have hof : ofR C (k : Int) = x := by unfold ofR; rw [if_pos hin.1, Int.toNat_natCast, hg]
    have hx2 : x ≤ 1000000 := by rw [← hg]; exact Nat.le_trans (getD_le_sumC k) hs
    rw [hof] at HH
    obtain ⟨y, rfl⟩ : ∃ y, x = y + 1 := ⟨x - 1, by omega⟩
    obtain ⟨e1, e2⟩ := drop_yes hx hx0
    rw [e1, e2]
    have HG : Hid (∀ m, (w.drewN m).cell? ⟨g, k, none⟩ = some (.int .i64 ((y + 1 : Nat) : Int)) ∧ (w.drewN m).frozen? ⟨g, k, none⟩ = false ∧ (w.drewN m).cell? ⟨b, 0, none⟩ = some (.slice (some ⟨g, 0, none⟩) C.length c)) := fun m =>
      ⟨(H0.out.draws m |>.get hx).1, (H0.out.draws m |>.get hx).2, (H0.out.draws m).cell⟩
    have HS : Hid (∀ m, TaIs ((w.drewN m).setCell ⟨g, k, none⟩ (.int .i64 (y : Int))) b g c (C.set k y) ∧ Kept (fun k => k = g) w ((w.drewN m).setCell ⟨g, k, none⟩ (.int .i64 (y : Int)))) := fun m =>
      ⟨(H0.out.draws m).set hk y, (⟨rfl, rfl, rfl, Nat.le_refl _, fun _ _ _ => rfl⟩ : Kept (fun k => k = g) w (w.drewN m)).trans (Kept.setCell _ _ _ rfl)⟩
    have HNE : Hid (b ≠ g) := h.ne
    have hlen : Hid (∀ w' , TaIs w' b g c (C.set k y) → w'.cell? ⟨b, 0, none⟩ = some (.slice (some ⟨g, 0, none⟩) C.length c) ∧ w'.cell? ⟨g, k, none⟩ = some (.int .i64 (y : Int))) := fun w' h' => by
      have e := h'.cell
      rw [List.length_set] at e
      exact ⟨e, (h'.get (by rw [List.getElem?_set_self hk])).1⟩
    obtain ⟨n, hn⟩ : ∃ n, n = C.length := ⟨_, rfl⟩
    rw [← hn] at c0 HG hk hlen
    clear h hin hin2 hx hg hof hs e1 e2 hn
    show Calls Tryd.prog _ _ w fun e w' => e = .returned (.tuple #[.int .i64 ((y : Nat) : Int), .bool true]) ∧ TaIs w' b g c (C.set k y) ∧ Kept (fun k => k = g) w w'
    go_enter Tryd.func32, Tryd.ntmps32
    go_wp2_with fail
    refine HH.out.mono ?_
    rintro e w1 ⟨rfl, m, rfl⟩
    obtain ⟨d1, d2, d3⟩ := HG.out m
    obtain ⟨d4, d5⟩ := hlen.out _ (HS.out m).1
    go_wp2_with fail
    go_ret2
    exact ⟨rfl, (HS.out m).1, (HS.out m).2⟩
  · obtain ⟨e1, e2⟩ := drop_no hin
    rw [e1, e2]
    have hof : ofR C i = 0 := by
      unfold ofR
      split
      · rename_i h1
        have : ¬ 0 < C.getD i.toNat 0 := fun h2 => hin ⟨h1, h2⟩
        omega
      · rfl
    rw [hof] at HH
    clear h hin hs e1 e2 hof
    show Calls Tryd.prog _ _ w fun e w' => e = .returned (.tuple #[.int .i64 0, .bool false]) ∧ TaIs w' b g c C ∧ Kept (fun k => k = g) w w'
    go_enter Tryd.func32, Tryd.ntmps32
    go_wp2_with fail
    refine HH.out.mono ?_
    rintro e w1 ⟨rfl, m, rfl⟩
    go_wp2_with fail
    go_ret2
    exact ⟨rfl, H0.out.draws m, ⟨rfl, rfl, rfl, Nat.le_refl _, fun _ _ _ => rfl⟩⟩
end Go.Proofs.YthfeecgpgempdaaDoor

/- The program's table: Add, Clone; all of it together: the bundle of the landed code. -/
namespace Go.Proofs.YthfeecgpgempdaaDoor
set_option linter.unusedVariables false
set_option linter.unusedSimpArgs false
open Go.RowKit Dg

set_option maxRecDepth 100000 in
set_option maxHeartbeats 4000000 in
theorem tadd_is (w : World) (b g c : Nat) (C : List Nat) (h : TaIs w b g c C) (a : Option Addr) (n cap : Nat) (l : List Int) (ha : IntsAt w a l) (hl : l.length = n) (hn : n ≤ 100000) (h64 : ∀ x ∈ l, I64 x) (hX : l ≠ [] → ∀ y, a = some y → y.block ≠ g) (hs : sumC C ≤ 1000000) (R : Bool) (hR : R = okZ C l) (C2 : List Nat) (hC2 : C2 = addS C l) :
    Calls Tryd.prog 28 #[.pointer (some ⟨b, 0, none⟩), .slice a n cap] w fun e w' => e = .returned (.bool R) ∧ TaIs w' b g c C2 ∧ Kept (fun k => k = g) w w' := by
  have H := hid_of h
  have HI := hid_of ha
  have H6 := hid_of h64
  have HX := hid_of hX
  have HL := hid_of hl
  have HSU := hid_of hs
  have HR := hid_of hR
  have HC2 := hid_of hC2
  clear h ha h64 hX hl hs hR hC2
  go_enter Tryd.func28, Tryd.ntmps28
  go_wp2_with fail
  go_loopw [11] (fun i wr => ∃ j m : Nat, j ≤ n ∧ i = .int .i64 (j : Int) ∧ Hid (∀ x ∈ l.take j, isSec C x) ∧ wr = w.drewN m) (fun i _ => n - (intOf i).toNat)
  case atStart => exact ⟨0, 0, Nat.zero_le _, rfl, (fun x hx => by simp at hx), rfl⟩
  case round =>
    obtain ⟨j, m, hj, rfl, HA, rfl⟩ := hrel
    by_cases hjn : j < n
    · obtain ⟨x, hx⟩ : ∃ x, l[j]? = some x := ⟨_, List.getElem?_eq_getElem (by have := HL.out; omega)⟩
      obtain ⟨ab, off, rfl, hc⟩ := HI.out j x hx
      have hm : x ∈ l := List.mem_of_getElem? hx
      have HM := hid_of hm
      have HT := hid_of (take_next l j x hx)
      by_cases hsx : isSec C x
      · have HH := hid_of (thas_is (w.drewN m) b g c C (H.out.draws m) x (H6.out x hm) true (decide_eq_true hsx).symm)
        have HA2 : Hid (∀ x ∈ l.take (j + 1), isSec C x) := fun y hy => by
          rw [HT.out] at hy
          rcases List.mem_append.1 hy with hy | hy
          · exact HA.out y hy
          · rw [List.mem_singleton.1 hy]; exact hsx
        clear hx hm hsx
        go_wp2_with fail
        refine HH.out.mono ?_
        rintro e w1 ⟨rfl, rfl⟩
        go_wp2_with fail
        all_goals go_roundw
        case rel => exact ⟨j + 1, m, by omega, by go_num, HA2, rfl⟩
        case measure => simp [intOf]; omega
      · have HH := hid_of (thas_is (w.drewN m) b g c C (H.out.draws m) x (H6.out x hm) false (decide_eq_false hsx).symm)
        have hno : okZ C l = false := by
          cases e : okZ C l with
          | false => rfl
          | true => exact absurd ((okZ_iff C l).1 e x hm) hsx
        have hno2 : addS C l = C := by unfold addS; rw [hno]; rfl
        obtain rfl : R = false := HR.out.trans hno
        obtain rfl : C2 = C := HC2.out.trans hno2
        clear hx hm hsx hno hno2
        go_wp2_with fail
        refine HH.out.mono ?_
        rintro e w1 ⟨rfl, rfl⟩
        go_wp2_with fail
        go_ret
        exact ⟨rfl, H.out.draws m, ⟨rfl, rfl, rfl, Nat.le_refl _, fun _ _ _ => rfl⟩⟩
    · obtain rfl : j = n := by omega
      have hall : ∀ x ∈ l, isSec C x := by
        have := HA.out
        rw [List.take_of_length_le (by have := HL.out; omega)] at this
        exact this
      have hyes : okZ C l = true := (okZ_iff C l).2 hall
      have hyes2 : addS C l = addZ C l := by unfold addS; rw [if_pos hyes]
      obtain rfl : R = true := HR.out.trans hyes
      obtain rfl : C2 = addZ C l := HC2.out.trans hyes2
      have HS := hid_of hall
      clear hall hyes hyes2 HA hjn
      go_wp2_with fail
      go_loopw [22] (fun i wr => ∃ k : Nat, k ≤ j ∧ i = .int .i64 (k : Int) ∧ Hid (TaIs wr b g c (addZ C (l.take k))) ∧ Hid (Kept (fun k => k = g) w wr)) (fun i _ => j - (intOf i).toNat)
      case atStart => exact ⟨0, Nat.zero_le _, rfl, H.out.draws m, (⟨rfl, rfl, rfl, Nat.le_refl _, fun _ _ _ => rfl⟩ : Kept (fun k => k = g) w (w.drewN m))⟩
      case round =>
        obtain ⟨k, hk, rfl, HT, HK⟩ := hrel
        by_cases hkn : k < j
        · obtain ⟨x, hx⟩ : ∃ x, l[k]? = some x := ⟨_, List.getElem?_eq_getElem (by have := HL.out; omega)⟩
          have hm : x ∈ l := List.mem_of_getElem? hx
          have hsx := HS.out x hm
          obtain ⟨p, rfl⟩ : ∃ p : Nat, x = (p : Int) := ⟨x.toNat, by have := hsx.1; omega⟩
          obtain ⟨ab, off, rfl, hc⟩ := HI.out.kept HK.out (fun y hy e => HX.out (fun e2 => by rw [e2] at hx; simp at hx) y hy e) k _ hx
          have hp : p < C.length := by have := hsx.2; omega
          obtain ⟨D, hD⟩ : ∃ D, D = addZ C (l.take k) := ⟨_, rfl⟩
          have hDl : D.length = C.length := by rw [hD, length_addZ]
          have hsec : ∀ x ∈ l.take k, isSec C x := fun y hy => HS.out y (List.mem_of_mem_take hy)
          have hDs : sumC D ≤ 1100000 := by
            rw [hD, sumC_add _ _ hsec, List.length_take]
            have := HSU.out
            omega
          obtain ⟨y, hy⟩ : ∃ y, D[p]? = some y := ⟨_, List.getElem?_eq_getElem (by omega)⟩
          have hg : D.getD p 0 = y := by rw [List.getD_eq_getElem?_getD, hy]; rfl
          have hy2 : y ≤ 1100000 := by rw [← hg]; exact Nat.le_trans (getD_le_sumC p) hDs
          have HN : Hid (addZ C (l.take (k + 1)) = D.set p (y + 1)) := by
            show _ = _
            rw [take_next l k _ hx, addZ_snoc, ← hD, Int.toNat_natCast, hg]
          rw [← hD] at HT
          obtain ⟨d1, d2⟩ := HT.out.get hy
          have d3 := HT.out.cell
          obtain ⟨N, hN⟩ : ∃ N, N = D.length := ⟨_, rfl⟩
          rw [← hN] at d3
          have hpN : p < N := by omega
          have HT2 : Hid (TaIs (wr.setCell ⟨g, p, none⟩ (.int .i64 ((y + 1 : Nat) : Int))) b g c (addZ C (l.take (k + 1)))) := by
            rw [HN.out]
            exact HT.out.set (by omega) (y + 1)
          have HK2 : Hid (Kept (fun k => k = g) w (wr.setCell ⟨g, p, none⟩ (.int .i64 ((y + 1 : Nat) : Int)))) := HK.out.trans (Kept.setCell _ _ _ rfl)
          clear hx hm hsx hsec hD hDl hDs hy hg hN hp
          go_wp2_with fail
          all_goals go_roundw
          case rel => exact ⟨k + 1, by omega, by go_num, HT2, HK2⟩
          case measure => simp [intOf]; omega
        · obtain rfl : k = j := by omega
          have e : l.take k = l := List.take_of_length_le (by have := HL.out; omega)
          rw [e] at HT
          clear e
          go_wp2_with fail
          go_ret
          exact ⟨rfl, HT.out, HK.out⟩
theorem oneC_i (l : List Int) : ∀ u ∈ i64s l, u.oneCell' = true := by
  intro u hu
  obtain ⟨x, -, rfl⟩ := List.mem_map.1 hu
  rfl
set_option maxHeartbeats 1000000 in
set_option maxRecDepth 100000 in
/-- 'slices.Clone' of numbers. -/
theorem tci_any (w : World) (g n c : Nat) (l : List Int) (hn1 : 1 ≤ n) (hn2 : n ≤ 100000) (h : w.ownsRow 0 3 1 (.slice (some ⟨g, 0, none⟩) n c) n (i64s l)) :
    Calls Tryd.prog 54 #[.slice (some ⟨g, 0, none⟩) n c] w fun e w' => ∃ g2 c2, e = .returned (.slice (some ⟨g2, 0, none⟩) n c2) ∧ w'.ownsRow w.heap.size 3 1 (.slice (some ⟨g2, 0, none⟩) n c2) n (i64s l) ∧ Below w.heap.size w w' := by
  obtain ⟨i0, hi, hz0, hz1, hz2⟩ := info_parts Tryd.info3
  have qT : ∀ (w : World) (a : Option Addr) (n c n' c' : Nat), (binOp .eql 30 (.slice a n c) (.slice none n' c')).run Tryd.prog w = .ok (.bool a.isNone) w := fun w a n c n' c' => Lib.run_eql_slice_nil w _ _ a n c n' c' Tryd.underlying30
  have HB0 : Hid (Below w.heap.size w (w.alloc (.cells #[] 3))) := (Below.refl _ _).alloc (Nat.le_refl _) _
  have HO : Hid ((w.alloc (.cells #[] 3)).ownsRow w.heap.size 3 1 (.slice (some ⟨w.heap.size, 0, none⟩) 0 0) 0 []) := ints_new w w.heap.size #[] 0 [] rfl rfl (by decide) (Nat.le_refl _)
  have hl : l.length = n := by have := h.1; simpa using this
  have HL := hid_of hl
  have HC : Hid (∀ j u, (i64s l)[j]? = some u → (w.alloc (.cells #[] 3)).cell? ((⟨g, 0, none⟩ : Addr).add j) = some u) := fun j u hu => by
    rw [i64s_get] at hu
    obtain ⟨x, hx, rfl⟩ := Option.map_eq_some_iff.1 hu
    obtain ⟨b, off, e, hc⟩ := IntsAt.of_owns h j x hx
    cases e
    have hadd : (⟨g, 0, none⟩ : Addr).add j = ⟨g, 0 + j, none⟩ := by simp [Addr.add]; omega
    rw [hadd, (Kept.alloc (fun _ => False) w _).cell (World.ownsRow.lt h g rfl).2 (fun h => h)]
    exact hc
  clear h hl
  go_enter Tryd.func54, Tryd.ntmps54
  go_wp2_with (at_builtin; go_must (refine wpList_append_mine _ rfl (.tmp 5) (.tmp 6) 30 rfl w.heap.size 3 i0 (.int .i64 0) 1 8 Tryd.underlying30 hi hz0 hz1 hz2 rfl (by decide) _ 0 [] rfl HO.out ⟨g, 0, none⟩ n c (i64s l) rfl ?c1 HC.out (oneC_i l) (by omega) ?b1 ?b2 HB0.out.size ?_))
  case c1 => rw [length_i64s, HL.out, Nat.mul_one]
  case b1 => unfold maxLen; omega
  case b2 => omega
  intro g2 c2 w2 H1 H2 H3
  have HO2 : Hid (w2.ownsRow w.heap.size 3 1 (.slice (some ⟨g2, 0, none⟩) n c2) n (i64s l)) := by
    first
      | exact H1
      | (have e := H1.out; rw [Nat.zero_add] at e; exact e)
  have HB2 : Hid (Below w.heap.size w w2) := HB0.out.grown H2.out HB0.out.size (fun k e => by cases e; exact Nat.le_refl _)
  clear H1 H2 H3
  try rw [Nat.zero_add]
  go_wp2_with fail
  go_ret
  exact ⟨g2, c2, rfl, HO2.out, HB2.out⟩
set_option maxHeartbeats 4000000 in
set_option maxRecDepth 100000 in
theorem tclone_is (w : World) (b g c : Nat) (C : List Nat) (h : TaIs w b g c C) :
    Calls Tryd.prog 46 #[.pointer (some ⟨b, 0, none⟩)] w fun e w' => ∃ b2 g2 c2, e = .returned (.pointer (some ⟨b2, 0, none⟩)) ∧ TaIs w' b2 g2 c2 C ∧ w.heap.size ≤ b2 ∧ w.heap.size ≤ g2 ∧ Below w.heap.size w w' := by
  have c0 := h.cell
  have H0 := hid_of h
  obtain ⟨n, hn⟩ : ∃ n, n = C.length := ⟨_, rfl⟩
  have hr := h.row
  rw [← hn] at c0 hr
  have HC := hid_of (tci_any w g n c (cI C) (by have := h.pos; omega) (by have := h.le; omega) hr)
  have HN := hid_of hn
  clear h hn hr
  go_enter Tryd.func46, Tryd.ntmps46
  go_wp2_with fail
  refine HC.out.mono ?_
  rintro e w2 ⟨g2, c2, rfl, ho2, hb2⟩
  have HO2 := hid_of ho2
  have HB2 := hid_of hb2
  clear ho2 hb2
  go_wp2_with fail
  go_ret
  have hg := World.ownsRow.lt HO2.out g2 rfl
  have hg' : w.heap.size ≤ g2 := hg.1
  have hsz := HB2.out.size
  refine ⟨w2.heap.size, g2, c2, rfl, ⟨?_, ?_, H0.out.pos, H0.out.le, ?_⟩, hsz, hg', HB2.out.alloc hsz _⟩
  · rw [heap_alloc_new, ← HN.out]
  · rw [← HN.out]
    exact ownsRow_base (World.ownsRow.alloc HO2.out _) (Nat.zero_le _)
  · have := hg.2
    omega

theorem rfOfW : RfOf Ta := fun w b F C i ⟨g, c, h, hF⟩ hi => tof_is w b g c C h i hi _ rfl
theorem rfCloneW : RfClone Ta := fun w b F C ⟨g, c, h, hF⟩ => (tclone_is w b g c C h).mono fun e w' ⟨b2, g2, c2, e1, e2, e3, e4, e5⟩ => ⟨b2, _, e1, e2.ta, fun k hk => by rcases hk with rfl | rfl <;> assumption, e5⟩

end Go.Proofs.YthfeecgpgempdaaDoor
