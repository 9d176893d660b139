/- The texts SuP1, SuP3, SuP4, SuP5, SuP2, one behind the other. -/
import Derived.Test.YtdcnbakmmkbodaaPart05
import Derived.Test.YtdcnbakmmkbodaaPart03
import Derived.Test.YtdcnbakmmkbodaaPart10
import Derived.Test.YtdcnbakmmkbodaaPart09
import Derived.Test.YtdcnbakmmkbodaaPart07

/- The landed superblocks: Pack, its region walked operation by operation. -/
namespace Go.Proofs.Ytdcnbakmmkbodaa
set_option linter.unusedVariables false
set_option linter.unusedSimpArgs false
open Go.RowKit Dg Cr

/-- 'make([]byte, n, m)': noughts, in a block of their own. -/
theorem wpList_make_zeros {P : Program} (w : World) {ops : Array Oper} {rest : List Oper} {o : Oper} {a : Act} {Q : Exit → Act → World → Prop}
    (hg : o.guard = none) (l c : Operand) (t : TypeId) (hop : o.op = Op.makeSlice t l c)
    (i : TypeInfo) (h1 : P.underlying t = some (.slice 5)) (h2 : P.info? 5 = some i) (h3 : i.zero = some (.int .u8 0)) (hs1 : i.size = 1) (hs2 : i.bytes = 1)
    (n m : Nat) (hl : a.eval l = .int .i64 (n : Int)) (hc : a.eval c = .int .i64 (m : Int)) (hnm : n ≤ m) (hm : m ≤ 100000)
    (hK : ∀ w', Hid (w' = w.alloc (.cells (madeCells (Value.int .u8 0).cells (m * 1)) 5)) → Hid (w'.ownsRow w.heap.size 5 1 (.slice (some ⟨w.heap.size, 0, none⟩) n m) n (u8s (List.replicate n 0))) → wpList P ops Q rest (a.put o.dst (.slice (some ⟨w.heap.size, 0, none⟩) n m)) w') :
    wpList P ops Q (o :: rest) a w := by
  refine wpList_plain hg fun K hK' => ?_
  have hrun := run_make (P := P) w t 5 i (.int .u8 0) h1 h2 h3 .i64 .i64 (n : Int) (m : Int) (by omega) (by omega) (by rw [hs2]; omega) (by omega)
  simp only [Int.toNat_natCast] at hrun
  unfold Oper.wp
  simp [execOp, hop, hl, hc, hrun, Result.andThen]
  refine hK' _ _ ?_
  have e := hK (w.alloc (.cells (madeCells (Value.int .u8 0).cells (m * 1)) 5)) rfl ?_
  · rw [hs1]; exact e
  · refine ⟨by simp, .inr ⟨w.heap.size, m, madeCells (Value.int .u8 0).cells (m * 1), rfl, Nat.le_refl _, heap_alloc_new w _, hnm, by unfold maxLen; omega, ?_, ?_⟩⟩
    · have e2 := congrArg List.length (made_zeros m)
      simp at e2
      simp
      omega
    · rw [made_zeros m]
      simp [u8s, hnm]

/-- Each row of cells but that of one block stays, but for its mark. -/
def StayX (x : Nat) (w w' : World) : Prop := ∀ (b : Nat) (c : Array Value) (t : TypeId) (z : Nat × Nat), b ≠ x → w.heap[b]? = some (.cells c t z) → ∃ z', w'.heap[b]? = some (.cells c t z')
theorem StayX.of {x : Nat} {w w' : World} (h : Stay w w') : StayX x w w' := fun b c t z _ e => h b c t z e
theorem StayX.of_kept {x : Nat} {w w' : World} (h : Kept (fun k => k = x) w w') : StayX x w w' := fun b c t z hb e => ⟨z, (h.block b (Array.getElem?_eq_some_iff.1 e).1 hb).trans e⟩
theorem StayX.cell {x : Nat} {w w' : World} (h : StayX x w w') {b o : Nat} (hb : b ≠ x) {v : Value} (hc : w.cell? ⟨b, o, none⟩ = some v) : w'.cell? ⟨b, o, none⟩ = some v := by
  unfold World.cell? at hc ⊢
  cases e : w.heap[b]? with
  | none => simp [e] at hc
  | some y =>
    cases y with
    | cells c t z =>
      obtain ⟨z', e'⟩ := h b c t z hb e
      simp only [e] at hc
      simp only [e']
      exact hc
    | _ => simp [e] at hc
theorem Bs.stayX {x : Nat} {w w' : World} (h : StayX x w w') {g o cap : Nat} (hg : g ≠ x) {l : List Nat} (hb : Bs w (some ⟨g, o, none⟩) cap l) : Bs w' (some ⟨g, o, none⟩) cap l := by
  refine ⟨?_, hb.le, fun e => by cases e⟩
  obtain ⟨ao, c, e, hc⟩ := hb.at_
  refine ⟨ao, c, e, fun j y hy => ?_⟩
  obtain ⟨b, off, e1, e2⟩ := hc j y hy
  cases e
  cases e1
  exact ⟨_, _, rfl, h.cell hg e2⟩
/-- A row of bytes in a slot, in a block from B on. -/
def RowB (B : Nat) (w : World) (n : Nat) (l : List Nat) (v : Value) : Prop := ∃ g k, v = .slice (some ⟨g, 0, none⟩) n k ∧ B ≤ g ∧ Bs w (some ⟨g, 0, none⟩) k l
theorem RowB.stayX {B x : Nat} (hx : x < B) {w w' : World} (h : StayX x w w') {n : Nat} {l : List Nat} {v : Value} (hr : RowB B w n l v) : RowB B w' n l v := by
  obtain ⟨g, k, e, hg, hb⟩ := hr
  exact ⟨g, k, e, hg, hb.stayX h (by omega)⟩
/-- Rows of bytes, all of them and their list in blocks from B on. -/
def RowsB (B : Nat) (w : World) (n : Nat) (L : List Nat) (v : Value) : Prop := ∃ b k R, v = .slice (some ⟨b, 0, none⟩) n k ∧ B ≤ b ∧ R.length = n ∧ (∀ r p, R[r]? = some p → w.cell? ⟨b, r, none⟩ = some (.slice p.1.1 p.2.length p.1.2) ∧ ∃ g, p.1.1 = some ⟨g, 0, none⟩ ∧ B ≤ g ∧ Bs w (some ⟨g, 0, none⟩) p.1.2 p.2) ∧ joined R = L
theorem RowsB.stayX {B x : Nat} (hx : x < B) {w w' : World} (h : StayX x w w') {n : Nat} {L : List Nat} {v : Value} (hr : RowsB B w n L v) : RowsB B w' n L v := by
  obtain ⟨b, k, R, e1, e2, e3, e4, e5⟩ := hr
  refine ⟨b, k, R, e1, e2, e3, fun r p hp => ?_, e5⟩
  obtain ⟨c1, g, c2, c3, c4⟩ := e4 r p hp
  exact ⟨h.cell (by omega) c1, g, c2, c3, c4.stayX h (by omega)⟩
theorem RowsB.rows {B : Nat} {w : World} {n : Nat} {L : List Nat} {v : Value} (hr : RowsB B w n L v) : ∃ a k R, v = .slice a n k ∧ R.length = n ∧ RowsOf w a R ∧ joined R = L := by
  obtain ⟨b, k, R, e1, e2, e3, e4, e5⟩ := hr
  refine ⟨_, k, R, e1, e3, fun r p hp => ?_, e5⟩
  obtain ⟨c1, g, c2, c3, c4⟩ := e4 r p hp
  exact ⟨b, 0, rfl, by rw [Nat.zero_add]; exact c1, by rw [c2]; exact c4⟩
theorem rows_sixB {w : World} {B g : Nat} (hB : B ≤ g) {g0 g1 g2 g3 g4 g5 : Nat} {n0 n1 n2 n3 n4 n5 c0 c1 c2 c3 c4 c5 : Nat} {l0 l1 l2 l3 l4 l5 L : List Nat} (hg : w.heap[g]? = some (.cells #[.slice (some ⟨g0, 0, none⟩) n0 c0, .slice (some ⟨g1, 0, none⟩) n1 c1, .slice (some ⟨g2, 0, none⟩) n2 c2, .slice (some ⟨g3, 0, none⟩) n3 c3, .slice (some ⟨g4, 0, none⟩) n4 c4, .slice (some ⟨g5, 0, none⟩) n5 c5] 26 (0, 0)))
    (e0 : l0.length = n0) (e1 : l1.length = n1) (e2 : l2.length = n2) (e3 : l3.length = n3) (e4 : l4.length = n4) (e5 : l5.length = n5)
    (b0 : B ≤ g0) (b1 : B ≤ g1) (b2 : B ≤ g2) (b3 : B ≤ g3) (b4 : B ≤ g4) (b5 : B ≤ g5)
    (h0 : Bs w (some ⟨g0, 0, none⟩) c0 l0) (h1 : Bs w (some ⟨g1, 0, none⟩) c1 l1) (h2 : Bs w (some ⟨g2, 0, none⟩) c2 l2) (h3 : Bs w (some ⟨g3, 0, none⟩) c3 l3) (h4 : Bs w (some ⟨g4, 0, none⟩) c4 l4) (h5 : Bs w (some ⟨g5, 0, none⟩) c5 l5) (hL : L = l0 ++ (l1 ++ (l2 ++ (l3 ++ (l4 ++ l5))))) : RowsB B w 6 L (.slice (some ⟨g, 0, none⟩) 6 6) := by
  subst e0 e1 e2 e3 e4 e5
  refine ⟨_, _, [((some ⟨g0, 0, none⟩, c0), l0), ((some ⟨g1, 0, none⟩, c1), l1), ((some ⟨g2, 0, none⟩, c2), l2), ((some ⟨g3, 0, none⟩, c3), l3), ((some ⟨g4, 0, none⟩, c4), l4), ((some ⟨g5, 0, none⟩, c5), l5)], rfl, hB, rfl, fun r p hp => ⟨?_, ?_⟩, by rw [hL]; simp [joined]⟩
  · rw [cell_of_row w g r _ 26 (0, 0) hg]
    match r, hp with
    | 0, hp => cases hp; rfl
    | 1, hp => cases hp; rfl
    | 2, hp => cases hp; rfl
    | 3, hp => cases hp; rfl
    | 4, hp => cases hp; rfl
    | 5, hp => cases hp; rfl
    | r + 6, hp => simp at hp
  · match r, hp with
    | 0, hp => cases hp; exact ⟨_, rfl, b0, h0⟩
    | 1, hp => cases hp; exact ⟨_, rfl, b1, h1⟩
    | 2, hp => cases hp; exact ⟨_, rfl, b2, h2⟩
    | 3, hp => cases hp; exact ⟨_, rfl, b3, h3⟩
    | 4, hp => cases hp; exact ⟨_, rfl, b4, h4⟩
    | 5, hp => cases hp; exact ⟨_, rfl, b5, h5⟩
    | r + 6, hp => simp at hp
/-- Four bytes of a number, in a block of their own. -/
theorem put_fourB (w : World) (x : Int) (h : I64 x) : Calls Try.prog 23 #[.int .i64 x, .int .i64 4] w fun e w' => ∃ g, e = .returned (.slice (some ⟨g, 0, none⟩) 4 4) ∧ w.heap.size ≤ g ∧ Bs w' (some ⟨g, 0, none⟩) 4 (put4 x) ∧ Below w.heap.size w w' :=
  (fput_any w x 4 h ⟨by decide, by decide⟩ x.toNat 4 rfl rfl).mono fun e w' ⟨e1, e2, e3⟩ => ⟨_, e1, Nat.le_refl _, Bs.put e2, e3⟩
/-- What no other operation than the copy touches. -/
structure Mid (bg B : Nat) (w0 w : World) : Prop where
  kept : Kept (fun k => k = bg ∨ B ≤ k) w0 w
  bigB : B ≤ w.heap.size
theorem Mid.below {bg B : Nat} {w0 w w' : World} (h : Mid bg B w0 w) (hb : Below w.heap.size w w') : Mid bg B w0 w' :=
  ⟨⟨hb.os.trans h.kept.os, hb.tape.trans h.kept.tape, hb.output.trans h.kept.output, Nat.le_trans h.kept.size hb.size, fun i hi hf => (hb.block i (Nat.lt_of_lt_of_le hi h.kept.size)).trans (h.kept.block i hi hf)⟩, Nat.le_trans h.bigB hb.size⟩
theorem Mid.kept1 {bg B : Nat} {w0 w w' : World} (h : Mid bg B w0 w) (hk : Kept (fun k => k = bg) w w') : Mid bg B w0 w' :=
  ⟨⟨hk.os.trans h.kept.os, hk.tape.trans h.kept.tape, hk.output.trans h.kept.output, Nat.le_trans h.kept.size hk.size, fun i hi hf => (hk.block i (Nat.lt_of_lt_of_le hi h.kept.size) (fun e => hf (.inl e))).trans (h.kept.block i hi hf)⟩, Nat.le_trans h.bigB hk.size⟩
theorem Mid.freeze {bg B : Nat} {w0 w : World} (h : Mid bg B w0 w) {g k : Nat} (hg : B ≤ g) (n : Nat) : Mid bg B w0 (w.freeze ⟨g, k, none⟩ n) := by
  have e : ∀ i, i ≠ g → (w.freeze ⟨g, k, none⟩ n).heap[i]? = w.heap[i]? := fun i hi => by
    unfold World.freeze
    split
    · rfl
    · simp only [Array.getElem?_modify]
      rw [if_neg (by show ¬ g = i; omega)]
  have e2 : (w.freeze ⟨g, k, none⟩ n).os = w.os ∧ (w.freeze ⟨g, k, none⟩ n).tape = w.tape ∧ (w.freeze ⟨g, k, none⟩ n).output = w.output := by
    unfold World.freeze
    split <;> exact ⟨rfl, rfl, rfl⟩
  exact ⟨⟨e2.1.trans h.kept.os, e2.2.1.trans h.kept.tape, e2.2.2.trans h.kept.output, by rw [size_freeze]; exact h.kept.size, fun i hi hf => (e i (fun x => hf (.inr (by omega)))).trans (h.kept.block i hi hf)⟩, by rw [size_freeze]; exact h.bigB⟩
theorem Mid.done {W bg B : Nat} {w w0 w2 w7 : World} (h0 : Below W w w0) (hm : Mid bg B w0 w2) (hW : W ≤ bg) (hB : bg < w0.heap.size) (hBB : bg < B) (hk : Kept (fun k => (Value.slice (some ⟨bg, 0, none⟩) 124 128).ownBlock = some k) w2 w7) : Below W w w7 := by
  refine ⟨(hk.os.trans hm.kept.os).trans h0.os, (hk.tape.trans hm.kept.tape).trans h0.tape, (hk.output.trans hm.kept.output).trans h0.output, Nat.le_trans h0.size (Nat.le_trans hm.kept.size hk.size), fun i hi => ?_⟩
  have e1 := h0.block i hi
  have e2 := hm.kept.block i (by omega) (by omega)
  have e3 := hk.block i (by have := hm.kept.size; omega) (fun e => by simp [Value.ownBlock] at e; omega)
  exact (e3.trans e2).trans e1
theorem frozen_other (w : World) {g k i : Nat} (hi : i ≠ g) (n : Nat) : (w.freeze ⟨g, k, none⟩ n).heap[i]? = w.heap[i]? := by
  unfold World.freeze
  split
  · rfl
  · simp only [Array.getElem?_modify]
    rw [if_neg (by show ¬ g = i; omega)]
/-- What each step leaves; the invariant. -/
def PwLe (bg : Nat) (i : Nat) (w w' : World) : Prop := StayX bg w w' ∧ (i ≠ 19 → w'.heap[bg]? = w.heap[bg]?)
def PwS (bg B : Nat) (w0 : World) (vs : Nat → Value) (w : World) : Prop := Mid bg B w0 w ∧ (vs 19 = undef → w.heap[bg]? = w0.heap[bg]?)
theorem PwLe.below {bg i : Nat} {w w' : World} (hb : Below w.heap.size w w') (h : bg < w.heap.size) : PwLe bg i w w' := ⟨.of (.of_below hb), fun _ => hb.block bg h⟩
theorem PwLe.refl (bg i : Nat) (w : World) : PwLe bg i w w := ⟨.of (.refl w), fun _ => rfl⟩
theorem PwS.lt {bg B : Nat} {w0 w : World} {vs : Nat → Value} (h : PwS bg B w0 vs w) (hb : bg < B) : bg < w.heap.size := Nat.lt_of_lt_of_le hb h.1.bigB
theorem PwS.step {bg B : Nat} {w0 w w' : World} {vs : Nat → Value} (h : PwS bg B w0 vs w) (hb : bg < B) (hl : Below w.heap.size w w') (i : Nat) (v : Value) (hi : i ≠ 19) : PwS bg B w0 (upd vs i v) w' :=
  ⟨h.1.below hl, fun e => by rw [upd_other vs v (fun x => hi x.symm)] at e; exact (hl.block bg (h.lt hb)).trans (h.2 e)⟩
theorem PwS.same {bg B : Nat} {w0 w : World} {vs : Nat → Value} (h : PwS bg B w0 vs w) (i : Nat) (v : Value) (hi : i ≠ 19) : PwS bg B w0 (upd vs i v) w :=
  ⟨h.1, fun e => by rw [upd_other vs v (fun x => hi x.symm)] at e; exact h.2 e⟩

/-- A row of one's own hangs on its block alone. -/
theorem own_block {w w' : World} {base g n c : Nat} {xs : List Value} (h : w.ownsRow base 5 1 (.slice (some ⟨g, 0, none⟩) n c) n xs) (e : w'.heap[g]? = w.heap[g]?) : w'.ownsRow base 5 1 (.slice (some ⟨g, 0, none⟩) n c) n xs := by
  obtain ⟨h1, h2⟩ := h
  refine ⟨h1, ?_⟩
  rcases h2 with ⟨e1, _⟩ | ⟨g', cap', cur, hv, hgb, hh, hncap, hm, hcs, htake⟩
  · cases e1
  · cases hv
    exact .inr ⟨_, _, cur, rfl, hgb, e.trans hh, hncap, hm, hcs, htake⟩
/-- What each of Pack's operations leaves. -/
def PwR (B bx bg : Nat) (x1 x2 x3 x4 c : Int) : Nat → Value → World → Prop
  | 0, v, w => v = .slice (some ⟨bg, 0, none⟩) 124 128
  | 1, v, w => ∃ g z, v = .slice (some ⟨g, 0, none⟩) 8 8 ∧ w.heap[g]? = some (.cells #[.int .u8 111, .int .u8 118, .int .u8 101, .int .u8 114, .int .u8 100, .int .u8 117, .int .u8 98, .int .u8 49] 5 z) ∧ B ≤ g
  | 2, v, w => RowB B w 8 magicL v
  | 3, v, w => v = .pointer (some ⟨bx, 0, none⟩)
  | 4, v, w => v = .int .i64 x1
  | 5, v, w => RowB B w 4 (put4 x1) v
  | 6, v, w => v = .pointer (some ⟨bx, 1, none⟩)
  | 7, v, w => v = .int .i64 x2
  | 8, v, w => RowB B w 4 (put4 x2) v
  | 9, v, w => v = .pointer (some ⟨bx, 2, none⟩)
  | 10, v, w => v = .int .i64 x3
  | 11, v, w => RowB B w 4 (put4 x3) v
  | 12, v, w => v = .pointer (some ⟨bx, 3, none⟩)
  | 13, v, w => v = .int .i64 x4
  | 14, v, w => RowB B w 4 (put4 x4) v
  | 15, v, w => v = .int .i64 c
  | 16, v, w => RowB B w 4 (put4 c) v
  | 17, v, w => RowsB B w 6 (headSu ⟨x1, x2, x3, x4⟩ c) v
  | 18, v, w => RowB B w 28 (headSu ⟨x1, x2, x3, x4⟩ c) v
  | 19, v, w => v ≠ undef ∧ w.ownsRow bg 5 1 (.slice (some ⟨bg, 0, none⟩) 124 128) 124 (u8s (fillF (headSu ⟨x1, x2, x3, x4⟩ c)))
  | _, _, _ => True
theorem PwR.stay {B bx bg : Nat} (hx : bg < B) {x1 x2 x3 x4 c : Int} : ∀ (k i : Nat) (v : Value) (w w' : World), i ≠ k → PwR B bx bg x1 x2 x3 x4 c i v w → PwLe bg k w w' → PwR B bx bg x1 x2 x3 x4 c i v w'
  | _, 0, v, w, w', _, h, k => h
  | _, 1, v, w, w', _, h, k => by
    obtain ⟨g, z, e1, e2, e3⟩ := h
    obtain ⟨z', e4⟩ := k.1 g _ _ z (by omega) e2
    exact ⟨g, z', e1, e4, e3⟩
  | _, 2, v, w, w', _, h, k => RowB.stayX hx k.1 h
  | _, 3, v, w, w', _, h, k => h
  | _, 4, v, w, w', _, h, k => h
  | _, 5, v, w, w', _, h, k => RowB.stayX hx k.1 h
  | _, 6, v, w, w', _, h, k => h
  | _, 7, v, w, w', _, h, k => h
  | _, 8, v, w, w', _, h, k => RowB.stayX hx k.1 h
  | _, 9, v, w, w', _, h, k => h
  | _, 10, v, w, w', _, h, k => h
  | _, 11, v, w, w', _, h, k => RowB.stayX hx k.1 h
  | _, 12, v, w, w', _, h, k => h
  | _, 13, v, w, w', _, h, k => h
  | _, 14, v, w, w', _, h, k => RowB.stayX hx k.1 h
  | _, 15, v, w, w', _, h, k => h
  | _, 16, v, w, w', _, h, k => RowB.stayX hx k.1 h
  | _, 17, v, w, w', _, h, k => RowsB.stayX hx k.1 h
  | _, 18, v, w, w', _, h, k => RowB.stayX hx k.1 h
  | n, 19, v, w, w', hne, h, k => ⟨h.1, own_block h.2 (k.2 (fun e => hne e.symm))⟩
  | _, n + 20, v, w, w', _, h, k => trivial
def PwA (bx bg : Nat) (x1 x2 x3 x4 c : Int) : (Nat → Value) → Act := fun vs => { tmps := #[.agg #[.int .i64 x1, .int .i64 x2, .int .i64 x3, .int .i64 x4], .int .i64 c, .pointer (some ⟨bx, 0, none⟩), undef, .slice none 0 0, .slice (some ⟨bg, 0, none⟩) 124 128, undef, .slice (some ⟨bg, 0, none⟩) 124 128, vs 0, vs 1, vs 2, vs 3, vs 4, vs 5, vs 6, vs 7, vs 8, vs 9, vs 10, vs 11, vs 12, vs 13, vs 14, vs 15, vs 16, vs 17, vs 18, vs 19, undef, undef, undef, undef, undef, undef, undef, undef, undef, undef, undef, undef, undef, undef, undef, undef], defers := [] }
set_option maxRecDepth 100000 in
set_option maxHeartbeats 8000000 in
theorem ppack_any (w : World) (s : Su) (c : Int) (hs : Su64 s) (h5 : I64 c) :
    Calls Try.prog 10 #[suV s, .int .i64 c] w fun e w' => ∃ g k, e = .returned (.slice (some ⟨g, 0, none⟩) 128 k) ∧ OwnBytes w' w.heap.size (.slice (some ⟨g, 0, none⟩) 128 k) (packSu s c) ∧ Below w.heap.size w w' := by
  obtain ⟨x1, x2, x3, x4⟩ := s
  obtain ⟨h1, h2, h3, h4⟩ := hs
  simp only [] at h1 h2 h3 h4
  have H1 : Hid (∀ w, _) := fun w => put_fourB w x1 h1
  have H2 : Hid (∀ w, _) := fun w => put_fourB w x2 h2
  have H3 : Hid (∀ w, _) := fun w => put_fourB w x3 h3
  have H4 : Hid (∀ w, _) := fun w => put_fourB w x4 h4
  have H5 : Hid (∀ w, _) := fun w => put_fourB w c h5
  clear h1 h2 h3 h4 h5
  obtain ⟨i0, hi, hz0, hz1, hz2⟩ := info_parts Try.info5
  have hz1' : (Try.prog.info? 5).map (·.size) = some 1 := by simp [hi, hz1]
  unfold suV
  go_enter Try.func10, Try.ntmps10
  go_upto_region 1 with fail
  obtain ⟨w1, hw1⟩ : ∃ w1, w1 = w.alloc (.cells #[.int .i64 x1, .int .i64 x2, .int .i64 x3, .int .i64 x4] 23) := ⟨_, rfl⟩
  obtain ⟨bx, hbx⟩ : ∃ bx, bx = w.heap.size := ⟨_, rfl⟩
  have hbw : Below w.heap.size w w1 := by rw [hw1]; exact (Below.refl _ _).alloc (Nat.le_refl _) _
  have hs0 : w1.heap.size = w.heap.size + 1 := by rw [hw1]; simp
  have hb0 : w1.heap[bx]? = some (.cells #[.int .i64 x1, .int .i64 x2, .int .i64 x3, .int .i64 x4] 23 (0, 0)) := by rw [hw1, hbx]; exact heap_alloc_new w _
  have HBW := hid_of hbw
  have HS0 := hid_of hs0
  have HB0 := hid_of hb0
  have HBX := hid_of hbx
  rw [← hw1, ← hbx]
  clear hw1 hbw hs0 hb0 hbx
  go_upto_region 2 with (at_make; go_must (refine wpList_make_zeros _ rfl _ _ 26 rfl i0 Try.underlying26 hi hz0 hz1 hz2 124 128 rfl rfl (by decide) (by decide) ?_))
  intro w0 hw0 HO
  obtain ⟨bg, hbg⟩ : ∃ bg, bg = w1.heap.size := ⟨_, rfl⟩
  have hb1 : Below w1.heap.size w1 w0 := by rw [hw0.out]; exact (Below.refl _ _).alloc (Nat.le_refl _) _
  have hs1 : w0.heap.size = bg + 1 := by rw [hw0.out, hbg]; simp
  have hsx : w0.heap[bx]? = some (.cells #[.int .i64 x1, .int .i64 x2, .int .i64 x3, .int .i64 x4] 23 (0, 0)) := (hb1.block bx (Array.getElem?_eq_some_iff.1 HB0.out).1).trans HB0.out
  have hxg : bx < bg := by rw [hbg]; exact (Array.getElem?_eq_some_iff.1 HB0.out).1
  have HBL : Hid (Below w.heap.size w w0) := HBW.out.trans (hb1.mono HBW.out.size)
  obtain ⟨B, hB⟩ : ∃ B, B = w0.heap.size := ⟨_, rfl⟩
  rw [← hbg] at HO
  have hgB : bg < B := by omega
  have hwg : w.heap.size ≤ bg := by rw [hbg]; exact HBW.out.size
  have HWG := hid_of hwg
  have HC : Hid (∀ W' : World, Mid bg B w0 W' → W'.cell? ⟨bx, 0, none⟩ = some (.int .i64 x1) ∧ W'.cell? ⟨bx, 1, none⟩ = some (.int .i64 x2) ∧ W'.cell? ⟨bx, 2, none⟩ = some (.int .i64 x3) ∧ W'.cell? ⟨bx, 3, none⟩ = some (.int .i64 x4)) := fun W' hb => by
    have e : W'.heap[bx]? = _ := (hb.kept.block bx (by omega) (by omega)).trans hsx
    refine ⟨?_, ?_, ?_, ?_⟩ <;> (unfold World.cell?; rw [e]; rfl)
  have HS0' : Hid (PwS bg B w0 (fun _ => undef) w0.drew) := ⟨⟨(Kept.refl _ _).drew, by show B ≤ w0.heap.size; omega⟩, fun _ => rfl⟩
  have HGB := hid_of hgB
  have HBB := hid_of hB
  rw [← hbg]
  clear hw0 hb1 hs1 hsx hxg hbg hgB hwg HBW HS0 HB0 HBX hB
  go_upto_region 2 with fail
  refine wp_region_eachN (PwA bx bg x1 x2 x3 x4 c) (PwR B bx bg x1 x2 x3 x4 c) (PwLe bg) (PwS bg B w0) (by kernel_rfl) rfl (by kernel_rfl) HS0'.out (fun i j v w w' h1 h2 h3 => PwR.stay HGB.out i j v w w' h1 h2 h3) ?_ ?_
  · refine ⟨?_, ?_, ?_, ?_, ?_, ?_, ?_, ?_, ?_, ?_, ?_, ?_, ?_, ?_, ?_, ?_, ?_, ?_, ?_, ?_, trivial⟩
    · -- 0
      intro vs w hS hn hd
      unfold PwA
      go_wp2_with fail
      exact ⟨rfl, _, rfl, rfl, PwLe.refl _ _ _, hS.same _ _ (by decide)⟩
    · -- 1
      intro vs w hS hn hd
      have hlt := hS.lt HGB.out
      have hBw := hS.1.bigB
      unfold PwA
      go_wp2_with fail
      have hal : Below w.heap.size w (w.alloc (.cells #[.int .u8 111, .int .u8 118, .int .u8 101, .int .u8 114, .int .u8 100, .int .u8 117, .int .u8 98, .int .u8 49] 5)) := (Below.refl _ _).alloc (Nat.le_refl _) _
      exact ⟨rfl, _, rfl, ⟨w.heap.size, (0, 0), rfl, heap_alloc_new w _, hBw⟩, PwLe.below hal hlt, hS.step HGB.out hal _ _ (by decide)⟩
    · -- 2
      intro vs w hS hn hd
      obtain ⟨g, z, e0, hg, hgB⟩ := hd.1 rfl
      have kc := run_convert_row (P := Try.prog) w 26 5 g _ z 8 8 Try.underlying26 Try.underlying5 hg
      have hne : bg ≠ g := by have := HGB.out; omega
      simp only [] at e0
      unfold PwA
      go_wp2_with fail
      exact ⟨rfl, _, (by simp [upd, e0]), ⟨_, _, rfl, hgB, (bs_lit8 hg).stay (Stay.freeze _ _ _)⟩, ⟨.of (Stay.freeze _ _ _), fun _ => frozen_other w hne _⟩, hS.1.freeze hgB _, fun e => by rw [upd_other vs _ (by decide)] at e; exact (frozen_other w hne _).trans (hS.2 e)⟩
    · -- 3
      intro vs w hS hn hd
      unfold PwA
      go_wp2_with fail
      exact ⟨rfl, _, rfl, rfl, PwLe.refl _ _ _, hS.same _ _ (by decide)⟩
    · -- 4
      intro vs w hS hn hd
      have e0 : vs 3 = _ := hd.1 rfl
      obtain ⟨k0, k1, k2, k3⟩ := HC.out w hS.1
      unfold PwA
      go_wp2_with fail
      exact ⟨rfl, _, (by simp [upd, e0]), rfl, PwLe.refl _ _ _, hS.same _ _ (by decide)⟩
    · -- 5
      intro vs w hS hn hd
      have e0 : vs 4 = _ := hd.1 rfl
      have hlt := hS.lt HGB.out
      have hBw := hid_of hS.1.bigB
      unfold PwA
      go_wp2_with fail
      refine (H1.out _).mono ?_
      rintro e w1 ⟨g1, rfl, hg1, ho, hb⟩
      have hg2 : B ≤ g1 := Nat.le_trans hBw.out hg1
      go_wp2_with fail
      exact ⟨rfl, _, (by simp [upd, e0]), ⟨_, _, rfl, hg2, ho⟩, PwLe.below hb hlt, hS.step HGB.out hb _ _ (by decide)⟩
    · -- 6
      intro vs w hS hn hd
      unfold PwA
      go_wp2_with fail
      exact ⟨rfl, _, rfl, rfl, PwLe.refl _ _ _, hS.same _ _ (by decide)⟩
    · -- 7
      intro vs w hS hn hd
      have e0 : vs 6 = _ := hd.1 rfl
      obtain ⟨k0, k1, k2, k3⟩ := HC.out w hS.1
      unfold PwA
      go_wp2_with fail
      exact ⟨rfl, _, (by simp [upd, e0]), rfl, PwLe.refl _ _ _, hS.same _ _ (by decide)⟩
    · -- 8
      intro vs w hS hn hd
      have e0 : vs 7 = _ := hd.1 rfl
      have hlt := hS.lt HGB.out
      have hBw := hid_of hS.1.bigB
      unfold PwA
      go_wp2_with fail
      refine (H2.out _).mono ?_
      rintro e w1 ⟨g1, rfl, hg1, ho, hb⟩
      have hg2 : B ≤ g1 := Nat.le_trans hBw.out hg1
      go_wp2_with fail
      exact ⟨rfl, _, (by simp [upd, e0]), ⟨_, _, rfl, hg2, ho⟩, PwLe.below hb hlt, hS.step HGB.out hb _ _ (by decide)⟩
    · -- 9
      intro vs w hS hn hd
      unfold PwA
      go_wp2_with fail
      exact ⟨rfl, _, rfl, rfl, PwLe.refl _ _ _, hS.same _ _ (by decide)⟩
    · -- 10
      intro vs w hS hn hd
      have e0 : vs 9 = _ := hd.1 rfl
      obtain ⟨k0, k1, k2, k3⟩ := HC.out w hS.1
      unfold PwA
      go_wp2_with fail
      exact ⟨rfl, _, (by simp [upd, e0]), rfl, PwLe.refl _ _ _, hS.same _ _ (by decide)⟩
    · -- 11
      intro vs w hS hn hd
      have e0 : vs 10 = _ := hd.1 rfl
      have hlt := hS.lt HGB.out
      have hBw := hid_of hS.1.bigB
      unfold PwA
      go_wp2_with fail
      refine (H3.out _).mono ?_
      rintro e w1 ⟨g1, rfl, hg1, ho, hb⟩
      have hg2 : B ≤ g1 := Nat.le_trans hBw.out hg1
      go_wp2_with fail
      exact ⟨rfl, _, (by simp [upd, e0]), ⟨_, _, rfl, hg2, ho⟩, PwLe.below hb hlt, hS.step HGB.out hb _ _ (by decide)⟩
    · -- 12
      intro vs w hS hn hd
      unfold PwA
      go_wp2_with fail
      exact ⟨rfl, _, rfl, rfl, PwLe.refl _ _ _, hS.same _ _ (by decide)⟩
    · -- 13
      intro vs w hS hn hd
      have e0 : vs 12 = _ := hd.1 rfl
      obtain ⟨k0, k1, k2, k3⟩ := HC.out w hS.1
      unfold PwA
      go_wp2_with fail
      exact ⟨rfl, _, (by simp [upd, e0]), rfl, PwLe.refl _ _ _, hS.same _ _ (by decide)⟩
    · -- 14
      intro vs w hS hn hd
      have e0 : vs 13 = _ := hd.1 rfl
      have hlt := hS.lt HGB.out
      have hBw := hid_of hS.1.bigB
      unfold PwA
      go_wp2_with fail
      refine (H4.out _).mono ?_
      rintro e w1 ⟨g1, rfl, hg1, ho, hb⟩
      have hg2 : B ≤ g1 := Nat.le_trans hBw.out hg1
      go_wp2_with fail
      exact ⟨rfl, _, (by simp [upd, e0]), ⟨_, _, rfl, hg2, ho⟩, PwLe.below hb hlt, hS.step HGB.out hb _ _ (by decide)⟩
    · -- 15
      intro vs w hS hn hd
      unfold PwA
      go_wp2_with fail
      exact ⟨rfl, _, rfl, rfl, PwLe.refl _ _ _, hS.same _ _ (by decide)⟩
    · -- 16
      intro vs w hS hn hd
      have e0 : vs 15 = _ := hd.1 rfl
      have hlt := hS.lt HGB.out
      have hBw := hid_of hS.1.bigB
      unfold PwA
      go_wp2_with fail
      refine (H5.out _).mono ?_
      rintro e w1 ⟨g1, rfl, hg1, ho, hb⟩
      have hg2 : B ≤ g1 := Nat.le_trans hBw.out hg1
      go_wp2_with fail
      exact ⟨rfl, _, (by simp [upd, e0]), ⟨_, _, rfl, hg2, ho⟩, PwLe.below hb hlt, hS.step HGB.out hb _ _ (by decide)⟩
    · -- 17
      intro vs w hS hn hd
      obtain ⟨d0, d1, d2, d3, d4, d5, -⟩ := hd
      obtain ⟨g0, c0, e0, f0, b0⟩ := d0 rfl
      obtain ⟨g1, c1, e1, f1, b1⟩ := d1 rfl
      obtain ⟨g2, c2, e2, f2, b2⟩ := d2 rfl
      obtain ⟨g3, c3, e3, f3, b3⟩ := d3 rfl
      obtain ⟨g4, c4, e4, f4, b4⟩ := d4 rfl
      obtain ⟨g5, c5, e5, f5, b5⟩ := d5 rfl
      have hlt := hS.lt HGB.out
      have hBw := hS.1.bigB
      clear d0 d1 d2 d3 d4 d5
      simp only [] at e0 e1 e2 e3 e4 e5
      unfold PwA
      go_wp2_with fail
      have hst := Stay.alloc w (.cells #[.slice (some ⟨g0, 0, none⟩) 8 c0, .slice (some ⟨g1, 0, none⟩) 4 c1, .slice (some ⟨g2, 0, none⟩) 4 c2, .slice (some ⟨g3, 0, none⟩) 4 c3, .slice (some ⟨g4, 0, none⟩) 4 c4, .slice (some ⟨g5, 0, none⟩) 4 c5] 26)
      have hal : Below w.heap.size w (w.alloc (.cells #[.slice (some ⟨g0, 0, none⟩) 8 c0, .slice (some ⟨g1, 0, none⟩) 4 c1, .slice (some ⟨g2, 0, none⟩) 4 c2, .slice (some ⟨g3, 0, none⟩) 4 c3, .slice (some ⟨g4, 0, none⟩) 4 c4, .slice (some ⟨g5, 0, none⟩) 4 c5] 26)) := (Below.refl _ _).alloc (Nat.le_refl _) _
      exact ⟨rfl, _, (by simp [upd, e0, e1, e2, e3, e4, e5]), rows_sixB hBw (heap_alloc_new w _) rfl (length_put4 _) (length_put4 _) (length_put4 _) (length_put4 _) (length_put4 _) f0 f1 f2 f3 f4 f5 (b0.stay hst) (b1.stay hst) (b2.stay hst) (b3.stay hst) (b4.stay hst) (b5.stay hst) rfl, PwLe.below hal hlt, hS.step HGB.out hal _ _ (by decide)⟩
    · -- 18
      intro vs w hS hn hd
      have f0 : RowsB B w 6 (headSu ⟨x1, x2, x3, x4⟩ c) (vs 17) := hd.1 rfl
      obtain ⟨a, k, R, e0, hl, hr, hj⟩ := f0.rows
      have hlt := hS.lt HGB.out
      have hBw := hid_of hS.1.bigB
      have HJ := hid_of (fjoin_any w a k R hr (by rw [hl]; decide) (by rw [hj, length_headSu]; decide))
      rw [hj, hl] at HJ
      clear hr hj hl f0
      unfold PwA
      go_wp2_with fail
      refine HJ.out.mono ?_
      rintro e w1 ⟨v, rfl, ho, hb⟩
      have HOW := hid_of ho
      obtain ⟨a1, k1, e1, hb1⟩ := ho.bs
      rw [length_headSu] at e1
      subst e1
      obtain ⟨g1, rfl, hg1⟩ : ∃ g1, a1 = some ⟨g1, 0, none⟩ ∧ w.heap.size ≤ g1 := by
        rcases HOW.out.2 with ⟨e1, _⟩ | ⟨g', cap', cur, hv, hgb, _⟩
        · cases e1
        · cases hv; exact ⟨_, rfl, hgb⟩
      have hg2 : B ≤ g1 := Nat.le_trans hBw.out hg1
      clear HOW
      go_wp2_with fail
      exact ⟨rfl, _, (by simp [upd, e0]), ⟨_, _, rfl, hg2, hb1⟩, PwLe.below hb hlt, hS.step HGB.out hb _ _ (by decide)⟩
    · -- 19
      intro vs w hS hn hd
      have e0 : vs 0 = _ := hd.1 rfl
      obtain ⟨g, k, e1, hg, hb⟩ := hd.2.1 rfl
      simp only [] at e1
      have hO : w.ownsRow bg 5 1 (.slice (some ⟨bg, 0, none⟩) 124 128) 124 (u8s (List.replicate 124 0)) := own_block HO.out (hS.2 hn)
      have hS28 : SlAt w (.slice (some ⟨g, 0, none⟩) (headSu ⟨x1, x2, x3, x4⟩ c).length k) (headSu ⟨x1, x2, x3, x4⟩ c) := hb.at_
      obtain ⟨Z, hZ⟩ : ∃ Z, Z = List.replicate 124 0 := ⟨_, rfl⟩
      have hZl : Z.length = 124 := by rw [hZ]; simp
      have HOV := hid_of (over_zeros (n := 124) (show (headSu ⟨x1, x2, x3, x4⟩ c).length ≤ 124 by rw [length_headSu]; decide))
      rw [← hZ] at HOV hO
      have HO2 := hid_of hO
      have HS2 := hid_of hS28
      have HBB2 := hid_of hb
      clear hO hS28 hb hZ
      unfold PwA
      go_wp2_with (refine wpList_copy_n rfl (.tmp 8) (.tmp 26) 26 26 rfl Try.underlying26 hz1' bg bg 128 124 Z hZl HO2.out _ _ (headSu ⟨x1, x2, x3, x4⟩ c) HS2.out e0 (by rw [length_headSu]; exact e1) ?_)
      intro w' kk HO3 HK3
      go_wp2_with fail
      refine ⟨rfl, .int .i64 (kk : Int), (by simp [upd, e0, e1]), ⟨(by intro h; cases h), ?_⟩, ⟨.of_kept HK3.out, fun h => absurd rfl h⟩, hS.1.kept1 HK3.out, fun e => by rw [upd_same] at e; cases e⟩
      have e3 := HO3.out
      rw [HOV.out] at e3
      exact e3
  · intro vs w2 hS hR
    have HO19 := hid_of (hR 19 (by decide)).2
    have hB2 := hS.1.bigB
    have HM := hid_of hS.1
    have hsz : bg < w2.heap.size := hS.lt HGB.out
    have hsz2 : bg ≤ w2.heap.size := Nat.le_of_lt hsz
    clear hR hS hB2
    obtain ⟨F, hF⟩ : ∃ F, F = fillF (headSu ⟨x1, x2, x3, x4⟩ c) := ⟨_, rfl⟩
    rw [← hF] at HO19
    have hFl : F.length = 124 := by rw [hF]; exact length_fillF (by rw [length_headSu]; decide)
    have hF256 : ∀ x ∈ F, x < 256 := by rw [hF]; exact fillF_lt (headSu_lt _ _)
    obtain ⟨X, hX⟩ : ∃ X, X = (crc ones F).toNat := ⟨_, rfl⟩
    have hX32 : X < 4294967296 := by rw [hX]; exact BitVec.isLt _
    have HPK : Hid (packSu ⟨x1, x2, x3, x4⟩ c = F ++ bytes4 X) := by show _ = _; rw [hX, hF]; rfl
    have HSL := hid_of (slow_at w2 (.slice (some ⟨bg, 0, none⟩) 124 128) F X hX (SlAt.of_owns HO19.out) (by omega) hF256)
    have HFL := hid_of hFl
    clear hF hX hF256 hFl
    unfold PwA
    go_wp2_with fail
    refine HSL.out.mono ?_
    rintro e w3 ⟨rfl, rfl⟩
    rw [← HFL.out] at HO19
    go_wp2_with (at_builtin; go_must (refine wpList_append_four _ rfl (.tmp 30) (.tmp 42) rfl bg (.slice (some ⟨bg, 0, none⟩) 124 128) F X rfl (by have e := HO19.out; rw [HFL.out] at e ⊢; exact e) rfl hX32 (by rw [HFL.out]; decide) hsz2 ?_))
    intro g7 c7 w7 HO7 HK7 HG7
    rw [HFL.out] at HO7
    go_wp2_with fail
    go_ret
    have hBL : Below w.heap.size w w7 := Mid.done HBL.out HM.out HWG.out (by rw [← HBB.out]; exact HGB.out) HGB.out HK7.out
    refine ⟨g7, c7, by (show Ending.returned (.slice (some ⟨g7, 0, none⟩) (F.length + 4) c7) = _); rw [HFL.out], ?_, hBL⟩
    show World.ownsRow _ _ _ _ _ _ _
    rw [HPK.out]
    have e7 := ownsRow_base HO7.out HWG.out
    have e8 : (F ++ bytes4 X).length = 128 := by simp [HFL.out]
    rw [e8]
    exact e7

end Go.Proofs.Ytdcnbakmmkbodaa

/- The landed superblocks: mayBe. -/
namespace Go.Proofs.Ytdcnbakmmkbodaa
set_option linter.unusedVariables false
set_option linter.unusedSimpArgs false
open Go.RowKit Dg Cr

set_option maxRecDepth 100000 in
set_option maxHeartbeats 4000000 in
theorem pmay_any (w : World) (s : Su) (c : Int) (hs : Su64 s) (hc : I64 c) (q : Bool) (hq : q = decide (maySu s c)) :
    Calls Try.prog 29 #[suV s, .int .i64 c] w fun e w' => e = .returned (.bool q) ∧ Below w.heap.size w w' := by
  obtain ⟨x1, x2, x3, x4⟩ := s
  obtain ⟨⟨g1, g2⟩, ⟨l1, l2⟩, ⟨d1, d2⟩, ⟨r1, r2⟩⟩ := hs
  obtain ⟨c1, c2⟩ := hc
  simp only [] at g1 g2 l1 l2 d1 d2 r1 r2
  have HB : Hid (Below w.heap.size w (w.alloc (.cells #[.int .i64 x1, .int .i64 x2, .int .i64 x3, .int .i64 x4] 23))) := (Below.refl _ _).alloc (Nat.le_refl _) _
  have hd : maySu ⟨x1, x2, x3, x4⟩ c ↔ (1 ≤ x1 ∧ x1 < 2147483648) ∧ (1 ≤ x2 ∧ x2 < 2147483648) ∧ x3 < 2147483648 ∧ x4 < 4096 ∧ 1 ≤ c ∧ c ≤ 1024 := Iff.rfl
  unfold suV
  by_cases t1 : 1 ≤ x1
  · by_cases t2 : x1 < 2147483648
    · by_cases t3 : 1 ≤ x2
      · by_cases t4 : x2 < 2147483648
        · by_cases t5 : x3 < 2147483648
          · by_cases t6 : x4 < 4096
            · by_cases t7 : 1 ≤ c
              · by_cases t8 : c ≤ 1024
                · obtain rfl : q = true := by rw [hq, decide_eq_true (hd.2 ⟨⟨t1, t2⟩, ⟨t3, t4⟩, t5, t6, t7, t8⟩)]
                  clear hq hd
                  go_enter Try.func29, Try.ntmps29
                  go_wp2_with fail
                  go_ret
                  first | exact ⟨rfl, HB.out⟩ | exact ⟨by (show Ending.returned (.bool (decide (c ≤ 1024))) = _); rw [decide_eq_false (by omega)], HB.out⟩
                · have n8 : 1024 < c := by omega
                  obtain rfl : q = false := by rw [hq, decide_eq_false (fun e => by have := hd.1 e; omega)]
                  clear hq hd t8
                  go_enter Try.func29, Try.ntmps29
                  go_wp2_with fail
                  go_ret
                  first | exact ⟨rfl, HB.out⟩ | exact ⟨by (show Ending.returned (.bool (decide (c ≤ 1024))) = _); rw [decide_eq_false (by omega)], HB.out⟩
              · have n7 : c < 1 := by omega
                obtain rfl : q = false := by rw [hq, decide_eq_false (fun e => by have := hd.1 e; omega)]
                clear hq hd t7
                go_enter Try.func29, Try.ntmps29
                go_wp2_with fail
                go_ret
                first | exact ⟨rfl, HB.out⟩ | exact ⟨by (show Ending.returned (.bool (decide (c ≤ 1024))) = _); rw [decide_eq_false (by omega)], HB.out⟩
            · have n6 : 4096 ≤ x4 := by omega
              obtain rfl : q = false := by rw [hq, decide_eq_false (fun e => by have := hd.1 e; omega)]
              clear hq hd t6
              go_enter Try.func29, Try.ntmps29
              go_wp2_with fail
              go_ret
              first | exact ⟨rfl, HB.out⟩ | exact ⟨by (show Ending.returned (.bool (decide (c ≤ 1024))) = _); rw [decide_eq_false (by omega)], HB.out⟩
          · have n5 : 2147483648 ≤ x3 := by omega
            obtain rfl : q = false := by rw [hq, decide_eq_false (fun e => by have := hd.1 e; omega)]
            clear hq hd t5
            go_enter Try.func29, Try.ntmps29
            go_wp2_with fail
            go_ret
            first | exact ⟨rfl, HB.out⟩ | exact ⟨by (show Ending.returned (.bool (decide (c ≤ 1024))) = _); rw [decide_eq_false (by omega)], HB.out⟩
        · have n4 : 2147483648 ≤ x2 := by omega
          obtain rfl : q = false := by rw [hq, decide_eq_false (fun e => by have := hd.1 e; omega)]
          clear hq hd t4
          go_enter Try.func29, Try.ntmps29
          go_wp2_with fail
          go_ret
          first | exact ⟨rfl, HB.out⟩ | exact ⟨by (show Ending.returned (.bool (decide (c ≤ 1024))) = _); rw [decide_eq_false (by omega)], HB.out⟩
      · have n3 : x2 < 1 := by omega
        obtain rfl : q = false := by rw [hq, decide_eq_false (fun e => by have := hd.1 e; omega)]
        clear hq hd t3
        go_enter Try.func29, Try.ntmps29
        go_wp2_with fail
        go_ret
        first | exact ⟨rfl, HB.out⟩ | exact ⟨by (show Ending.returned (.bool (decide (c ≤ 1024))) = _); rw [decide_eq_false (by omega)], HB.out⟩
    · have n2 : 2147483648 ≤ x1 := by omega
      obtain rfl : q = false := by rw [hq, decide_eq_false (fun e => by have := hd.1 e; omega)]
      clear hq hd t2
      go_enter Try.func29, Try.ntmps29
      go_wp2_with fail
      go_ret
      first | exact ⟨rfl, HB.out⟩ | exact ⟨by (show Ending.returned (.bool (decide (c ≤ 1024))) = _); rw [decide_eq_false (by omega)], HB.out⟩
  · have n1 : x1 < 1 := by omega
    obtain rfl : q = false := by rw [hq, decide_eq_false (fun e => by have := hd.1 e; omega)]
    clear hq hd t1
    go_enter Try.func29, Try.ntmps29
    go_wp2_with fail
    go_ret
    first | exact ⟨rfl, HB.out⟩ | exact ⟨by (show Ending.returned (.bool (decide (c ≤ 1024))) = _); rw [decide_eq_false (by omega)], HB.out⟩


end Go.Proofs.Ytdcnbakmmkbodaa

/- The landed superblocks: Unpack. -/
namespace Go.Proofs.Ytdcnbakmmkbodaa
set_option linter.unusedVariables false
set_option linter.unusedSimpArgs false
open Go.RowKit Dg Cr

set_option maxRecDepth 100000 in
set_option maxHeartbeats 8000000 in
theorem punp_any (w : World) (a : Option Addr) (n cap : Nat) (l : List Nat) (hB : Bs w a cap l) (hl : l.length = n) (hn : n ≤ 100000) (h256 : ∀ x ∈ l, x < 256) :
    Calls Try.prog 19 #[.slice a n cap] w fun e w' => e = .returned (.tuple #[suV (unpSu l).1, .int .i64 (unpSu l).2.1, .bool (unpSu l).2.2]) ∧ Below w.heap.size w w' := by
  have hc : n ≤ cap := by have := hB.le; omega
  obtain ⟨u, uc, uo, hu⟩ : ∃ u uc uo, unpSu l = (u, uc, uo) := ⟨_, _, _, rfl⟩
  rw [hu]
  have HU := hid_of hu
  clear hu
  show Calls Try.prog _ _ w fun e w' => e = .returned (.tuple #[suV u, .int .i64 uc, .bool uo]) ∧ Below w.heap.size w w'
  by_cases h128 : n = 128
  · subst h128
    obtain ⟨x5, hx5⟩ : ∃ x, x = num4 l 24 := ⟨_, rfl⟩
    obtain ⟨⟨x1, x2, x3, x4⟩, hx⟩ : ∃ s, s = readSu l := ⟨_, rfl⟩
    have hT := take_five hl
    rw [← hx, ← hx5] at hT
    have HTK : Hid (∀ (W : World) (wa : Option Addr), Below w.heap.size w W → IntsAt W wa [4, 4, 4, 4, 4] → Calls Try.prog 28 #[.slice (lowA a cap 8) 120 (cap - 8), .slice wa 5 5] W fun e w' => ∃ g c, e = .returned (.tuple #[.slice (some ⟨g, 0, none⟩) 5 c, .bool true]) ∧ IntsAt w' (some ⟨g, 0, none⟩) [x1, x2, x3, x4, x5] ∧ W.heap.size ≤ g ∧ g < w'.heap.size ∧ Below W.heap.size W w') := fun W wa hW hi => by
      have hb2 : Bs W (lowA a cap 8) (cap - 8) (l.drop 8) := (hB.below hW).lo 8 (by omega)
      have e := ftake_any W (lowA a cap 8) wa (cap - 8) 5 (l.drop 8) [4, 4, 4, 4, 4] hb2 hi (by simp; omega) (by decide) (fun x hx => h256 x (List.mem_of_mem_drop hx)) (fun x hx => by
        simp at hx; subst hx; exact ⟨by decide, by decide⟩) _ rfl
      rw [hT, show (l.drop 8).length = 120 by simp [hl]] at e
      refine e.mono ?_
      rintro e w' ⟨v, rfl, ho, hbl⟩
      obtain ⟨a', c', rfl, hat, h0⟩ := ho.slice
      rcases h0 with ⟨-, e2, -⟩ | ⟨g, rfl, hg1, hg2⟩
      · cases e2
      · exact ⟨g, c', rfl, hat, hg1, hg2, hbl⟩
    have hsl : ∀ W, (Instr.sliceAt 26 (.slice a 128 cap) (some (.int .i64 8)) none none).run Try.prog W = .ok (.slice (lowA a cap 8) 120 (cap - 8)) W := fun W => slice_lo a 128 cap 8 (by decide) W
    -- the contracts behind
    have hi1 := num4_bound h256 8
    have hi2 := num4_bound h256 12
    have hi3 := num4_bound h256 16
    have hi4 := num4_bound h256 20
    have hi5 := num4_bound h256 24
    have ex1 : x1 = num4 l 8 := congrArg Su.gen hx
    have ex2 : x2 = num4 l 12 := congrArg Su.life hx
    have ex3 : x3 = num4 l 16 := congrArg Su.done hx
    have ex4 : x4 = num4 l 20 := congrArg Su.root hx
    rw [← ex1] at hi1
    rw [← ex2] at hi2
    rw [← ex3] at hi3
    rw [← ex4] at hi4
    rw [← hx5] at hi5
    have h64 : Su64 ⟨x1, x2, x3, x4⟩ := ⟨⟨by show _ ≤ x1; omega, by show x1 ≤ _; omega⟩, ⟨by show _ ≤ x2; omega, by show x2 ≤ _; omega⟩, ⟨by show _ ≤ x3; omega, by show x3 ≤ _; omega⟩, ⟨by show _ ≤ x4; omega, by show x4 ≤ _; omega⟩⟩
    have h645 : I64 x5 := ⟨by omega, by omega⟩
    obtain ⟨P, hP⟩ : ∃ P, P = packSu ⟨x1, x2, x3, x4⟩ x5 := ⟨_, rfl⟩
    obtain ⟨qm, hqm⟩ : ∃ q, q = decide (maySu ⟨x1, x2, x3, x4⟩ x5) := ⟨_, rfl⟩
    obtain ⟨qe, hqe⟩ : ∃ q, q = decide (l = P) := ⟨_, rfl⟩
    have HMB : Hid (∀ W : World, Calls Try.prog 29 #[.agg #[.int .i64 x1, .int .i64 x2, .int .i64 x3, .int .i64 x4], .int .i64 x5] W fun e w' => e = .returned (.bool qm) ∧ Below W.heap.size W w') := fun W => by
      have e := pmay_any W ⟨x1, x2, x3, x4⟩ x5 h64 h645 qm hqm
      unfold suV at e
      exact e
    have HPK : Hid (∀ W : World, Calls Try.prog 10 #[.agg #[.int .i64 x1, .int .i64 x2, .int .i64 x3, .int .i64 x4], .int .i64 x5] W fun e w' => ∃ g k, e = .returned (.slice (some ⟨g, 0, none⟩) 128 k) ∧ Bs w' (some ⟨g, 0, none⟩) k P ∧ Below W.heap.size W w') := fun W => by
      have e := ppack_any W ⟨x1, x2, x3, x4⟩ x5 h64 h645
      unfold suV at e
      exact e.mono fun e w' ⟨g, k, e1, e2, e3⟩ => ⟨g, k, e1, by rw [hP]; exact Bs.ofo e2, e3⟩
    have hPl : P.length = 128 := by rw [hP]; exact length_packSu _ _
    have hP256 : ∀ x ∈ P, x < 256 := by rw [hP]; exact packSu_lt _ _
    have HEQ : Hid (∀ (W : World) (g k : Nat), Below w.heap.size w W → Bs W (some ⟨g, 0, none⟩) k P → Calls Try.prog 30 #[.slice a 128 cap, .slice (some ⟨g, 0, none⟩) 128 k] W fun e w' => e = .returned (.bool qe) ∧ W = w') := fun W g k hW hb => by
      have s1 : SlAt W (.slice a 128 cap) l := by have e := (hB.below hW).at_; rw [hl] at e; exact e
      have s2 : SlAt W (.slice (some ⟨g, 0, none⟩) 128 k) P := by have e := hb.at_; rw [hPl] at e; exact e
      exact bequal_any W a _ 128 128 cap k l P hl hPl (by decide) (by decide) s1 s2 h256 hP256 qe hqe
    have HOUT : Hid ((qm = true → qe = true → (u, uc, uo) = ((⟨x1, x2, x3, x4⟩ : Su), x5, true)) ∧ (qm = false → (u, uc, uo) = ((⟨0, 0, 0, 0⟩ : Su), (0 : Int), false)) ∧ (qe = false → (u, uc, uo) = ((⟨0, 0, 0, 0⟩ : Su), (0 : Int), false))) := by
      refine ⟨fun e1 e2 => ?_, fun e1 => ?_, fun e1 => ?_⟩
      · rw [← HU.out]
        have f1 : maySu ⟨x1, x2, x3, x4⟩ x5 := of_decide_eq_true (by rw [← hqm]; exact e1)
        have f2 : l = P := of_decide_eq_true (by rw [← hqe]; exact e2)
        unfold unpSu
        rw [if_pos ⟨hl, by rw [← hx, ← hx5, ← hP]; exact f2.symm, by rw [← hx, ← hx5]; exact f1⟩, ← hx, ← hx5]
      · rw [← HU.out]
        have f1 : ¬ maySu ⟨x1, x2, x3, x4⟩ x5 := of_decide_eq_false (by rw [← hqm]; exact e1)
        unfold unpSu
        rw [if_neg (fun h => f1 (by rw [hx, hx5]; exact h.2.2))]
      · rw [← HU.out]
        have f2 : ¬ l = P := of_decide_eq_false (by rw [← hqe]; exact e1)
        unfold unpSu
        rw [if_neg (fun h => f2 (by rw [hP, hx, hx5]; exact h.2.1.symm))]
    clear hT hi1 hi2 hi3 hi4 hi5 ex1 ex2 ex3 ex4 hx hx5 h64 h645 hP hqm hqe hPl hP256 h256 hB HU
    go_enter Try.func19, Try.ntmps19
    go_wp2_with fail
    obtain ⟨w1, hw1⟩ : ∃ w1, w1 = w.alloc (.cells #[.int .i64 0, .int .i64 0, .int .i64 0, .int .i64 0] 23) := ⟨_, rfl⟩
    obtain ⟨rx, hrx⟩ : ∃ rx, rx = w.heap.size := ⟨_, rfl⟩
    have hs1 : w1.heap.size = rx + 1 := by rw [hw1, hrx]; simp
    have hb1 : Below w.heap.size w w1 := by rw [hw1]; exact (Below.refl _ _).alloc (Nat.le_refl _) _
    have hr1 : w1.heap[rx]? = some (.cells #[.int .i64 0, .int .i64 0, .int .i64 0, .int .i64 0] 23 (0, 0)) := by rw [hw1, hrx]; exact heap_alloc_new w _
    rw [← hw1, ← hrx, ← hs1]
    have hlit : IntsAt (w1.alloc (.cells #[.int .i64 4, .int .i64 4, .int .i64 4, .int .i64 4, .int .i64 4] 3)) (some ⟨w1.heap.size, 0, none⟩) [4, 4, 4, 4, 4] := (OwnInts.lit w1 0 [4, 4, 4, 4, 4] 5 rfl (Nat.zero_le _) (by decide) _ rfl).at
    have hb2 : Below w.heap.size w (w1.alloc (.cells #[.int .i64 4, .int .i64 4, .int .i64 4, .int .i64 4, .int .i64 4] 3)) := hb1.alloc hb1.size _
    have HC1 := hid_of (HTK.out _ _ hb2 hlit)
    have HB2 := hid_of hb2
    have HS1 := hid_of hs1
    have HR1 := hid_of hr1
    have HRX : Hid (rx = w.heap.size) := hrx
    clear hw1 hrx hs1 hb1 hr1 hlit hb2 HTK
    refine HC1.out.mono ?_
    rintro e w2 ⟨g, k2, rfl, hat, hg1, hg2, hb⟩
    have hs12 : w1.heap.size ≤ (w1.alloc (.cells #[.int .i64 4, .int .i64 4, .int .i64 4, .int .i64 4, .int .i64 4] 3)).heap.size := by simp
    have HB3 : Hid (Below w.heap.size w w2) := HB2.out.trans (hb.mono HB2.out.size)
    have hr2 : w2.heap[rx]? = some (.cells #[.int .i64 0, .int .i64 0, .int .i64 0, .int .i64 0] 23 (0, 0)) := by
      have e1 : (w1.alloc (.cells #[.int .i64 4, .int .i64 4, .int .i64 4, .int .i64 4, .int .i64 4] 3)).heap[rx]? = w1.heap[rx]? := heap_alloc_old _ _ (by have := HS1.out; omega)
      exact (hb.block rx (by have := HS1.out; omega)).trans (e1.trans HR1.out)
    have hgx : g ≠ rx := by have := HS1.out; omega
    have hxg : rx ≠ g := fun e => hgx e.symm
    have hcell : ∀ j x, [x1, x2, x3, x4, x5][j]? = some x → w2.cell? ⟨g, j, none⟩ = some (.int .i64 x) := fun j x hx => by
      obtain ⟨b', off, e1, e2⟩ := hat j x hx
      cases e1
      rw [Nat.zero_add] at e2
      exact e2
    have j1 := hcell 0 x1 rfl
    have j2 := hcell 1 x2 rfl
    have j3 := hcell 2 x3 rfl
    have j4 := hcell 3 x4 rfl
    have j5 := hcell 4 x5 rfl
    obtain ⟨⟨z0, z1, z2, z3⟩, mf, f1, f2, f3, HST⟩ := box4 hr2
    have HSW := hid_of (HST.out (.int .i64 x1) (.int .i64 x2) (.int .i64 x3) (.int .i64 x4))
    clear hat hg1 hg2 hb hs12 hcell HC1 HB2 HS1 HR1 HST hr2
    go_upto_region 4 with fail
    go_region_held (fun W' => W'.cell? ⟨g, 0, none⟩ = some (.int .i64 x1) ∧ W'.cell? ⟨g, 1, none⟩ = some (.int .i64 x2) ∧ W'.cell? ⟨g, 2, none⟩ = some (.int .i64 x3) ∧ W'.cell? ⟨g, 3, none⟩ = some (.int .i64 x4) ∧ W'.cell? ⟨g, 4, none⟩ = some (.int .i64 x5)) (first | assumption | go_keep) (fail)
    all_goals rename_i hheld
    all_goals clear hheld
    obtain ⟨w3, hw3⟩ : ∃ w3, w3 = ((((w2.setCell ⟨rx, 0, none⟩ (.int .i64 x1)).setCell ⟨rx, 1, none⟩ (.int .i64 x2)).setCell ⟨rx, 2, none⟩ (.int .i64 x3)).setCell ⟨rx, 3, none⟩ (.int .i64 x4)).drew := ⟨_, rfl⟩
    have hr3 : w3.heap[rx]? = some (.cells #[.int .i64 x1, .int .i64 x2, .int .i64 x3, .int .i64 x4] 23 (0, 0)) := by rw [hw3]; exact HSW.out.1
    have HB3' : Hid (Below w.heap.size w w3) := by show Below _ _ _; rw [hw3]; exact (HSW.out.2.below_of HB3.out (fun k e => by have := HRX.out; omega) HB3.out.size).drew
    rw [← hw3]
    clear hw3 HSW HB3 z0 z1 z2 z3 mf f1 f2 f3 j1 j2 j3 j4 j5 hgx hxg
    obtain ⟨⟨k0, k1, k2', k3⟩, -⟩ := box4 hr3
    have HR3 := hid_of hr3
    have HC2 := hid_of (HMB.out w3)
    clear hr3
    go_wp2_with fail
    refine HC2.out.mono ?_
    rintro e w4 ⟨rfl, hb4⟩
    have hr4 : w4.heap[rx]? = some (.cells #[.int .i64 x1, .int .i64 x2, .int .i64 x3, .int .i64 x4] 23 (0, 0)) := (hb4.block rx (Array.getElem?_eq_some_iff.1 HR3.out).1).trans HR3.out
    have HB4 : Hid (Below w.heap.size w w4) := HB3'.out.trans (hb4.mono HB3'.out.size)
    have HR4 := hid_of hr4
    clear hb4 hr4 HC2 HR3 HB3' k0 k1 k2' k3
    cases qm
    · have e := HOUT.out.2.1 (by trivial)
      simp only [Prod.mk.injEq] at e
      obtain ⟨rfl, rfl, rfl⟩ := e
      obtain ⟨⟨z0, z1, z2, z3⟩, mf, f1, f2, f3, HST⟩ := box4 HR4.out
      have HEND := hid_of ((HST.out (.int .i64 0) (.int .i64 0) (.int .i64 0) (.int .i64 0)).2.below_of HB4.out (fun k e => by have := HRX.out; omega) HB4.out.size)
      clear HOUT
      go_wp2_with fail
      try simp only [Exit.inBlock, Exit.then]
      refine bodyPost_ret (results_cell3 (p := 2) (ty := 23) rfl _ _ rx 23 #[.int .i64 0, .int .i64 0, .int .i64 0, .int .i64 0] (0, 0) _ rfl (HST.out _ _ _ _).1 Try.underlying23 rfl Try.infoSu) rfl ?_
      exact ⟨rfl, HEND.out⟩
    · obtain ⟨⟨k0, k1, k2', k3⟩, -⟩ := box4 HR4.out
      have HC3 := hid_of (HPK.out w4)
      go_wp2_with fail
      refine HC3.out.mono ?_
      rintro e w5 ⟨g5, k5, rfl, hbp, hb5⟩
      have hr5 : w5.heap[rx]? = some (.cells #[.int .i64 x1, .int .i64 x2, .int .i64 x3, .int .i64 x4] 23 (0, 0)) := (hb5.block rx (Array.getElem?_eq_some_iff.1 HR4.out).1).trans HR4.out
      have HB5 : Hid (Below w.heap.size w w5) := HB4.out.trans (hb5.mono HB4.out.size)
      have HR5 := hid_of hr5
      have HC4 := hid_of (HEQ.out w5 g5 k5 HB5.out hbp)
      clear hb5 hr5 HC3 HR4 HB4 hbp k0 k1 k2' k3
      go_wp2_with fail
      refine HC4.out.mono ?_
      rintro e w6 ⟨rfl, rfl⟩
      cases qe
      · have e := HOUT.out.2.2 (by trivial)
        simp only [Prod.mk.injEq] at e
        obtain ⟨rfl, rfl, rfl⟩ := e
        obtain ⟨⟨z0, z1, z2, z3⟩, mf, f1, f2, f3, HST⟩ := box4 HR5.out
        have HEND := hid_of ((HST.out (.int .i64 0) (.int .i64 0) (.int .i64 0) (.int .i64 0)).2.below_of HB5.out (fun k e => by have := HRX.out; omega) HB5.out.size)
        clear HOUT
        go_wp2_with fail
        try simp only [Exit.inBlock, Exit.then]
        refine bodyPost_ret (results_cell3 (p := 2) (ty := 23) rfl _ _ rx 23 #[.int .i64 0, .int .i64 0, .int .i64 0, .int .i64 0] (0, 0) _ rfl (HST.out _ _ _ _).1 Try.underlying23 rfl Try.infoSu) rfl ?_
        exact ⟨rfl, HEND.out⟩
      · have e := HOUT.out.1 (by trivial) (by trivial)
        simp only [Prod.mk.injEq] at e
        obtain ⟨rfl, rfl, rfl⟩ := e
        obtain ⟨⟨z0, z1, z2, z3⟩, mf, f1, f2, f3, HST⟩ := box4 HR5.out
        have HEND := hid_of ((HST.out (.int .i64 x1) (.int .i64 x2) (.int .i64 x3) (.int .i64 x4)).2.below_of HB5.out (fun k e => by have := HRX.out; omega) HB5.out.size)
        clear HOUT
        go_wp2_with fail
        try simp only [Exit.inBlock, Exit.then]
        refine bodyPost_ret (results_cell3 (p := 2) (ty := 23) rfl _ _ rx 23 #[.int .i64 x1, .int .i64 x2, .int .i64 x3, .int .i64 x4] (0, 0) _ rfl (HST.out _ _ _ _).1 Try.underlying23 rfl Try.infoSu) rfl ?_
        exact ⟨rfl, HEND.out⟩
  · have hU : unpSu l = (⟨0, 0, 0, 0⟩, 0, false) := by
      unfold unpSu
      rw [if_neg (fun h => h128 (by rw [← hl]; exact h.1))]
    rw [HU.out] at hU
    injection hU with hU1 hU2
    injection hU2 with hU2 hU3
    subst hU1 hU2 hU3
    have hb : ((n : Int) == 128) = false := beq_eq_false_iff_ne.2 (by omega)
    clear hB hl h256 HU
    obtain ⟨w1, hw1⟩ : ∃ w1, w1 = w.alloc (.cells #[.int .i64 0, .int .i64 0, .int .i64 0, .int .i64 0] 23) := ⟨_, rfl⟩
    obtain ⟨rx, hrx⟩ : ∃ rx, rx = w.heap.size := ⟨_, rfl⟩
    have hr1 : w1.heap[rx]? = some (.cells #[.int .i64 0, .int .i64 0, .int .i64 0, .int .i64 0] 23 (0, 0)) := by rw [hw1, hrx]; exact heap_alloc_new w _
    have HBW : Hid (Below w.heap.size w w1) := by show Below _ _ _; rw [hw1]; exact (Below.refl _ _).alloc (Nat.le_refl _) _
    obtain ⟨⟨z0, z1, z2, z3⟩, mf, f1, f2, f3, HST⟩ := box4 hr1
    have HEND := hid_of ((HST.out (.int .i64 0) (.int .i64 0) (.int .i64 0) (.int .i64 0)).2.below_of HBW.out (fun k e => by subst e; rw [hrx]; exact Nat.le_refl _) HBW.out.size)
    clear hr1
    go_enter Try.func19, Try.ntmps19
    go_upto_region 1 with fail
    rw [← hw1, ← hrx]
    clear hw1 hrx
    go_wp2_with fail
    try simp only [Exit.inBlock, Exit.then]
    refine bodyPost_ret (results_cell3 (p := 2) (ty := 23) rfl _ _ rx 23 #[.int .i64 0, .int .i64 0, .int .i64 0, .int .i64 0] (0, 0) _ rfl (HST.out _ _ _ _).1 Try.underlying23 rfl Try.infoSu) rfl ?_
    exact ⟨rfl, HEND.out⟩

end Go.Proofs.Ytdcnbakmmkbodaa

/- The landed superblocks: Choose. -/
namespace Go.Proofs.Ytdcnbakmmkbodaa
set_option linter.unusedVariables false
set_option linter.unusedSimpArgs false
open Go.RowKit Dg Cr

theorem unp_gen {l : List Nat} {s : Su} {m : Int} {o : Bool} (h : unpSu l = (s, m, o)) : (o = false → s = ⟨0, 0, 0, 0⟩ ∧ m = 0) ∧ (o = true → 1 ≤ s.gen) := by
  unfold unpSu at h
  by_cases hi : isSu l
  · rw [if_pos hi] at h
    injection h with e1 e2
    injection e2 with e2 e3
    subst e1 e2 e3
    exact ⟨(fun e => by cases e), fun _ => hi.2.2.1.1⟩
  · rw [if_neg hi] at h
    injection h with e1 e2
    injection e2 with e2 e3
    subst e1 e2 e3
    exact ⟨fun _ => ⟨rfl, rfl⟩, fun e => by cases e⟩
theorem choose_gt {l1 l2 : List Nat} {s1 s2 : Su} {m1 m2 : Int} {o1 o2 : Bool} (h1 : unpSu l1 = (s1, m1, o1)) (h2 : unpSu l2 = (s2, m2, o2)) :
    chooseSu l1 l2 = if s1.gen < s2.gen then (s2, m2, 1, o2) else (s1, m1, 0, o1) := by
  have g1 := unp_gen h1
  have g2 := unp_gen h2
  rw [choose_of h1 h2]
  cases o1
  · obtain ⟨rfl, rfl⟩ := g1.1 rfl
    cases o2
    · obtain ⟨rfl, rfl⟩ := g2.1 rfl
      simp
    · have := g2.2 rfl
      rw [if_neg (by simp), if_pos rfl, if_pos (by show (0 : Int) < _; omega)]
  · have k1 := g1.2 rfl
    cases o2
    · obtain ⟨rfl, rfl⟩ := g2.1 rfl
      rw [if_pos (by simp), if_neg (by show ¬ s1.gen < 0; omega)]
    · by_cases hg : s2.gen ≤ s1.gen
      · rw [if_pos (by simp [hg]), if_neg (by omega)]
      · rw [if_neg (by simp [hg]), if_pos rfl, if_pos (by omega)]

set_option maxRecDepth 100000 in
set_option maxHeartbeats 8000000 in
theorem pchoose_any (w : World) (a1 : Option Addr) (n1 c1 : Nat) (l1 : List Nat) (a2 : Option Addr) (n2 c2 : Nat) (l2 : List Nat) (hB1 : Bs w a1 c1 l1) (hl1 : l1.length = n1) (hn1 : n1 ≤ 100000) (h1 : ∀ x ∈ l1, x < 256) (hB2 : Bs w a2 c2 l2) (hl2 : l2.length = n2) (hn2 : n2 ≤ 100000) (h2 : ∀ x ∈ l2, x < 256) :
    Calls Try.prog 12 #[.slice a1 n1 c1, .slice a2 n2 c2] w fun e w' => e = .returned (.tuple #[suV (chooseSu l1 l2).1, .int .i64 (chooseSu l1 l2).2.1, .int .i64 (chooseSu l1 l2).2.2.1, .bool (chooseSu l1 l2).2.2.2]) ∧ Below w.heap.size w w' := by
  obtain ⟨⟨p1, p2, p3, p4⟩, m1, o1, hu1⟩ : ∃ s m o, unpSu l1 = (s, m, o) := ⟨_, _, _, rfl⟩
  obtain ⟨⟨q1, q2, q3, q4⟩, m2, o2, hu2⟩ : ∃ s m o, unpSu l2 = (s, m, o) := ⟨_, _, _, rfl⟩
  have hch := choose_gt hu1 hu2
  have hc1 := hB1.le
  have hc2 := hB2.le
  have HU1 : Hid (∀ W : World, Below w.heap.size w W → Calls Try.prog 19 #[.slice a1 n1 c1] W fun e w' => e = .returned (.tuple #[.agg #[.int .i64 p1, .int .i64 p2, .int .i64 p3, .int .i64 p4], .int .i64 m1, .bool o1]) ∧ Below W.heap.size W w') := fun W hW => by
    have e := punp_any W a1 n1 c1 l1 (hB1.below hW) hl1 hn1 h1
    rw [hu1] at e
    exact e
  have HU2 : Hid (∀ W : World, Below w.heap.size w W → Calls Try.prog 19 #[.slice a2 n2 c2] W fun e w' => e = .returned (.tuple #[.agg #[.int .i64 q1, .int .i64 q2, .int .i64 q3, .int .i64 q4], .int .i64 m2, .bool o2]) ∧ Below W.heap.size W w') := fun W hW => by
    have e := punp_any W a2 n2 c2 l2 (hB2.below hW) hl2 hn2 h2
    rw [hu2] at e
    exact e
  obtain ⟨u, uc, us, uo, hu⟩ : ∃ u uc us uo, chooseSu l1 l2 = (u, uc, us, uo) := ⟨_, _, _, _, rfl⟩
  rw [hu] at hch ⊢
  have HO : Hid ((p1 < q1 → (u, uc, us, uo) = ((⟨q1, q2, q3, q4⟩ : Su), m2, (1 : Int), o2)) ∧ (¬ p1 < q1 → (u, uc, us, uo) = ((⟨p1, p2, p3, p4⟩ : Su), m1, (0 : Int), o1))) := by
    refine ⟨fun h => ?_, fun h => ?_⟩
    · rw [hch]; exact if_pos h
    · rw [hch]; exact if_neg h
  clear hch hu hu1 hu2 hB1 hB2 h1 h2 hl1 hl2 hc1 hc2
  show Calls Try.prog _ _ w fun e w' => e = .returned (.tuple #[suV u, .int .i64 uc, .int .i64 us, .bool uo]) ∧ Below w.heap.size w w'
  obtain ⟨rx, hrx⟩ : ∃ rx, rx = w.heap.size := ⟨_, rfl⟩
  obtain ⟨w0, hw0⟩ : ∃ w0, w0 = w.alloc (.cells #[.int .i64 0, .int .i64 0, .int .i64 0, .int .i64 0] 23) := ⟨_, rfl⟩
  have hb0 : Below w.heap.size w w0 := by rw [hw0]; exact (Below.refl _ _).alloc (Nat.le_refl _) _
  have hr0 : w0.heap[rx]? = some (.cells #[.int .i64 0, .int .i64 0, .int .i64 0, .int .i64 0] 23 (0, 0)) := by rw [hw0, hrx]; exact heap_alloc_new w _
  have HB0 := hid_of hb0
  have HR0 := hid_of hr0
  have HRX := hid_of hrx
  have HC1 := hid_of (HU1.out w0 hb0)
  go_enter Try.func12, Try.ntmps12
  go_upto_region 1 with fail
  rw [← hw0, ← hrx]
  clear hw0 hrx hb0 hr0
  go_wp2_with fail
  refine HC1.out.mono ?_
  rintro e w1 ⟨rfl, hb1⟩
  obtain ⟨wA, hwA⟩ : ∃ wA, wA = w1.alloc (.cells #[.int .i64 p1, .int .i64 p2, .int .i64 p3, .int .i64 p4] 23) := ⟨_, rfl⟩
  obtain ⟨sx, hsx⟩ : ∃ sx, sx = w1.heap.size := ⟨_, rfl⟩
  have hbA : Below w0.heap.size w0 wA := by rw [hwA]; exact hb1.alloc hb1.size _
  have hsA : wA.heap[sx]? = some (.cells #[.int .i64 p1, .int .i64 p2, .int .i64 p3, .int .i64 p4] 23 (0, 0)) := by rw [hwA, hsx]; exact heap_alloc_new w1 _
  have HBA : Hid (Below w.heap.size w wA) := HB0.out.trans (hbA.mono HB0.out.size)
  have HRA : Hid (wA.heap[rx]? = some (.cells #[.int .i64 0, .int .i64 0, .int .i64 0, .int .i64 0] 23 (0, 0))) := (hbA.block rx (Array.getElem?_eq_some_iff.1 HR0.out).1).trans HR0.out
  have HSA := hid_of hsA
  have HC2 := hid_of (HU2.out wA HBA.out)
  go_upto_region 2 with fail
  rw [← hwA, ← hsx]
  clear hwA hsx hbA hsA hb1 HB0 HR0 HU1 HU2 HC1
  go_wp2_with fail
  refine HC2.out.mono ?_
  rintro e w2 ⟨rfl, hb2⟩
  obtain ⟨wB, hwB⟩ : ∃ wB, wB = w2.alloc (.cells #[.int .i64 q1, .int .i64 q2, .int .i64 q3, .int .i64 q4] 23) := ⟨_, rfl⟩
  obtain ⟨tx, htx⟩ : ∃ tx, tx = w2.heap.size := ⟨_, rfl⟩
  have hbB : Below wA.heap.size wA wB := by rw [hwB]; exact hb2.alloc hb2.size _
  have htB : wB.heap[tx]? = some (.cells #[.int .i64 q1, .int .i64 q2, .int .i64 q3, .int .i64 q4] 23 (0, 0)) := by rw [hwB, htx]; exact heap_alloc_new w2 _
  have HBB : Hid (Below w.heap.size w wB) := HBA.out.trans (hbB.mono HBA.out.size)
  have hrB : wB.heap[rx]? = some (.cells #[.int .i64 0, .int .i64 0, .int .i64 0, .int .i64 0] 23 (0, 0)) := (hbB.block rx (Array.getElem?_eq_some_iff.1 HRA.out).1).trans HRA.out
  have hsB : wB.heap[sx]? = some (.cells #[.int .i64 p1, .int .i64 p2, .int .i64 p3, .int .i64 p4] 23 (0, 0)) := (hbB.block sx (Array.getElem?_eq_some_iff.1 HSA.out).1).trans HSA.out
  obtain ⟨⟨k0, k1, k2, k3⟩, -⟩ := box4 hsB
  obtain ⟨⟨j0, j1, j2, j3⟩, -⟩ := box4 htB
  obtain ⟨⟨z0, z1, z2, z3⟩, mf, f1, f2, f3, HST⟩ := box4 hrB
  have HEND : Hid (∀ c0 c1 c2 c3 : Value, Below w.heap.size w ((((wB.setCell ⟨rx, 0, none⟩ c0).setCell ⟨rx, 1, none⟩ c1).setCell ⟨rx, 2, none⟩ c2).setCell ⟨rx, 3, none⟩ c3)) := fun c0 c1 c2 c3 => (HST.out c0 c1 c2 c3).2.below_of HBB.out (fun k e => by have := HRX.out; omega) HBB.out.size
  go_upto_region 3 with fail
  rw [← hwB, ← htx]
  clear hwB htx hbB htB hrB hsB hb2 HBA HRA HSA HC2 HBB
  by_cases hg : p1 < q1
  · have e := HO.out.1 hg
    simp only [Prod.mk.injEq] at e
    obtain ⟨rfl, rfl, rfl, rfl⟩ := e
    clear HO
    have hd : decide (p1 < q1) = true := decide_eq_true hg
    go_wp2_with fail
    try simp only [Exit.inBlock, Exit.then]
    refine bodyPost_ret (results_cell4 (p := 4) (ty := 23) rfl _ _ rx 23 #[.int .i64 q1, .int .i64 q2, .int .i64 q3, .int .i64 q4] (0, 0) _ rfl (HST.out _ _ _ _).1 Try.underlying23 rfl Try.infoSu) rfl ?_
    exact ⟨rfl, HEND.out _ _ _ _⟩
  · have e := HO.out.2 (by omega)
    simp only [Prod.mk.injEq] at e
    obtain ⟨rfl, rfl, rfl, rfl⟩ := e
    clear HO
    have hd : decide (p1 < q1) = false := decide_eq_false hg
    go_wp2_with fail
    try simp only [Exit.inBlock, Exit.then]
    refine bodyPost_ret (results_cell4 (p := 4) (ty := 23) rfl _ _ rx 23 #[.int .i64 p1, .int .i64 p2, .int .i64 p3, .int .i64 p4] (0, 0) _ rfl (HST.out _ _ _ _).1 Try.underlying23 rfl Try.infoSu) rfl ?_
    exact ⟨rfl, HEND.out _ _ _ _⟩

end Go.Proofs.Ytdcnbakmmkbodaa

/- The landed superblocks: Next. -/
namespace Go.Proofs.Ytdcnbakmmkbodaa
set_option linter.unusedVariables false
set_option linter.unusedSimpArgs false
open Go.RowKit Dg Cr

theorem suNextW : SuNext := by
  intro w s hs
  obtain ⟨x1, x2, x3, x4⟩ := s
  obtain ⟨⟨g1, g2⟩, h2, h3, h4⟩ := hs
  simp only [] at g1 g2
  clear h2 h3 h4
  unfold suV nextSu
  simp only []
  obtain ⟨m, hm⟩ : ∃ m, m = max x1 0 := ⟨_, rfl⟩
  rw [← hm]
  have HM := hid_of hm
  clear hm
  have HB : Hid (Below w.heap.size w (w.alloc (.cells #[.int .i64 x1, .int .i64 x2, .int .i64 x3, .int .i64 x4] 23))) := (Below.refl _ _).alloc (Nat.le_refl _) _
  go_enter Try.func11, Try.ntmps11
  go_wp2_with fail
  all_goals go_ret
  all_goals refine ⟨?_, HB.out⟩
  · have e : m = 0 := by have := HM.out; omega
    rw [e]; rfl
  · have e : m = x1 := by have := HM.out; omega
    rw [e]; rfl

end Go.Proofs.Ytdcnbakmmkbodaa
