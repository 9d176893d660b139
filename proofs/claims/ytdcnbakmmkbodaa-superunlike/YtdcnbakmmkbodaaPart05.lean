/- The texts SuEach, SuRef2, Fld4, BytesC, one behind the other. -/
import Derived.Test.YtdcnbakmmkbodaaPart04
import Derived.Test.YtdcnbakmmkbodaaPart03
import Derived.Laws.BytesArg
import Derived.Lib.SliceRun

/- The document's four bytes of a number; marks on a row of bytes; what stays when blocks are made and marked. -/
namespace Go.Proofs.Ytdcnbakmmkbodaa
set_option linter.unusedVariables false
set_option linter.unusedSimpArgs false
open Go.RowKit Dg Cr

theorem size_freeze (w : World) (p : Addr) (n : Nat) : (w.freeze p n).heap.size = w.heap.size := by
  unfold World.freeze
  split
  · rfl
  · simp
theorem below_freezeB {B : Nat} {a w : World} (h : Below B a w) {g k : Nat} (hp : B ≤ g) (n : Nat) : Below B a (w.freeze ⟨g, k, none⟩ n) := by
  have e : ∀ i, i < B → (w.freeze ⟨g, k, none⟩ n).heap[i]? = w.heap[i]? := fun i hi => by
    unfold World.freeze
    split
    · rfl
    · simp only [Array.getElem?_modify]
      rw [if_neg (by show ¬ g = i; omega)]
  have e2 : (w.freeze ⟨g, k, none⟩ n).os = w.os ∧ (w.freeze ⟨g, k, none⟩ n).tape = w.tape ∧ (w.freeze ⟨g, k, none⟩ n).output = w.output := by
    unfold World.freeze
    split <;> exact ⟨rfl, rfl, rfl⟩
  exact ⟨e2.1.trans h.os, e2.2.1.trans h.tape, e2.2.2.trans h.output, by rw [size_freeze]; exact h.size, fun i hi => (e i hi).trans (h.block i hi)⟩
/-- Four bytes of a number, in a block that bears a name of its own. -/
theorem rput_four (w : World) (x : Int) (h : I64 x) : Calls Try.prog 26 #[.int .i64 x, .int .i64 4] w fun e w' => ∃ g, e = .returned (.slice (some ⟨g, 0, none⟩) 4 4) ∧ Bs w' (some ⟨g, 0, none⟩) 4 (put4 x) ∧ Below w.heap.size w w' :=
  (rputN_any w x 4 h ⟨by decide, by decide⟩ x.toNat 4 rfl rfl).mono fun e w' ⟨e1, e2, e3⟩ => ⟨_, e1, Bs.put e2, e3⟩
/-- Each row of cells stays, but for its mark. -/
def Stay (w w' : World) : Prop := ∀ (b : Nat) (c : Array Value) (t : TypeId) (z : Nat × Nat), w.heap[b]? = some (.cells c t z) → ∃ z', w'.heap[b]? = some (.cells c t z')
theorem Stay.refl (w : World) : Stay w w := fun b c t z h => ⟨z, h⟩
theorem Stay.trans {a b c : World} (h : Stay a b) (k : Stay b c) : Stay a c := fun x d t z e => by
  obtain ⟨z1, e1⟩ := h x d t z e
  exact k x d t z1 e1
theorem Stay.of_below {w w' : World} (h : Below w.heap.size w w') : Stay w w' := fun b c t z e => ⟨z, (h.block b (Array.getElem?_eq_some_iff.1 e).1).trans e⟩
theorem Stay.alloc (w : World) (o : Obj) : Stay w (w.alloc o) := Stay.of_below ((Below.refl _ _).alloc (Nat.le_refl _) o)
theorem Stay.freeze (w : World) (p : Addr) (n : Nat) : Stay w (w.freeze p n) := fun b c t z e => by
  unfold World.freeze
  by_cases hn : n = 0
  · rw [if_pos hn]; exact ⟨z, e⟩
  · rw [if_neg hn]
    simp only [Array.getElem?_modify]
    by_cases hb : p.block = b
    · rw [if_pos hb, e]
      exact ⟨_, rfl⟩
    · rw [if_neg hb]; exact ⟨z, e⟩
theorem Stay.cell {w w' : World} (h : Stay w w') {b o : Nat} {v : Value} (hc : w.cell? ⟨b, o, none⟩ = some v) : w'.cell? ⟨b, o, none⟩ = some v := by
  unfold World.cell? at hc ⊢
  cases e : w.heap[b]? with
  | none => simp [e] at hc
  | some x =>
    cases x with
    | cells c t z =>
      obtain ⟨z', e'⟩ := h b c t z e
      simp only [e] at hc
      simp only [e']
      exact hc
    | _ => simp [e] at hc
theorem Bs.stay {w w' : World} (h : Stay w w') {a : Option Addr} {cap : Nat} {l : List Nat} (hb : Bs w a cap l) : Bs w' a cap l := by
  refine ⟨?_, hb.le, hb.nil⟩
  obtain ⟨ao, c, e, hc⟩ := hb.at_
  refine ⟨ao, c, e, fun j x hx => ?_⟩
  obtain ⟨b, off, e1, e2⟩ := hc j x hx
  exact ⟨b, off, e1, h.cell e2⟩
theorem RowsOf.stay {w w' : World} (h : Stay w w') {a : Option Addr} {R : List ((Option Addr × Nat) × List Nat)} (hr : RowsOf w a R) : RowsOf w' a R := fun r p hp => by
  obtain ⟨b, off, e1, e2, e3⟩ := hr r p hp
  exact ⟨b, off, e1, h.cell e2, e3.stay h⟩
theorem IntsAt.stay {w w' : World} (h : Stay w w') {a : Option Addr} {l : List Int} (hb : IntsAt w a l) : IntsAt w' a l := fun j x hx => by
  obtain ⟨b, off, e1, e2⟩ := hb j x hx
  exact ⟨b, off, e1, h.cell e2⟩
/-- A row of bytes in a slot. -/
def RowV (w : World) (n : Nat) (l : List Nat) (v : Value) : Prop := ∃ a c, v = .slice a n c ∧ Bs w a c l
theorem RowV.stay {w w' : World} (h : Stay w w') {n : Nat} {l : List Nat} {v : Value} (hr : RowV w n l v) : RowV w' n l v := by
  obtain ⟨a, c, e, hb⟩ := hr
  exact ⟨a, c, e, hb.stay h⟩
/-- A conversion of a row that was built, marked or not. -/
theorem run_convert_row {P : Program} (w : World) (t e : TypeId) (g : Nat) (C : Array Value) (z : Nat × Nat) (n c : Nat) (ht : P.underlying t = some (.slice e)) (he : P.underlying e = some (.int .u8)) (hg : w.heap[g]? = some (.cells C e z)) :
    (convert t t (.slice (some ⟨g, 0, none⟩) n c)).run P w = .ok (.slice (some ⟨g, 0, none⟩) n c) (w.freeze ⟨g, C.size, none⟩ 1) := by
  have hsh : w.shape? g = some (e, C.size) := by unfold World.shape?; rw [hg]
  simp [convert, run_underlying ht, run_underlying he, markStringish, hsh]
theorem bs_lit8 {w : World} {g : Nat} {z : Nat × Nat} (h : w.heap[g]? = some (.cells #[.int .u8 111, .int .u8 118, .int .u8 101, .int .u8 114, .int .u8 100, .int .u8 117, .int .u8 98, .int .u8 49] 5 z)) : Bs w (some ⟨g, 0, none⟩) 8 magicL := by
  refine ⟨⟨_, 8, rfl, fun j x hx => ⟨_, 0, rfl, ?_⟩⟩, Nat.le_refl _, fun e => by cases e⟩
  rw [Nat.zero_add]
  unfold World.cell?
  rw [h]
  have e2 : (#[.int .u8 111, .int .u8 118, .int .u8 101, .int .u8 114, .int .u8 100, .int .u8 117, .int .u8 98, .int .u8 49] : Array Value) = (u8s magicL).toArray := rfl
  show (#[.int .u8 111, .int .u8 118, .int .u8 101, .int .u8 114, .int .u8 100, .int .u8 117, .int .u8 98, .int .u8 49] : Array Value)[j]? = _
  rw [e2, List.getElem?_toArray, u8s_get, hx]
  rfl
/-- Rows of bytes, in a row of their own, handed to join. -/
def RowsV (w : World) (n : Nat) (L : List Nat) (v : Value) : Prop := ∃ a c R, v = .slice a n c ∧ R.length = n ∧ RowsOf w a R ∧ joined R = L
theorem RowsV.stay {w w' : World} (h : Stay w w') {n : Nat} {L : List Nat} {v : Value} (hr : RowsV w n L v) : RowsV w' n L v := by
  obtain ⟨a, c, R, e1, e2, e3, e4⟩ := hr
  exact ⟨a, c, R, e1, e2, e3.stay h, e4⟩
theorem rows_six {w : World} {g : Nat} {a0 a1 a2 a3 a4 a5 : Option Addr} {n0 n1 n2 n3 n4 n5 c0 c1 c2 c3 c4 c5 : Nat} {l0 l1 l2 l3 l4 l5 L : List Nat} (hg : w.heap[g]? = some (.cells #[.slice a0 n0 c0, .slice a1 n1 c1, .slice a2 n2 c2, .slice a3 n3 c3, .slice a4 n4 c4, .slice a5 n5 c5] 26 (0, 0)))
    (e0 : l0.length = n0) (e1 : l1.length = n1) (e2 : l2.length = n2) (e3 : l3.length = n3) (e4 : l4.length = n4) (e5 : l5.length = n5)
    (h0 : Bs w a0 c0 l0) (h1 : Bs w a1 c1 l1) (h2 : Bs w a2 c2 l2) (h3 : Bs w a3 c3 l3) (h4 : Bs w a4 c4 l4) (h5 : Bs w a5 c5 l5) (hL : L = l0 ++ (l1 ++ (l2 ++ (l3 ++ (l4 ++ l5))))) : RowsV w 6 L (.slice (some ⟨g, 0, none⟩) 6 6) := by
  subst e0 e1 e2 e3 e4 e5
  refine ⟨_, _, [((a0, c0), l0), ((a1, c1), l1), ((a2, c2), l2), ((a3, c3), l3), ((a4, c4), l4), ((a5, c5), l5)], rfl, rfl, fun r p hp => ⟨g, 0, rfl, ?_, ?_⟩, by rw [hL]; simp [joined]⟩
  · rw [Nat.zero_add, cell_of_row w g r _ 26 (0, 0) hg]
    match r, hp with
    | 0, hp => cases hp; rfl
    | 1, hp => cases hp; rfl
    | 2, hp => cases hp; rfl
    | 3, hp => cases hp; rfl
    | 4, hp => cases hp; rfl
    | 5, hp => cases hp; rfl
    | r + 6, hp => simp at hp
  · match r, hp with
    | 0, hp => cases hp; exact h0
    | 1, hp => cases hp; exact h1
    | 2, hp => cases hp; exact h2
    | 3, hp => cases hp; exact h3
    | 4, hp => cases hp; exact h4
    | 5, hp => cases hp; exact h5
    | r + 6, hp => simp at hp

end Go.Proofs.Ytdcnbakmmkbodaa

/- The document's superblocks: PackSuper, its region walked operation by operation. -/
namespace Go.Proofs.Ytdcnbakmmkbodaa
set_option linter.unusedVariables false
set_option linter.unusedSimpArgs false
open Go.RowKit Dg Cr

/-- What each of PackSuper's operations leaves. -/
def PkR (B bx : Nat) (x1 x2 x3 x4 c : Int) : Nat → Value → World → Prop
  | 0, v, w => ∃ g z, v = .slice (some ⟨g, 0, none⟩) 8 8 ∧ w.heap[g]? = some (.cells #[.int .u8 111, .int .u8 118, .int .u8 101, .int .u8 114, .int .u8 100, .int .u8 117, .int .u8 98, .int .u8 49] 5 z) ∧ B ≤ g
  | 1, v, w => RowV w 8 magicL v
  | 2, v, w => v = .pointer (some ⟨bx, 0, none⟩)
  | 3, v, w => v = .int .i64 x1
  | 4, v, w => RowV w 4 (put4 x1) v
  | 5, v, w => v = .pointer (some ⟨bx, 1, none⟩)
  | 6, v, w => v = .int .i64 x2
  | 7, v, w => RowV w 4 (put4 x2) v
  | 8, v, w => v = .pointer (some ⟨bx, 2, none⟩)
  | 9, v, w => v = .int .i64 x3
  | 10, v, w => RowV w 4 (put4 x3) v
  | 11, v, w => v = .pointer (some ⟨bx, 3, none⟩)
  | 12, v, w => v = .int .i64 x4
  | 13, v, w => RowV w 4 (put4 x4) v
  | 14, v, w => v = .int .i64 c
  | 15, v, w => RowV w 4 (put4 c) v
  | 16, v, w => RowsV w 6 (headSu ⟨x1, x2, x3, x4⟩ c) v
  | 17, v, w => RowV w 28 (headSu ⟨x1, x2, x3, x4⟩ c) v
  | 18, v, w => RowV w 28 (headSu ⟨x1, x2, x3, x4⟩ c) v
  | _, _, _ => True
theorem PkR.stay {B bx : Nat} {x1 x2 x3 x4 c : Int} : ∀ (i : Nat) (v : Value) (w w' : World), PkR B bx x1 x2 x3 x4 c i v w → Stay w w' → PkR B bx x1 x2 x3 x4 c i v w'
  | 0, v, w, w', h, k => by
    obtain ⟨g, z, e1, e2, e3⟩ := h
    obtain ⟨z', e4⟩ := k g _ _ z e2
    exact ⟨g, z', e1, e4, e3⟩
  | 1, v, w, w', h, k => RowV.stay k h
  | 2, v, w, w', h, k => h
  | 3, v, w, w', h, k => h
  | 4, v, w, w', h, k => RowV.stay k h
  | 5, v, w, w', h, k => h
  | 6, v, w, w', h, k => h
  | 7, v, w, w', h, k => RowV.stay k h
  | 8, v, w, w', h, k => h
  | 9, v, w, w', h, k => h
  | 10, v, w, w', h, k => RowV.stay k h
  | 11, v, w, w', h, k => h
  | 12, v, w, w', h, k => h
  | 13, v, w, w', h, k => RowV.stay k h
  | 14, v, w, w', h, k => h
  | 15, v, w, w', h, k => RowV.stay k h
  | 16, v, w, w', h, k => RowsV.stay k h
  | 17, v, w, w', h, k => RowV.stay k h
  | 18, v, w, w', h, k => RowV.stay k h
  | n + 19, v, w, w', h, k => trivial
def PkA (bx : Nat) (x1 x2 x3 x4 c : Int) : (Nat → Value) → Act := fun vs => { tmps := #[.agg #[.int .i64 x1, .int .i64 x2, .int .i64 x3, .int .i64 x4], .int .i64 c, .pointer (some ⟨bx, 0, none⟩), undef, .slice none 0 0, vs 18, vs 0, vs 1, vs 2, vs 3, vs 4, vs 5, vs 6, vs 7, vs 8, vs 9, vs 10, vs 11, vs 12, vs 13, vs 14, vs 15, vs 16, vs 17, undef, undef], defers := [] }
set_option maxRecDepth 100000 in
set_option maxHeartbeats 8000000 in
theorem rpacksu_any (w : World) (s : Su) (c : Int) (h1 : I64 s.gen) (h2 : I64 s.life) (h3 : I64 s.done) (h4 : I64 s.root) (h5 : I64 c) :
    Calls Try.prog 14 #[.agg #[.int .i64 s.gen, .int .i64 s.life, .int .i64 s.done, .int .i64 s.root], .int .i64 c] w fun e w' => ∃ g k, e = .returned (.slice (some ⟨g, 0, none⟩) 128 k) ∧ OwnBytes w' w.heap.size (.slice (some ⟨g, 0, none⟩) 128 k) (packSu s c) ∧ Below w.heap.size w w' := by
  obtain ⟨x1, x2, x3, x4⟩ := s
  simp only [] at h1 h2 h3 h4
  have H1 : Hid (∀ w, _) := fun w => rput_four w x1 h1
  have H2 : Hid (∀ w, _) := fun w => rput_four w x2 h2
  have H3 : Hid (∀ w, _) := fun w => rput_four w x3 h3
  have H4 : Hid (∀ w, _) := fun w => rput_four w x4 h4
  have H5 : Hid (∀ w, _) := fun w => rput_four w c h5
  clear h1 h2 h3 h4 h5
  go_enter Try.func14, Try.ntmps14
  go_upto_region 1 with fail
  obtain ⟨w0, hw0⟩ : ∃ w0, w0 = w.alloc (.cells #[.int .i64 x1, .int .i64 x2, .int .i64 x3, .int .i64 x4] 23) := ⟨_, rfl⟩
  obtain ⟨bx, hbx⟩ : ∃ bx, bx = w.heap.size := ⟨_, rfl⟩
  have hbw : Below w.heap.size w w0 := by rw [hw0]; exact (Below.refl _ _).alloc (Nat.le_refl _) _
  have hs0 : w0.heap.size = w.heap.size + 1 := by rw [hw0]; simp
  have hb0 : w0.heap[bx]? = some (.cells #[.int .i64 x1, .int .i64 x2, .int .i64 x3, .int .i64 x4] 23 (0, 0)) := by rw [hw0, hbx]; exact heap_alloc_new w _
  obtain ⟨B, hB⟩ : ∃ B, B = w0.heap.size := ⟨_, rfl⟩
  have HC : Hid (∀ W' : World, Below B w0 W' → W'.cell? ⟨bx, 0, none⟩ = some (.int .i64 x1) ∧ W'.cell? ⟨bx, 1, none⟩ = some (.int .i64 x2) ∧ W'.cell? ⟨bx, 2, none⟩ = some (.int .i64 x3) ∧ W'.cell? ⟨bx, 3, none⟩ = some (.int .i64 x4)) := fun W' hb => by
    have e : W'.heap[bx]? = _ := (hb.block bx (by omega)).trans hb0
    refine ⟨?_, ?_, ?_, ?_⟩ <;> (unfold World.cell?; rw [e]; rfl)
  have HBW := hid_of hbw
  have HBS : Hid (B = w0.heap.size) := hB
  have HB0 : Hid (Below B w0 w0.drew) := (Below.refl _ _).drew
  rw [← hw0, ← hbx]
  clear hw0 hbx hbw hs0 hb0 hB
  refine wp_region_each (PkA bx x1 x2 x3 x4 c) (fun _ => undef) (PkR B bx x1 x2 x3 x4 c) Stay (fun w => Below B w0 w) (by kernel_rfl) rfl (by kernel_rfl) HB0.out PkR.stay ?_ ?_
  · refine ⟨?_, ?_, ?_, ?_, ?_, ?_, ?_, ?_, ?_, ?_, ?_, ?_, ?_, ?_, ?_, ?_, ?_, ?_, ?_, trivial⟩
    · -- 0
      intro vs w hS hd
      have hBw : B ≤ w.heap.size := by have := hS.size; have := HBS.out; omega
      unfold PkA
      go_wp2_with fail
      exact ⟨rfl, _, rfl, ⟨w.heap.size, (0, 0), rfl, heap_alloc_new w _, hBw⟩, Stay.alloc _ _, hS.alloc hBw _⟩
    · -- 1
      intro vs w hS hd
      obtain ⟨g, z, e0, hg, hgB⟩ := hd.1 rfl
      have kc := run_convert_row (P := Try.prog) w 26 5 g _ z 8 8 Try.underlying26 Try.underlying5 hg
      unfold PkA
      go_wp2_with fail
      exact ⟨rfl, _, (by simp [upd, e0]), ⟨_, _, rfl, (bs_lit8 hg).stay (Stay.freeze _ _ _)⟩, Stay.freeze _ _ _, below_freezeB hS hgB _⟩
    · -- 2
      intro vs w hS hd
      unfold PkA
      go_wp2_with fail
      exact ⟨rfl, _, rfl, rfl, Stay.refl _, hS⟩
    · -- 3
      intro vs w hS hd
      have e0 : vs 2 = _ := hd.1 rfl
      obtain ⟨k0, k1, k2, k3⟩ := HC.out w hS
      unfold PkA
      go_wp2_with fail
      exact ⟨rfl, _, (by simp [upd, e0]), rfl, Stay.refl _, hS⟩
    · -- 4
      intro vs w hS hd
      have e0 : vs 3 = _ := hd.1 rfl
      have hBw : B ≤ w.heap.size := by have := hS.size; have := HBS.out; omega
      unfold PkA
      go_wp2_with fail
      refine (H1.out _).mono ?_
      rintro e w1 ⟨g1, rfl, ho, hb⟩
      go_wp2_with fail
      exact ⟨rfl, _, (by simp [upd, e0]), ⟨_, _, rfl, ho⟩, Stay.of_below hb, hS.trans (hb.mono hBw)⟩
    · -- 5
      intro vs w hS hd
      unfold PkA
      go_wp2_with fail
      exact ⟨rfl, _, rfl, rfl, Stay.refl _, hS⟩
    · -- 6
      intro vs w hS hd
      have e0 : vs 5 = _ := hd.1 rfl
      obtain ⟨k0, k1, k2, k3⟩ := HC.out w hS
      unfold PkA
      go_wp2_with fail
      exact ⟨rfl, _, (by simp [upd, e0]), rfl, Stay.refl _, hS⟩
    · -- 7
      intro vs w hS hd
      have e0 : vs 6 = _ := hd.1 rfl
      have hBw : B ≤ w.heap.size := by have := hS.size; have := HBS.out; omega
      unfold PkA
      go_wp2_with fail
      refine (H2.out _).mono ?_
      rintro e w1 ⟨g1, rfl, ho, hb⟩
      go_wp2_with fail
      exact ⟨rfl, _, (by simp [upd, e0]), ⟨_, _, rfl, ho⟩, Stay.of_below hb, hS.trans (hb.mono hBw)⟩
    · -- 8
      intro vs w hS hd
      unfold PkA
      go_wp2_with fail
      exact ⟨rfl, _, rfl, rfl, Stay.refl _, hS⟩
    · -- 9
      intro vs w hS hd
      have e0 : vs 8 = _ := hd.1 rfl
      obtain ⟨k0, k1, k2, k3⟩ := HC.out w hS
      unfold PkA
      go_wp2_with fail
      exact ⟨rfl, _, (by simp [upd, e0]), rfl, Stay.refl _, hS⟩
    · -- 10
      intro vs w hS hd
      have e0 : vs 9 = _ := hd.1 rfl
      have hBw : B ≤ w.heap.size := by have := hS.size; have := HBS.out; omega
      unfold PkA
      go_wp2_with fail
      refine (H3.out _).mono ?_
      rintro e w1 ⟨g1, rfl, ho, hb⟩
      go_wp2_with fail
      exact ⟨rfl, _, (by simp [upd, e0]), ⟨_, _, rfl, ho⟩, Stay.of_below hb, hS.trans (hb.mono hBw)⟩
    · -- 11
      intro vs w hS hd
      unfold PkA
      go_wp2_with fail
      exact ⟨rfl, _, rfl, rfl, Stay.refl _, hS⟩
    · -- 12
      intro vs w hS hd
      have e0 : vs 11 = _ := hd.1 rfl
      obtain ⟨k0, k1, k2, k3⟩ := HC.out w hS
      unfold PkA
      go_wp2_with fail
      exact ⟨rfl, _, (by simp [upd, e0]), rfl, Stay.refl _, hS⟩
    · -- 13
      intro vs w hS hd
      have e0 : vs 12 = _ := hd.1 rfl
      have hBw : B ≤ w.heap.size := by have := hS.size; have := HBS.out; omega
      unfold PkA
      go_wp2_with fail
      refine (H4.out _).mono ?_
      rintro e w1 ⟨g1, rfl, ho, hb⟩
      go_wp2_with fail
      exact ⟨rfl, _, (by simp [upd, e0]), ⟨_, _, rfl, ho⟩, Stay.of_below hb, hS.trans (hb.mono hBw)⟩
    · -- 14
      intro vs w hS hd
      unfold PkA
      go_wp2_with fail
      exact ⟨rfl, _, rfl, rfl, Stay.refl _, hS⟩
    · -- 15
      intro vs w hS hd
      have e0 : vs 14 = _ := hd.1 rfl
      have hBw : B ≤ w.heap.size := by have := hS.size; have := HBS.out; omega
      unfold PkA
      go_wp2_with fail
      refine (H5.out _).mono ?_
      rintro e w1 ⟨g1, rfl, ho, hb⟩
      go_wp2_with fail
      exact ⟨rfl, _, (by simp [upd, e0]), ⟨_, _, rfl, ho⟩, Stay.of_below hb, hS.trans (hb.mono hBw)⟩
    · -- 16
      intro vs w hS hd
      obtain ⟨d0, d1, d2, d3, d4, d5, -⟩ := hd
      obtain ⟨a0, c0, e0, b0⟩ := d0 rfl
      obtain ⟨a1, c1, e1, b1⟩ := d1 rfl
      obtain ⟨a2, c2, e2, b2⟩ := d2 rfl
      obtain ⟨a3, c3, e3, b3⟩ := d3 rfl
      obtain ⟨a4, c4, e4, b4⟩ := d4 rfl
      obtain ⟨a5, c5, e5, b5⟩ := d5 rfl
      have hBw : B ≤ w.heap.size := by have := hS.size; have := HBS.out; omega
      clear d0 d1 d2 d3 d4 d5
      simp only [] at e0 e1 e2 e3 e4 e5
      unfold PkA
      go_wp2_with fail
      have hst := Stay.alloc w (.cells #[.slice a0 8 c0, .slice a1 4 c1, .slice a2 4 c2, .slice a3 4 c3, .slice a4 4 c4, .slice a5 4 c5] 26)
      exact ⟨rfl, _, (by simp [upd, e0, e1, e2, e3, e4, e5]), rows_six (heap_alloc_new w _) rfl (length_put4 _) (length_put4 _) (length_put4 _) (length_put4 _) (length_put4 _) (b0.stay hst) (b1.stay hst) (b2.stay hst) (b3.stay hst) (b4.stay hst) (b5.stay hst) rfl, hst, hS.alloc hBw _⟩
    · -- 17
      intro vs w hS hd
      obtain ⟨a, k, R, e0, hl, hr, hj⟩ := hd.1 rfl
      have hBw : B ≤ w.heap.size := by have := hS.size; have := HBS.out; omega
      have HJ := hid_of (rjoin_any w a 6 k R hl hr (by decide) (by rw [hj, length_headSu]; decide))
      rw [hj] at HJ
      clear hr hj hl
      simp only [] at e0
      unfold PkA
      go_wp2_with fail
      refine HJ.out.mono ?_
      rintro e w1 ⟨v, rfl, ho, hb⟩
      obtain ⟨a1, k1, e1, hb1⟩ := ho.bs
      rw [length_headSu] at e1
      subst e1
      go_wp2_with fail
      exact ⟨rfl, _, (by simp [upd, e0]), ⟨_, _, rfl, hb1⟩, Stay.of_below hb, hS.trans (hb.mono hBw)⟩
    · -- 18
      intro vs w hS hd
      obtain ⟨a, k, e0, hb⟩ := hd.1 rfl
      simp only [] at e0
      unfold PkA
      go_wp2_with fail
      exact ⟨rfl, _, (by simp [upd, e0]), ⟨_, _, rfl, hb⟩, Stay.refl _, hS⟩
  · intro vs w2 hS hR
    obtain ⟨a6, c6, e6, HO6⟩ := hR 18 (by decide)
    have hsz0 := HBW.out.size
    have hBS := HBS.out
    have hsz : w.heap.size ≤ w2.heap.size := Nat.le_trans hsz0 hS.size
    have HBL : Hid (Below w.heap.size w w2) := HBW.out.trans (hS.mono (by omega))
    have HS := hid_of (rsummed_any w2 a6 c6 124 _ HO6 (by rw [length_headSu]; decide) (by decide) (headSu_lt _ _) (fillF (headSu ⟨x1, x2, x3, x4⟩ c)) (packSu ⟨x1, x2, x3, x4⟩ c) rfl rfl)
    rw [length_headSu, length_packSu] at HS
    clear HO6 hR hS hBS hsz0 HBW HBS HB0 HC
    unfold PkA
    simp only [e6]
    go_wp2_with fail
    refine HS.out.mono ?_
    rintro e w7 ⟨g7, c7, rfl, ho7, hb7⟩
    have HO7 := hid_of ho7
    have HB7 : Hid (Below w.heap.size w w7) := HBL.out.trans (hb7.mono hsz)
    clear ho7 hb7
    go_wp2_with fail
    go_ret
    exact ⟨g7, c7, rfl, ownsRow_base HO7.out hsz, HB7.out⟩

end Go.Proofs.Ytdcnbakmmkbodaa

/- Take, of the program and of the document. -/
namespace Go.Proofs.Ytdcnbakmmkbodaa
set_option linter.unusedVariables false
set_option linter.unusedSimpArgs false
open Go.RowKit Dg

/-- The numbers of such widths at the beginning of bytes, if there are so many. -/
def takeN (l : List Nat) : List Int → Option (List Int)
  | [] => some []
  | x :: ws => if 0 ≤ x ∧ x ≤ 7 ∧ x ≤ (l.length : Int) then (takeN (l.drop x.toNat) ws).map (((getN (l.take x.toNat) : Nat) : Int) :: ·) else none
theorem takeN_good (r : List Nat) (ws : List Int) (j k : Nat) (h : ws[j]? = some (k : Int)) (h7 : k ≤ 7) (hr : k ≤ r.length) (out : List Int) (T : Option (List Int)) (hT : T = (takeN r (ws.drop j)).map (out ++ ·)) :
    T = (takeN (r.drop k) (ws.drop (j + 1))).map ((out ++ [((getN (r.take k) : Nat) : Int)]) ++ ·) := by
  have hj : j < ws.length := (List.getElem?_eq_some_iff.1 h).1
  have e : ws[j] = (k : Int) := (List.getElem?_eq_some_iff.1 h).2
  rw [hT, List.drop_eq_getElem_cons hj, e]
  simp only [takeN]
  rw [if_pos ⟨by omega, by omega, by omega⟩, Int.toNat_natCast]
  cases takeN (r.drop k) (ws.drop (j + 1)) <;> simp
theorem takeN_bad (r : List Nat) (ws : List Int) (j : Nat) (x : Int) (h : ws[j]? = some x) (hx : ¬ (0 ≤ x ∧ x ≤ 7 ∧ x ≤ (r.length : Int))) (out : List Int) (T : Option (List Int)) (hT : T = (takeN r (ws.drop j)).map (out ++ ·)) : T = none := by
  have hj : j < ws.length := (List.getElem?_eq_some_iff.1 h).1
  have e : ws[j] = x := (List.getElem?_eq_some_iff.1 h).2
  rw [hT, List.drop_eq_getElem_cons hj, e]
  simp only [takeN]
  rw [if_neg hx]
  rfl
theorem takeN_end (r : List Nat) (ws : List Int) (out : List Int) (T : Option (List Int)) (hT : T = (takeN r (ws.drop ws.length)).map (out ++ ·)) : T = some out := by
  rw [hT, List.drop_length]
  simp [takeN]

/-- What a Take answers. -/
def Took (w w' : World) (T : Option (List Int)) (e : Ending) : Prop :=
  ∃ v, e = .returned (.tuple #[v, .bool T.isSome]) ∧ OwnInts w' w.heap.size v (T.getD []) ∧ Below w.heap.size w w'
theorem Took.none {w w' : World} {T : Option (List Int)} (hT : T = none) (hb : Below w.heap.size w w') : Took w w' T (.returned (.tuple #[.slice none 0 0, .bool false])) := by
  subst hT
  exact ⟨_, rfl, OwnInts.nil _ _, hb⟩

set_option maxRecDepth 100000 in
set_option maxHeartbeats 4000000 in
theorem ftake_any (w : World) (a wa : Option Addr) (cap wc : Nat) (l : List Nat) (ws : List Int) (h : Bs w a cap l) (hw : IntsAt w wa ws) (hl : l.length ≤ 1000000) (hwl : ws.length ≤ 1000000) (h256 : ∀ x ∈ l, x < 256) (hI : ∀ x ∈ ws, I64 x) (T : Option (List Int)) (hT : T = takeN l ws) :
    Calls Try.prog 28 #[.slice a l.length cap, .slice wa ws.length wc] w fun e w' => Took w w' T e := by
  obtain ⟨i0, hi, hz0, hz1, hz2⟩ := info_parts Try.info3
  have HW : Hid (IntsAt w wa ws) := hw
  have H0 : Hid (Bs w a cap l) := h
  have HI : Hid (∀ x ∈ ws, I64 x) := hI
  have H256 : Hid (∀ x ∈ l, x < 256) := h256
  have HT : Hid (T = takeN l ws) := hT
  clear hw h hI h256 hT
  go_enter Try.func28, Try.ntmps28
  go_wp2
  go_loopw [0, 6, 13] (fun b v i wr => ∃ (j ra rc : _) (r : List Nat) (out : List Int), j ≤ ws.length ∧ i = .int .i64 (j : Nat) ∧ b = .slice ra r.length rc ∧ r.length ≤ 1000000 ∧ out.length ≤ 1000000 ∧ Hid (out.length ≤ j) ∧ Hid (Bs w ra rc r) ∧ Hid (∀ x ∈ r, x < 256) ∧ Hid (OwnInts wr w.heap.size v out) ∧ Hid (T = (takeN r (ws.drop j)).map (out ++ ·)) ∧ Hid (Below w.heap.size w wr)) (fun _ _ i _ => ws.length - (intOf i).toNat)
  case atStart => exact ⟨0, a, cap, l, [], Nat.zero_le _, rfl, rfl, hl, by decide, Nat.zero_le _, H0.out, H256.out, OwnInts.nil _ _, by show _ = _; rw [HT.out]; simp, Below.refl _ _⟩
  case round =>
    obtain ⟨j, ra, rc, r, out, hj, rfl, rfl, hrl, hol, holj, hbs, hr256, ho, ht, hb⟩ := hrel
    by_cases hjn : j < ws.length
    · obtain ⟨x, hx⟩ : ∃ x, ws[j]? = some x := ⟨ws[j], by simp [hjn]⟩
      obtain ⟨b, off, rfl, hcell⟩ := HW.out j x hx
      have hcell' : wr.cell? ⟨b, off + j, none⟩ = some (.int .i64 x) := by
        rw [hb.out.cell (p := ⟨b, off + j, none⟩) (World.block_lt_of_cell? w _ hcell)]
        exact hcell
      obtain ⟨hx1, hx2⟩ := HI.out x (List.mem_of_getElem? hx)
      have HX : Hid (ws[j]? = some x) := hx
      clear hx hcell
      by_cases hneg : x < 0
      · go_wp2_with fail
        go_ret2
        exact Took.none (takeN_bad r ws j x HX.out (by omega) out T ht.out) hb.out
      · obtain ⟨k, rfl⟩ := Int.eq_ofNat_of_zero_le (show 0 ≤ x by omega)
        by_cases hlong : r.length < k
        · go_wp2_with fail
          go_ret2
          exact Took.none (takeN_bad r ws j k HX.out (by omega) out T ht.out) hb.out
        · have hkr : k ≤ r.length := by omega
          have hrc : r.length ≤ rc := hbs.out.le
          have hs1 := slice_hi ra r.length rc k (by omega)
          have hs2 := slice_lo ra r.length rc k hkr
          have HTK : Hid (SlAt wr (.slice ra k rc) (r.take k)) := (hbs.out.below hb.out).hi k hkr
          have htl : (r.take k).length = k := by simp; omega
          have HTL : Hid ((r.take k).length = k) := htl
          have HT256 : Hid (∀ x ∈ r.take k, x < 256) := fun x hx => hr256.out x (List.mem_of_mem_take hx)
          clear htl
          by_cases hk7 : k ≤ 7
          · obtain ⟨m, hm⟩ : ∃ m, m = getN (r.take k) := ⟨_, rfl⟩
            have HM : Hid (m = getN (r.take k)) := hm
            have hsz : w.heap.size ≤ wr.heap.size := hb.out.size
            clear hm
            go_wp2_with first
              | (go_at_call 34; refine (fget_ok _ _ _ HTK.out (by rw [HTL.out]; omega) HT256.out m HM.out).mono ?_; rintro e w2 ⟨rfl, rfl⟩)
              | (at_builtin; go_must (refine wpList_append_int _ rfl (.tmp 34) (.tmp 36) 49 rfl w.heap.size i0 Try.underlying49 hi hz0 hz1 hz2 _ out rfl ho.out (m : Int) rfl hol hsz ?_))
            intro v' w' h1 h2
            go_wp2_with fail
            refine ⟨⟨j + 1, lowA ra rc k, rc - k, r.drop k, out ++ [(m : Int)], by omega, by go_num, by rw [List.length_drop], by rw [List.length_drop]; omega, ?_, ?_, hbs.out.lo k hkr, fun x hx => hr256.out x (List.mem_of_mem_drop hx), h1, ?_, hb.out.trans h2.out⟩, by (simp [intOf]) <;> omega⟩
            · have := holj.out; simp; omega
            · have := holj.out; show _ ≤ _; simp; omega
            · show _ = _
              rw [HM.out]
              exact takeN_good r ws j k HX.out hk7 hkr out T ht.out
          · go_wp2_with (go_at_call 34; refine (fget_bad _ _ _ HTK.out (by rw [HTL.out]; omega) (by rw [HTL.out]; omega)).mono ?_; rintro e w2 ⟨rfl, rfl⟩)
            go_ret2
            exact Took.none (takeN_bad r ws j k HX.out (by omega) out T ht.out) hb.out
    · have e : j = ws.length := by omega
      subst e
      have e2 := takeN_end r ws out T ht.out
      go_wp2_with fail
      go_ret2
      refine ⟨_, by rw [e2]; rfl, ?_, hb.out⟩
      rw [e2]; exact ho.out

set_option maxRecDepth 100000 in
set_option maxHeartbeats 4000000 in
theorem rtakeN_any (w : World) (a wa : Option Addr) (cap wc : Nat) (l : List Nat) (ws : List Int) (h : Bs w a cap l) (hw : IntsAt w wa ws) (hl : l.length ≤ 1000000) (hwl : ws.length ≤ 1000000) (h256 : ∀ x ∈ l, x < 256) (hI : ∀ x ∈ ws, I64 x) (T : Option (List Int)) (hT : T = takeN l ws) :
    Calls Try.prog 31 #[.slice a l.length cap, .slice wa ws.length wc] w fun e w' => Took w w' T e := by
  obtain ⟨i0, hi, hz0, hz1, hz2⟩ := info_parts Try.info3
  have HW : Hid (IntsAt w wa ws) := hw
  have H0 : Hid (Bs w a cap l) := h
  have HI : Hid (∀ x ∈ ws, I64 x) := hI
  have H256 : Hid (∀ x ∈ l, x < 256) := h256
  have HT : Hid (T = takeN l ws) := hT
  clear hw h hI h256 hT
  go_enter Try.func31, Try.ntmps31
  go_wp2
  go_loopw [0, 6, 13] (fun b v i wr => ∃ (j ra rc : _) (r : List Nat) (out : List Int), j ≤ ws.length ∧ i = .int .i64 (j : Nat) ∧ b = .slice ra r.length rc ∧ r.length ≤ 1000000 ∧ out.length ≤ 1000000 ∧ Hid (out.length ≤ j) ∧ Hid (Bs w ra rc r) ∧ Hid (∀ x ∈ r, x < 256) ∧ Hid (OwnInts wr w.heap.size v out) ∧ Hid (T = (takeN r (ws.drop j)).map (out ++ ·)) ∧ Hid (Below w.heap.size w wr)) (fun _ _ i _ => ws.length - (intOf i).toNat)
  case atStart => exact ⟨0, a, cap, l, [], Nat.zero_le _, rfl, rfl, hl, by decide, Nat.zero_le _, H0.out, H256.out, OwnInts.nil _ _, by show _ = _; rw [HT.out]; simp, Below.refl _ _⟩
  case round =>
    obtain ⟨j, ra, rc, r, out, hj, rfl, rfl, hrl, hol, holj, hbs, hr256, ho, ht, hb⟩ := hrel
    by_cases hjn : j < ws.length
    · obtain ⟨x, hx⟩ : ∃ x, ws[j]? = some x := ⟨ws[j], by simp [hjn]⟩
      obtain ⟨b, off, rfl, hcell⟩ := HW.out j x hx
      have hcell' : wr.cell? ⟨b, off + j, none⟩ = some (.int .i64 x) := by
        rw [hb.out.cell (p := ⟨b, off + j, none⟩) (World.block_lt_of_cell? w _ hcell)]
        exact hcell
      obtain ⟨hx1, hx2⟩ := HI.out x (List.mem_of_getElem? hx)
      have HX : Hid (ws[j]? = some x) := hx
      clear hx hcell
      by_cases hneg : x < 0
      · go_wp2_with fail
        go_ret2
        exact Took.none (takeN_bad r ws j x HX.out (by omega) out T ht.out) hb.out
      · obtain ⟨k, rfl⟩ := Int.eq_ofNat_of_zero_le (show 0 ≤ x by omega)
        by_cases hk7 : k ≤ 7
        · by_cases hlong : r.length < k
          · go_wp2_with fail
            go_ret2
            exact Took.none (takeN_bad r ws j k HX.out (by omega) out T ht.out) hb.out
          · have hkr : k ≤ r.length := by omega
            have hrc : r.length ≤ rc := hbs.out.le
            have hs1 := slice_hi ra r.length rc k (by omega)
            have hs2 := slice_lo ra r.length rc k hkr
            have HTK : Hid (SlAt wr (.slice ra k rc) (r.take k)) := (hbs.out.below hb.out).hi k hkr
            have HTL : Hid ((r.take k).length = k) := by show _ = _; simp; omega
            have HT256 : Hid (∀ x ∈ r.take k, x < 256) := fun x hx => hr256.out x (List.mem_of_mem_take hx)
            obtain ⟨m, hm⟩ : ∃ m, m = getN (r.take k) := ⟨_, rfl⟩
            have HM : Hid (m = getN (r.take k)) := hm
            have hsz : w.heap.size ≤ wr.heap.size := hb.out.size
            clear hm
            go_wp2_with first
              | (go_at_call 35; refine (rgetN_ok _ _ _ HTK.out (by rw [HTL.out]; omega) HT256.out m HM.out).mono ?_; rintro e w2 ⟨rfl, rfl⟩)
              | (at_builtin; go_must (refine wpList_append_int _ rfl (.tmp 39) (.tmp 41) 49 rfl w.heap.size i0 Try.underlying49 hi hz0 hz1 hz2 _ out rfl ho.out (m : Int) rfl hol hsz ?_))
            intro v' w' h1 h2
            go_wp2_with fail
            refine ⟨⟨j + 1, lowA ra rc k, rc - k, r.drop k, out ++ [(m : Int)], by omega, by go_num, by rw [List.length_drop], by rw [List.length_drop]; omega, ?_, ?_, hbs.out.lo k hkr, fun x hx => hr256.out x (List.mem_of_mem_drop hx), h1, ?_, hb.out.trans h2.out⟩, by (simp [intOf]) <;> omega⟩
            · have := holj.out; simp; omega
            · have := holj.out; show _ ≤ _; simp; omega
            · show _ = _
              rw [HM.out]
              exact takeN_good r ws j k HX.out hk7 hkr out T ht.out
        · go_wp2_with fail
          go_ret2
          exact Took.none (takeN_bad r ws j k HX.out (by omega) out T ht.out) hb.out
    · have e : j = ws.length := by omega
      subst e
      have e2 := takeN_end r ws out T ht.out
      go_wp2_with fail
      go_ret2
      refine ⟨_, by rw [e2]; rfl, ?_, hb.out⟩
      rw [e2]; exact ho.out

end Go.Proofs.Ytdcnbakmmkbodaa

/- bytes.Equal, bytes.Clone. -/
namespace Go.Proofs.Ytdcnbakmmkbodaa
set_option linter.unusedVariables false
set_option linter.unusedSimpArgs false
open Go.RowKit Dg

theorem Below.kept0 {w w' : World} (hb : Below w.heap.size w w') : Kept (fun i => w.heap.size ≤ i) w w' := ⟨hb.os, hb.tape, hb.output, hb.size, fun i _ hf => hb.block i (by omega)⟩

/-- The string of some bytes. -/
def strB (l : List Nat) : ByteArray := strOfNums (l.map fun n : Nat => (n : Int))
theorem conv_bytes (w : World) (a : Option Addr) (n c : Nat) (l : List Nat) (hn : l.length = n) (h0 : 0 < n) (h : SlAt w (.slice a n c) l) :
    (convert 26 9 (.slice a n c)).run Try.prog w = .ok (.string (strB l)) w := by
  subst hn
  obtain ⟨ao, cp, hv, hc⟩ := h
  cases hv
  obtain ⟨b, off, rfl, -⟩ := hc 0 (l[0]'h0) (by rw [List.getElem?_eq_getElem])
  unfold strB
  refine run_convert_bytes_arg (P := Try.prog) w 26 5 Try.underlying26 Try.underlying5 b off _ _ (l.map fun n : Nat => (n : Int)) (List.length_map ..) (fun i hi => ?_) 9 Try.underlying9
  obtain ⟨b', off', e, hcell⟩ := hc i (l[i]'hi) (by rw [List.getElem?_eq_getElem])
  cases e
  rw [hcell]
  simp [List.getD, List.getElem?_eq_getElem hi]
theorem strB_eq {l1 l2 : List Nat} (h1 : ∀ x ∈ l1, x < 256) (h2 : ∀ x ∈ l2, x < 256) : (strB l1).data.toList = (strB l2).data.toList ↔ l1 = l2 := by
  refine ⟨fun h => ?_, fun h => by rw [h]⟩
  unfold strB at h
  rw [strOfNums_data, strOfNums_data, List.map_map, List.map_map] at h
  have key : ∀ l : List Nat, (∀ x ∈ l, x < 256) → (l.map ((fun n : Int => UInt8.ofNat n.toNat) ∘ fun n : Nat => (n : Int))).map UInt8.toNat = l := by
    intro l hl
    rw [List.map_map]
    conv => rhs; rw [← List.map_id l]
    refine List.map_congr_left (fun x hx => ?_)
    have := hl x hx
    simp [UInt8.toNat_ofNat]
    omega
  have h3 := congrArg (List.map UInt8.toNat) h
  rwa [key l1 h1, key l2 h2] at h3
set_option maxHeartbeats 1000000 in
set_option maxRecDepth 100000 in
/-- 'bytes.Equal' of rows that are not empty. -/
theorem bequal_any (w : World) (a1 a2 : Option Addr) (n1 n2 c1 c2 : Nat) (l1 l2 : List Nat) (e1 : l1.length = n1) (e2 : l2.length = n2) (p1 : 0 < n1) (p2 : 0 < n2) (h1 : SlAt w (.slice a1 n1 c1) l1) (h2 : SlAt w (.slice a2 n2 c2) l2) (b1 : ∀ x ∈ l1, x < 256) (b2 : ∀ x ∈ l2, x < 256) (q : Bool) (hq : q = decide (l1 = l2)) :
    Calls Try.prog 30 #[.slice a1 n1 c1, .slice a2 n2 c2] w fun e w' => e = .returned (.bool q) ∧ w = w' := by
  have k1 := conv_bytes w a1 n1 c1 l1 e1 p1 h1
  have k2 := conv_bytes w a2 n2 c2 l2 e2 p2 h2
  have HQ : Hid (((strB l1).toList == (strB l2).toList) = q) := by
    show _ = _
    rw [hq, ByteArray.toList_eq, ByteArray.toList_eq]
    by_cases h : l1 = l2
    · rw [decide_eq_true h]; exact beq_iff_eq.2 ((strB_eq b1 b2).2 h)
    · rw [decide_eq_false h]; exact beq_eq_false_iff_ne.2 (fun e => h ((strB_eq b1 b2).1 e))
  clear h1 h2 b1 b2 hq
  generalize strB l1 = s1 at *
  generalize strB l2 = s2 at *
  go_enter Try.func30, Try.ntmps30
  go_wp2
  go_ret
  exact ⟨by rw [← HQ.out]; rfl, rfl⟩
end Go.Proofs.Ytdcnbakmmkbodaa
