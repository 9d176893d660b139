/- The texts Base, Math, Walk1, Walk2, Walk3, Walk4, Walk5, one behind the other. -/
import Derived.WalkKit
import Derived.WalkSpells
import Derived.WalkLawsBesides
import Derived.Handy
import Derived.Laws.BitsAllLaws
import Derived.Test.YtejgkgnocgplbabGreatRows
import Derived.BigRegion
import Derived.Deep.QuietTactic
import Derived.BigQuiet
import Derived.Laws.CopyOwn

/- What a step leaves as it was; rows of bytes that the call owns; an append to such a row: no program in sight. -/
namespace Go.Proofs.YtejgkgnocgplbabGreat
set_option linter.unusedVariables false
set_option linter.unusedSimpArgs false
open Go.RowKit

/-- All blocks but those of F are as they were; no block has gone. -/
structure Kept (F : Nat → Prop) (w w' : World) : Prop where
  os : w'.os = w.os
  tape : w'.tape = w.tape
  output : w'.output = w.output
  size : w.heap.size ≤ w'.heap.size
  block : ∀ k, k < w.heap.size → ¬ F k → w'.heap[k]? = w.heap[k]?
theorem Kept.refl (F : Nat → Prop) (w : World) : Kept F w w := ⟨rfl, rfl, rfl, Nat.le_refl _, fun _ _ _ => rfl⟩
theorem Kept.trans {F : Nat → Prop} {a b c : World} (h : Kept F a b) (k : Kept F b c) : Kept F a c :=
  ⟨k.os.trans h.os, k.tape.trans h.tape, k.output.trans h.output, Nat.le_trans h.size k.size, fun i hi hf => (k.block i (Nat.lt_of_lt_of_le hi h.size) hf).trans (h.block i hi hf)⟩
/-- The second step may turn, besides, whatever is new behind the first. -/
theorem Kept.trans' {F G : Nat → Prop} {a b c : World} (h : Kept F a b) (k : Kept G b c) (hG : ∀ i, i < a.heap.size → G i → F i) : Kept F a c :=
  ⟨k.os.trans h.os, k.tape.trans h.tape, k.output.trans h.output, Nat.le_trans h.size k.size, fun i hi hf => (k.block i (Nat.lt_of_lt_of_le hi h.size) (fun hg => hf (hG i hi hg))).trans (h.block i hi hf)⟩
theorem Kept.mono {F G : Nat → Prop} {w w' : World} (h : Kept F w w') (hG : ∀ i, i < w.heap.size → F i → G i) : Kept G w w' :=
  ⟨h.os, h.tape, h.output, h.size, fun i hi hf => h.block i hi (fun hx => hf (hG i hi hx))⟩
theorem Kept.drew {F : Nat → Prop} {w w' : World} (h : Kept F w w') : Kept F w w'.drew := ⟨h.os, h.tape, h.output, h.size, h.block⟩
theorem Kept.below {B : Nat} {w w' : World} (h : Kept (fun k => B ≤ k) w w') : Below (min B w.heap.size) w w' :=
  ⟨h.os, h.tape, h.output, h.size, fun k hk => h.block k (by omega) (by omega)⟩
theorem Kept.cell {F : Nat → Prop} {w w' : World} (h : Kept F w w') {b : Nat} {o : Nat} (hb : b < w.heap.size) (hf : ¬ F b) : w'.cell? ⟨b, o, none⟩ = w.cell? ⟨b, o, none⟩ := World.cell?_of_block (w := w) (h.block b hb hf)
theorem Kept.frozen {F : Nat → Prop} {w w' : World} (h : Kept F w w') {b : Nat} {o : Nat} (hb : b < w.heap.size) (hf : ¬ F b) : w'.frozen? ⟨b, o, none⟩ = w.frozen? ⟨b, o, none⟩ := World.frozen?_of_block (w := w) (h.block b hb hf)
theorem Kept.grown {w w' : World} {row : Option Nat} (hg : w.grownBy w' row) : Kept (fun k => row = some k) w w' := ⟨hg.os, hg.tape, hg.output, hg.size, fun k hk hf => hg.block k hk (fun e => hf e.symm)⟩
theorem Kept.alloc (F : Nat → Prop) (w : World) (o : Obj) : Kept F w (w.alloc o) := ⟨rfl, rfl, rfl, by simp, fun k hk _ => Below.heap_alloc _ _ _ hk⟩
theorem Kept.setCell {F : Nat → Prop} (w : World) (a : Addr) (u : Value) (h : F a.block) : Kept F w (w.setCell a u) :=
  ⟨rfl, rfl, rfl, by simp [World.setCell], fun k _ hf => Below.heap_setCell _ _ _ _ (fun e => hf (e ▸ h))⟩
/-- Bytes as values. -/
def u8s (l : List Nat) : List Value := l.map fun x : Nat => Value.int .u8 ((x : Nat) : Int)
@[simp] theorem length_u8s (l : List Nat) : (u8s l).length = l.length := by simp [u8s]

theorem heap_setCell_of {w : World} {g : Nat} {o : Nat} {cur : Array Value} {t : TypeId} (h : w.heap[g]? = some (.cells cur t (0, 0))) (u : Value) :
    (w.setCell ⟨g, o, none⟩ u).heap[g]? = some (.cells (cur.setIfInBounds o u) t (0, 0)) := by
  simp [World.setCell, Array.getElem?_modify, h]

theorem u8s_get (l : List Nat) (k : Nat) : (u8s l)[k]? = l[k]?.map fun x : Nat => Value.int .u8 ((x : Nat) : Int) := by simp [u8s]
theorem u8s_set (l : List Nat) (k x : Nat) : (u8s l).set k (.int .u8 ((x : Nat) : Int)) = u8s (l.set k x) := by simp [u8s]

/-- A store into an owned row. -/
theorem ownsRow_set {w : World} {base : Nat} {e : TypeId} {g cap n : Nat} {xs : List Value} (h : w.ownsRow base e 1 (.slice (some ⟨g, 0, none⟩) n cap) n xs) (o : Nat) (ho : o < n) (u : Value) :
    (w.setCell ⟨g, o, none⟩ u).ownsRow base e 1 (.slice (some ⟨g, 0, none⟩) n cap) n (xs.set o u) := by
  refine ⟨by simpa using h.1, ?_⟩
  rcases h.2 with ⟨e1, _⟩ | ⟨g', cap', cur, hv, hb, hh, hn, hm, hcs, ht⟩
  · cases e1
  · cases hv
    refine .inr ⟨g, cap, cur.setIfInBounds o u, rfl, hb, heap_setCell_of hh u, hn, hm, by simpa using hcs, ?_⟩
    rw [← ht]
    simp [List.take_set]

/-- It stays owned while another block is written. -/
theorem ownsRow_other {w : World} {base : Nat} {e : TypeId} {size : Nat} {v : Value} {n : Nat} {xs : List Value} (h : w.ownsRow base e size v n xs) {w' : World} {F : Nat → Prop} (hk : Kept F w w') (hF : ∀ k, v.ownBlock = some k → ¬ F k) : w'.ownsRow base e size v n xs := by
  refine ⟨h.1, ?_⟩
  rcases h.2 with hn | ⟨g, cap, cur, rfl, hb, hgg, rest⟩
  · exact .inl hn
  · exact .inr ⟨g, cap, cur, rfl, hb, by rw [hk.block g (Array.getElem?_eq_some_iff.1 hgg).1 (hF g rfl)]; exact hgg, rest⟩


theorem ownsRow_base {w : World} {base base' : Nat} {e : TypeId} {size : Nat} {v : Value} {n : Nat} {xs : List Value} (h : w.ownsRow base e size v n xs) (hb : base' ≤ base) : w.ownsRow base' e size v n xs := by
  refine ⟨h.1, ?_⟩
  rcases h.2 with hn | ⟨g, cap, cur, rfl, hg, rest⟩
  · exact .inl hn
  · exact .inr ⟨g, cap, cur, rfl, by omega, rest⟩

/-- 'append' of some elements to a row of the call's own: it grows in its place, or is laid anew. -/
theorem wpList_append_mine {P : Program} (w : World) {ops : Array Oper} {rest : List Oper} {o : Oper} {a : Act} {Q : Exit → Act → World → Prop}
    (hgd : o.guard = none) (s x : Operand) (t : TypeId) (ho : o.op = .call { callee := .builtin .append, args := #[s, x], argTypes := #[t, t] })
    (base : Nat) (e : TypeId) (i : TypeInfo) (z : Value) (size bytes : Nat) (ht : P.underlying t = some (.slice e)) (hi : P.info? e = some i) (hz : i.zero = some z)
    (hsize : i.size = size) (hby : i.bytes = bytes) (hzs : z.cells.size = size) (hsz : 0 < size)
    (v : Value) (n : Nat) (xs : List Value) (hs : a.eval s = v) (hown : w.ownsRow base e size v n xs)
    (ad : Addr) (m c : Nat) (news : List Value) (hx : a.eval x = .slice (some ad) m c) (hl : news.length = m * size) (hnews : ∀ j u, news[j]? = some u → w.cell? (ad.add j) = some u) (h1 : ∀ u ∈ news, u.oneCell' = true)
    (hm : 0 < m) (h63 : n + m ≤ maxLen) (hbytes : (n + m) * bytes ≤ 140737488355328) (hbase : base ≤ w.heap.size)
    (h : ∀ g cap w', Hid (w'.ownsRow base e size (.slice (some ⟨g, 0, none⟩) (n + m) cap) (n + m) (xs ++ news)) → Hid (w.grownBy w' v.ownBlock) → Hid (v.ownBlock = some g ∨ w.heap.size ≤ g) → wpList P ops Q rest (a.put o.dst (.slice (some ⟨g, 0, none⟩) (n + m) cap)) w') : wpList P ops Q (o :: rest) a w := by
  have key : ∀ v' w', w'.ownsRow w.heap.size e size v' (n + m) (xs ++ news) → w.grownBy w' none → wpList P ops Q rest (a.put o.dst v') w' := by
    intro v' w' ho' hg'
    rcases ho'.2 with ⟨_, hn⟩ | ⟨g, cap, cur, rfl, hgb, r⟩
    · omega
    · exact h g cap w' (ownsRow_base ho' hbase) ⟨hg'.os, hg'.tape, hg'.output, hg'.size, fun k hk _ => hg'.block k hk (by simp)⟩ (Or.inr hgb)
  rcases hown.2 with ⟨hv, hn⟩ | ⟨g, cap, cur, hv, hgb, hh, hnc, hcm, hcs, htake⟩
  · subst hn
    have hxs : xs = [] := List.eq_nil_of_length_eq_zero (by simpa using hown.1)
    refine wpList_append_grows w hgd s x t ho e i z size bytes ht hi hz hsize hby hzs hsz none 0 0 xs (hs.trans hv) (fun _ => ⟨rfl, rfl⟩) (by simp [hxs]) (fun b hb => by cases hb) ad m c news hx hl hnews h1 (by omega) h63 hbytes key
  · by_cases hroom : n + m ≤ cap
    · refine wpList_append_fits w hgd s x t ho base e i size ht hi hsize g n cap xs (hs.trans hv) (hv ▸ hown) ad m c news hx hl hnews h1 hroom ?_
      intro w' ho' hg'
      exact h g cap w' ho' (show _ by rw [hv]; exact hg') (Or.inl (by rw [hv]; rfl))
    · refine wpList_append_grows w hgd s x t ho e i z size bytes ht hi hz hsize hby hzs hsz (some ⟨g, 0, none⟩) n cap xs (hs.trans hv) (fun e => by cases e) hown.1 ?_ ad m c news hx hl hnews h1 (by omega) h63 hbytes key
      intro b hb
      cases hb
      exact hown.cells (by rw [hv]; rfl)

end Go.Proofs.YtejgkgnocgplbabGreat

/- Plain mathematics of binary digits in a row, packed eight a byte: no program in sight. -/
namespace Go.Proofs.YtejgkgnocgplbabGreat.Dg
set_option linter.unusedVariables false
set_option linter.unusedSimpArgs false

/-- A digit of a row, 0 behind its end. -/
def dg (ds : List Bool) (i : Nat) : Nat := (ds.getD i false).toNat
theorem dg_le (ds : List Bool) (i : Nat) : dg ds i ≤ 1 := by unfold dg; cases ds.getD i false <;> decide
theorem dg_out (ds : List Bool) (i : Nat) (h : ds.length ≤ i) : dg ds i = 0 := by
  unfold dg; simp [List.getD, List.getElem?_eq_none h]
theorem dg_snoc_lt (ds : List Bool) (d : Bool) (i : Nat) (h : i ≠ ds.length) : dg (ds ++ [d]) i = dg ds i := by
  unfold dg
  by_cases hi : i < ds.length
  · simp [List.getD, List.getElem?_append_left hi]
  · have h2 : ds.length ≤ i := by omega
    have h3 : (ds ++ [d]).length ≤ i := by simp; omega
    simp only [List.getD, List.getElem?_eq_none h2, List.getElem?_eq_none h3]
theorem dg_snoc (ds : List Bool) (d : Bool) : dg (ds ++ [d]) ds.length = d.toNat := by unfold dg; simp [List.getD]

/-- The k-th byte. -/
def byteAt (ds : List Bool) (k : Nat) : Nat :=
  128 * dg ds (8 * k) + 64 * dg ds (8 * k + 1) + 32 * dg ds (8 * k + 2) + 16 * dg ds (8 * k + 3) + 8 * dg ds (8 * k + 4) + 4 * dg ds (8 * k + 5) + 2 * dg ds (8 * k + 6) + dg ds (8 * k + 7)
theorem byteAt_lt (ds : List Bool) (k : Nat) : byteAt ds k < 256 := by
  have h0 := dg_le ds (8 * k); have h1 := dg_le ds (8 * k + 1); have h2 := dg_le ds (8 * k + 2); have h3 := dg_le ds (8 * k + 3)
  have h4 := dg_le ds (8 * k + 4); have h5 := dg_le ds (8 * k + 5); have h6 := dg_le ds (8 * k + 6); have h7 := dg_le ds (8 * k + 7)
  unfold byteAt; omega

/-- The bytes of digits, noughts fill up the last one. -/
def pack (ds : List Bool) : List Nat := (List.range ((ds.length + 7) / 8)).map (byteAt ds)
@[simp] theorem length_pack (ds : List Bool) : (pack ds).length = (ds.length + 7) / 8 := by simp [pack]
theorem pack_get (ds : List Bool) (k : Nat) (h : k < (ds.length + 7) / 8) : (pack ds)[k]? = some (byteAt ds k) := by simp [pack, h]
theorem pack_lt (ds : List Bool) : ∀ x ∈ pack ds, x < 256 := by
  intro x hx; simp [pack] at hx; obtain ⟨k, _, rfl⟩ := hx; exact byteAt_lt ds k

theorem byteAt_snoc_other (ds : List Bool) (d : Bool) (k : Nat) (h : k ≠ ds.length / 8) : byteAt (ds ++ [d]) k = byteAt ds k := by
  unfold byteAt
  rw [dg_snoc_lt, dg_snoc_lt, dg_snoc_lt, dg_snoc_lt, dg_snoc_lt, dg_snoc_lt, dg_snoc_lt, dg_snoc_lt] <;> omega

theorem byteAt_snoc (ds : List Bool) (d : Bool) : byteAt (ds ++ [d]) (ds.length / 8) = byteAt ds (ds.length / 8) + d.toNat * 2 ^ (7 - ds.length % 8) := by
  have hd : ∀ i, ds.length ≤ i → dg ds i = 0 := fun i h => dg_out ds i h
  have hs : ∀ i, i = ds.length → dg (ds ++ [d]) i = d.toNat := fun i h => by subst h; exact dg_snoc ds d
  have ho : ∀ i, i ≠ ds.length → dg (ds ++ [d]) i = dg ds i := fun i h => dg_snoc_lt ds d i h
  have hr : ds.length % 8 = 0 ∨ ds.length % 8 = 1 ∨ ds.length % 8 = 2 ∨ ds.length % 8 = 3 ∨ ds.length % 8 = 4 ∨ ds.length % 8 = 5 ∨ ds.length % 8 = 6 ∨ ds.length % 8 = 7 := by omega
  unfold byteAt
  rcases hr with h | h | h | h | h | h | h | h <;> rw [h]
  · rw [hs (8 * (ds.length / 8)) (by omega), hd (8 * (ds.length / 8)) (by omega), ho (8 * (ds.length / 8) + 1) (by omega), ho (8 * (ds.length / 8) + 2) (by omega), ho (8 * (ds.length / 8) + 3) (by omega), ho (8 * (ds.length / 8) + 4) (by omega), ho (8 * (ds.length / 8) + 5) (by omega), ho (8 * (ds.length / 8) + 6) (by omega), ho (8 * (ds.length / 8) + 7) (by omega)]; omega
  · rw [ho (8 * (ds.length / 8)) (by omega), hs (8 * (ds.length / 8) + 1) (by omega), hd (8 * (ds.length / 8) + 1) (by omega), ho (8 * (ds.length / 8) + 2) (by omega), ho (8 * (ds.length / 8) + 3) (by omega), ho (8 * (ds.length / 8) + 4) (by omega), ho (8 * (ds.length / 8) + 5) (by omega), ho (8 * (ds.length / 8) + 6) (by omega), ho (8 * (ds.length / 8) + 7) (by omega)]; omega
  · rw [ho (8 * (ds.length / 8)) (by omega), ho (8 * (ds.length / 8) + 1) (by omega), hs (8 * (ds.length / 8) + 2) (by omega), hd (8 * (ds.length / 8) + 2) (by omega), ho (8 * (ds.length / 8) + 3) (by omega), ho (8 * (ds.length / 8) + 4) (by omega), ho (8 * (ds.length / 8) + 5) (by omega), ho (8 * (ds.length / 8) + 6) (by omega), ho (8 * (ds.length / 8) + 7) (by omega)]; omega
  · rw [ho (8 * (ds.length / 8)) (by omega), ho (8 * (ds.length / 8) + 1) (by omega), ho (8 * (ds.length / 8) + 2) (by omega), hs (8 * (ds.length / 8) + 3) (by omega), hd (8 * (ds.length / 8) + 3) (by omega), ho (8 * (ds.length / 8) + 4) (by omega), ho (8 * (ds.length / 8) + 5) (by omega), ho (8 * (ds.length / 8) + 6) (by omega), ho (8 * (ds.length / 8) + 7) (by omega)]; omega
  · rw [ho (8 * (ds.length / 8)) (by omega), ho (8 * (ds.length / 8) + 1) (by omega), ho (8 * (ds.length / 8) + 2) (by omega), ho (8 * (ds.length / 8) + 3) (by omega), hs (8 * (ds.length / 8) + 4) (by omega), hd (8 * (ds.length / 8) + 4) (by omega), ho (8 * (ds.length / 8) + 5) (by omega), ho (8 * (ds.length / 8) + 6) (by omega), ho (8 * (ds.length / 8) + 7) (by omega)]; omega
  · rw [ho (8 * (ds.length / 8)) (by omega), ho (8 * (ds.length / 8) + 1) (by omega), ho (8 * (ds.length / 8) + 2) (by omega), ho (8 * (ds.length / 8) + 3) (by omega), ho (8 * (ds.length / 8) + 4) (by omega), hs (8 * (ds.length / 8) + 5) (by omega), hd (8 * (ds.length / 8) + 5) (by omega), ho (8 * (ds.length / 8) + 6) (by omega), ho (8 * (ds.length / 8) + 7) (by omega)]; omega
  · rw [ho (8 * (ds.length / 8)) (by omega), ho (8 * (ds.length / 8) + 1) (by omega), ho (8 * (ds.length / 8) + 2) (by omega), ho (8 * (ds.length / 8) + 3) (by omega), ho (8 * (ds.length / 8) + 4) (by omega), ho (8 * (ds.length / 8) + 5) (by omega), hs (8 * (ds.length / 8) + 6) (by omega), hd (8 * (ds.length / 8) + 6) (by omega), ho (8 * (ds.length / 8) + 7) (by omega)]; omega
  · rw [ho (8 * (ds.length / 8)) (by omega), ho (8 * (ds.length / 8) + 1) (by omega), ho (8 * (ds.length / 8) + 2) (by omega), ho (8 * (ds.length / 8) + 3) (by omega), ho (8 * (ds.length / 8) + 4) (by omega), ho (8 * (ds.length / 8) + 5) (by omega), ho (8 * (ds.length / 8) + 6) (by omega), hs (8 * (ds.length / 8) + 7) (by omega), hd (8 * (ds.length / 8) + 7) (by omega)]; omega

/-- Behind the last digit of the last byte there are noughts. -/
theorem byteAt_low (ds : List Bool) : byteAt ds (ds.length / 8) % 2 ^ (8 - ds.length % 8) = 0 := by
  have hd : ∀ i, ds.length ≤ i → dg ds i = 0 := fun i h => dg_out ds i h
  have hr : ds.length % 8 = 0 ∨ ds.length % 8 = 1 ∨ ds.length % 8 = 2 ∨ ds.length % 8 = 3 ∨ ds.length % 8 = 4 ∨ ds.length % 8 = 5 ∨ ds.length % 8 = 6 ∨ ds.length % 8 = 7 := by omega
  unfold byteAt
  have h7 := hd (8 * (ds.length / 8) + 7) (by omega)
  rcases hr with h | h | h | h | h | h | h | h <;> rw [h]
  · rw [h7, hd (8 * (ds.length / 8)) (by omega), hd (8 * (ds.length / 8) + 1) (by omega), hd (8 * (ds.length / 8) + 2) (by omega), hd (8 * (ds.length / 8) + 3) (by omega), hd (8 * (ds.length / 8) + 4) (by omega), hd (8 * (ds.length / 8) + 5) (by omega), hd (8 * (ds.length / 8) + 6) (by omega)]
  · rw [h7, hd (8 * (ds.length / 8) + 1) (by omega), hd (8 * (ds.length / 8) + 2) (by omega), hd (8 * (ds.length / 8) + 3) (by omega), hd (8 * (ds.length / 8) + 4) (by omega), hd (8 * (ds.length / 8) + 5) (by omega), hd (8 * (ds.length / 8) + 6) (by omega)]; omega
  · rw [h7, hd (8 * (ds.length / 8) + 2) (by omega), hd (8 * (ds.length / 8) + 3) (by omega), hd (8 * (ds.length / 8) + 4) (by omega), hd (8 * (ds.length / 8) + 5) (by omega), hd (8 * (ds.length / 8) + 6) (by omega)]; omega
  · rw [h7, hd (8 * (ds.length / 8) + 3) (by omega), hd (8 * (ds.length / 8) + 4) (by omega), hd (8 * (ds.length / 8) + 5) (by omega), hd (8 * (ds.length / 8) + 6) (by omega)]; omega
  · rw [h7, hd (8 * (ds.length / 8) + 4) (by omega), hd (8 * (ds.length / 8) + 5) (by omega), hd (8 * (ds.length / 8) + 6) (by omega)]; omega
  · rw [h7, hd (8 * (ds.length / 8) + 5) (by omega), hd (8 * (ds.length / 8) + 6) (by omega)]; omega
  · rw [h7, hd (8 * (ds.length / 8) + 6) (by omega)]; omega
  · rw [h7]; omega

theorem byteAt_or (ds : List Bool) (d : Bool) : bits BinOp.or IntKind.u8 (byteAt ds (ds.length / 8) : Nat) ((d.toNat : Int) * 2 ^ (7 - ds.length % 8) % 256) = (byteAt (ds ++ [d]) (ds.length / 8) : Nat) := by
  have hb := byteAt_lt ds (ds.length / 8)
  have hl := byteAt_low ds
  have hp : 2 ^ (7 - ds.length % 8) ≤ 128 := by
    have : 2 ^ (7 - ds.length % 8) ≤ 2 ^ 7 := Nat.pow_le_pow_right (by decide) (by omega)
    simpa using this
  have hp0 : 0 < 2 ^ (7 - ds.length % 8) := Nat.pow_pos (by decide)
  have hy : d.toNat * 2 ^ (7 - ds.length % 8) ≤ 2 ^ (7 - ds.length % 8) := by cases d <;> simp
  have e : ((d.toNat : Int) * 2 ^ (7 - ds.length % 8) % 256) = ((d.toNat * 2 ^ (7 - ds.length % 8) : Nat) : Int) := by
    have h1 : ((d.toNat : Int) * 2 ^ (7 - ds.length % 8)) = ((d.toNat * 2 ^ (7 - ds.length % 8) : Nat) : Int) := by push_cast; rfl
    rw [h1]; omega
  rw [e, u8_or_nat _ _ hb (by omega), byteAt_snoc]
  congr 1
  have e8 : 8 - ds.length % 8 = (7 - ds.length % 8) + 1 := by omega
  rw [e8, Nat.pow_succ] at hl
  exact nat_join (7 - ds.length % 8 + 1) _ _ (by rw [Nat.pow_succ]; exact hl) (by rw [Nat.pow_succ]; omega)

theorem pack_snoc_new (ds : List Bool) (d : Bool) (h : ds.length % 8 = 0) : pack (ds ++ [d]) = (pack ds ++ [0]).set (ds.length / 8) (byteAt (ds ++ [d]) (ds.length / 8)) := by
  apply List.ext_getElem?
  intro k
  by_cases hk : k < (ds.length + 1 + 7) / 8
  · rw [pack_get _ _ (by simpa using hk), List.getElem?_set]
    by_cases he : ds.length / 8 = k
    · rw [if_pos he, if_pos (by simp; omega)]; rw [he]
    · rw [if_neg he, List.getElem?_append_left (by simp; omega), pack_get _ _ (by omega), byteAt_snoc_other _ _ _ (by omega)]
  · rw [List.getElem?_eq_none (by simp; omega), List.getElem?_eq_none (by simp; omega)]

theorem pack_snoc_room (ds : List Bool) (d : Bool) (h : ds.length % 8 ≠ 0) : pack (ds ++ [d]) = (pack ds).set (ds.length / 8) (byteAt (ds ++ [d]) (ds.length / 8)) := by
  apply List.ext_getElem?
  intro k
  by_cases hk : k < (ds.length + 7) / 8
  · rw [pack_get _ _ (by simp; omega), List.getElem?_set]
    by_cases he : ds.length / 8 = k
    · rw [if_pos he, if_pos (by simp; omega)]; rw [he]
    · rw [if_neg he, pack_get _ _ (by omega), byteAt_snoc_other _ _ _ (by omega)]
  · rw [List.getElem?_eq_none (by simp; omega), List.getElem?_eq_none (by simp; omega)]

theorem byteAt_zero (ds : List Bool) (h : ds.length % 8 = 0) : byteAt ds (ds.length / 8) = 0 := by
  have := byteAt_low ds; rw [h] at this; have := byteAt_lt ds (ds.length / 8); omega

/-- The digits of bytes. -/
def digitOf (x : Nat) (j : Nat) : Bool := x / 2 ^ (7 - j) % 2 == 1
def unpack (l : List Nat) : List Bool := l.flatMap fun x => (List.range 8).map (digitOf x)
@[simp] theorem unpack_nil : unpack [] = [] := rfl
@[simp] theorem unpack_cons (x : Nat) (l : List Nat) : unpack (x :: l) = (List.range 8).map (digitOf x) ++ unpack l := rfl
@[simp] theorem length_unpack (l : List Nat) : (unpack l).length = 8 * l.length := by
  induction l with
  | nil => rfl
  | cons x l ih => simp [ih]; omega
theorem unpack_get : ∀ (l : List Nat) (i : Nat), (unpack l)[i]? = l[i / 8]?.map (digitOf · (i % 8))
  | [], i => by simp
  | x :: l, i => by
    by_cases h : i < 8
    · have e : i / 8 = 0 := by omega
      have e2 : i % 8 = i := by omega
      rw [unpack_cons, List.getElem?_append_left (by simpa using h), e, e2]
      simp [h]
    · have e : i / 8 = (i - 8) / 8 + 1 := by omega
      have e2 : i % 8 = (i - 8) % 8 := by omega
      rw [unpack_cons, List.getElem?_append_right (by simp; omega), e, e2]
      simp [unpack_get l (i - 8)]

theorem digitOf_byteAt (ds : List Bool) (k j : Nat) (hj : j < 8) : digitOf (byteAt ds k) j = ds.getD (8 * k + j) false := by
  have h0 := dg_le ds (8 * k); have h1 := dg_le ds (8 * k + 1); have h2 := dg_le ds (8 * k + 2); have h3 := dg_le ds (8 * k + 3)
  have h4 := dg_le ds (8 * k + 4); have h5 := dg_le ds (8 * k + 5); have h6 := dg_le ds (8 * k + 6); have h7 := dg_le ds (8 * k + 7)
  have e : ds.getD (8 * k + j) false = (dg ds (8 * k + j) == 1) := by unfold dg; cases ds.getD (8 * k + j) false <;> rfl
  rw [e]
  have hr : j = 0 ∨ j = 1 ∨ j = 2 ∨ j = 3 ∨ j = 4 ∨ j = 5 ∨ j = 6 ∨ j = 7 := by omega
  unfold digitOf byteAt
  rcases hr with h | h | h | h | h | h | h | h <;> subst h
  all_goals
    congr 1
    simp only [Nat.add_zero, Nat.sub_zero, Nat.reduceSub, Nat.reducePow]
    omega

/-- What was packed is there again, noughts behind it. -/
theorem unpack_pack (ds : List Bool) : unpack (pack ds) = ds ++ List.replicate ((8 - ds.length % 8) % 8) false := by
  apply List.ext_getElem?
  intro i
  rw [unpack_get]
  by_cases h : i < 8 * ((ds.length + 7) / 8)
  · rw [pack_get _ _ (by omega), Option.map_some, digitOf_byteAt _ _ _ (by omega)]
    have e : 8 * (i / 8) + i % 8 = i := by omega
    rw [e]
    by_cases hi : i < ds.length
    · rw [List.getElem?_append_left hi]; simp [List.getD, hi]
    · rw [List.getElem?_append_right (by omega), List.getElem?_replicate, if_pos (by omega)]
      simp [List.getD, List.getElem?_eq_none (by omega : ds.length ≤ i)]
  · rw [List.getElem?_eq_none (by simp; omega), List.getElem?_eq_none (by simp; omega)]; rfl

/-- The n lowest digits of a number, the greatest first. -/
def dig (v : Int) : Nat → List Bool
  | 0 => []
  | n + 1 => (v / 2 ^ n % 2 == 1) :: dig v n
@[simp] theorem length_dig (v : Int) (n : Nat) : (dig v n).length = n := by induction n with | zero => rfl | succ n ih => simp [dig, ih]

/-- The number of digits. -/
def num (ds : List Bool) : Nat := ds.foldl (fun a d => 2 * a + d.toNat) 0
theorem num_snoc (ds : List Bool) (d : Bool) : num (ds ++ [d]) = 2 * num ds + d.toNat := by simp [num]
@[simp] theorem num_nil : num [] = 0 := rfl

theorem num_lt (ds : List Bool) : num ds < 2 ^ ds.length := by
  suffices ∀ (ds : List Bool) (a m : Nat), a < 2 ^ m → ds.foldl (fun a d => 2 * a + d.toNat) a < 2 ^ (m + ds.length) by
    simpa [num] using this ds 0 0 (by decide)
  intro ds
  induction ds with
  | nil => intro a m h; simpa using h
  | cons d ds ih =>
    intro a m h
    have := ih (2 * a + d.toNat) (m + 1) (by rw [Nat.pow_succ]; cases d <;> simp <;> omega)
    simp only [List.foldl_cons, List.length_cons]
    rw [show m + (ds.length + 1) = m + 1 + ds.length by omega]
    exact this

theorem or_i64 (v : Nat) (d : Bool) (hv : v < 4611686018427387904) : bits BinOp.or IntKind.i64 ((v : Int) * 2) (d.toNat : Int) = (v : Int) * 2 + (d.toNat : Int) := by
  have e : ((v : Int) * 2) = ((v * 2 : Nat) : Int) := by push_cast; rfl
  have hd : d.toNat ≤ 1 := by cases d <;> decide
  rw [e]
  show IntKind.i64.wrap ((BitVec.ofInt 64 ((v * 2 : Nat) : Int) ||| BitVec.ofInt 64 ((d.toNat : Nat) : Int)).toNat : Int) = _
  rw [BitVec.toNat_or, ofInt_u64 (v * 2) (by omega), ofInt_u64 d.toNat (by omega)]
  have hj : v * 2 ||| d.toNat = v * 2 + d.toNat := nat_join 1 _ _ (by simp) (by omega)
  rw [hj]
  have hw : ∀ n : Nat, n < 9223372036854775808 → IntKind.i64.wrap ((n : Nat) : Int) = (n : Int) := by
    intro n hn
    simp [IntKind.wrap, IntKind.bits, IntKind.signed]
    omega
  rw [hw _ (by omega)]
  push_cast; rfl

theorem take_drop_snoc (ds : List Bool) (k j : Nat) (d : Bool) (h : ds[k + j]? = some d) : (ds.drop k).take (j + 1) = (ds.drop k).take j ++ [d] := by
  rw [List.take_add_one, List.getElem?_drop, h]; rfl

theorem pow_pos_int (n : Nat) : (0 : Int) < 2 ^ n := Int.pow_pos (by decide)
theorem pow_cast (n : Nat) : ((2 ^ n : Nat) : Int) = 2 ^ n := by push_cast; rfl

theorem dig_append (v : Int) (n m : Nat) : dig v (n + m) = dig (v / 2 ^ m) n ++ dig v m := by
  induction n with
  | zero => simp [dig]
  | succ n ih =>
    have e : n + 1 + m = (n + m) + 1 := by omega
    rw [e]
    simp only [dig, List.cons_append, ih]
    have e2 : v / 2 ^ (n + m) = v / 2 ^ m / 2 ^ n := by
      rw [Int.ediv_ediv_of_nonneg (Int.le_of_lt (pow_pos_int m)), ← Int.pow_add, Nat.add_comm]
    rw [e2]

theorem foldl_num (ds : List Bool) : ∀ a : Nat, ds.foldl (fun a d => 2 * a + d.toNat) a = a * 2 ^ ds.length + num ds := by
  induction ds with
  | nil => intro a; simp
  | cons d ds ih =>
    intro a
    have h1 := ih (2 * a + d.toNat)
    have h2 := ih (2 * 0 + d.toNat)
    simp only [num, List.foldl_cons, List.length_cons] at *
    rw [h1, h2, Nat.pow_succ, Nat.add_mul, Nat.add_mul]
    have : 2 * a * 2 ^ ds.length = a * (2 ^ ds.length * 2) := by rw [Nat.mul_comm 2 a, Nat.mul_assoc, Nat.mul_comm 2]
    omega
theorem num_cons (d : Bool) (ds : List Bool) : num (d :: ds) = d.toNat * 2 ^ ds.length + num ds := by
  have := foldl_num ds (2 * 0 + d.toNat)
  simp only [num, List.foldl_cons] at *
  simpa using this

theorem mod_pow_succ (v : Int) (n : Nat) : v % 2 ^ (n + 1) = 2 ^ n * (v / 2 ^ n % 2) + v % 2 ^ n := by
  have hp := pow_pos_int n
  have e : v / (2 ^ n * 2) = v / 2 ^ n / 2 := (Int.ediv_ediv_of_nonneg (Int.le_of_lt hp)).symm
  rw [Int.pow_succ, Int.emod_def v (2 ^ n * 2), Int.emod_def (v / 2 ^ n) 2, Int.emod_def v (2 ^ n), e, Int.mul_sub, Int.mul_assoc]
  omega

theorem num_dig (v : Int) (n : Nat) : ((num (dig v n) : Nat) : Int) = v % 2 ^ n := by
  induction n with
  | zero => simp [dig]
  | succ n ih =>
    rw [dig, num_cons, mod_pow_succ, ← ih, length_dig]
    have hb : v / 2 ^ n % 2 = 0 ∨ v / 2 ^ n % 2 = 1 := by omega
    have hc := pow_cast n
    rcases hb with h | h
    · simp [h]
    · simp [h]

end Go.Proofs.YtejgkgnocgplbabGreat.Dg

/- Walks over the small functions of the seat, and over add. -/
namespace Go.Proofs.YtejgkgnocgplbabGreat
set_option linter.unusedVariables false
set_option linter.unusedSimpArgs false
open Go.RowKit Dg

theorem Tryz.info5 : (Tryz.prog.info? 5).map (fun i => (i.zero, i.size, i.bytes)) = some (some (.int .u8 0), 1, 1) := by kernel_rfl

theorem ret_int {k : IntKind} {a b : Int} (h : a = b) : Ending.returned (.int k a) = .returned (.int k b) := by rw [h]

theorem tmod_pos {v n : Int} (h : 0 ≤ v.tmod n) (hn : 1 ≤ n) : v.tmod n = v % n := by
  by_cases hv : 0 ≤ v
  · exact Int.tmod_eq_emod_of_nonneg hv
  · have h1 := Int.tmod_def v n
    have h2 : v.tmod n ≤ 0 := by
      have := Int.tmod_nonneg n (show 0 ≤ -v by omega)
      rw [Int.neg_tmod] at this; omega
    have h3 : v.tmod n = 0 := by omega
    have h4 : v % n = 0 := by
      apply Int.emod_eq_zero_of_dvd
      exact Int.dvd_of_tmod_eq_zero h3
    omega
theorem tmod_neg {v n : Int} (h : v.tmod n < 0) (hn : 1 ≤ n) : v.tmod n + n = v % n := by
  have hv : v < 0 := by
    by_cases hv : 0 ≤ v
    · have := Int.tmod_nonneg n hv; omega
    · omega
  have e := Int.tmod_eq_emod (a := v) (b := n)
  rw [e] at h ⊢
  have h0 : ¬ 0 ≤ v := by omega
  by_cases hd : n ∣ v
  · have := Int.emod_eq_zero_of_dvd hd
    simp [hd] at h
    omega
  · simp [h0, hd]
    omega

set_option maxHeartbeats 400000 in
theorem within_any (v n : Int) (w : World) (hv1 : -9223372036854775808 ≤ v) (hv2 : v ≤ 9223372036854775807) (hn1 : 1 ≤ n) (hn2 : n ≤ 4611686018427387904) :
    Calls Tryz.prog 5 #[.int .i64 v, .int .i64 n] w fun e w' => e = .returned (.int .i64 (v % n)) ∧ w = w' := by
  have hb1 : -n < v.tmod n := by have := Int.lt_tmod_of_pos v (show 0 < n by omega); omega
  have hb2 : v.tmod n < n := Int.tmod_lt_of_pos v (by omega)
  go_enter Tryz.func5, Tryz.ntmps5
  go_wp2
  · go_ret
    exact ⟨ret_int (tmod_neg ‹_› hn1), rfl⟩
  · go_ret
    exact ⟨ret_int (tmod_pos ‹_› hn1), rfl⟩

set_option maxHeartbeats 400000 in
theorem newWriter_raw (w : World) :
    Calls Tryz.prog 43 #[] w fun e w' => e = .returned (.pointer (some ⟨w.heap.size, 0, none⟩)) ∧ w' = w.alloc (.cells #[.slice none 0 0, .int .i64 0] 99) := by
  go_enter Tryz.func43, Tryz.ntmps43
  go_wp2
  go_ret
  exact ⟨rfl, rfl⟩

set_option maxHeartbeats 400000 in
theorem len_raw (w : World) (b : Nat) (n : Int) (h1 : w.cell? ⟨b, 1, none⟩ = some (.int .i64 n)) :
    Calls Tryz.prog 31 #[.pointer (some ⟨b, 0, none⟩)] w fun e w' => e = .returned (.int .i64 n) ∧ w' = w := by
  go_enter Tryz.func31, Tryz.ntmps31
  go_wp2
  go_ret
  exact ⟨rfl, rfl⟩

set_option maxHeartbeats 1000000 in
theorem add_room (w : World) (b g cap cnt : Nat) (d x : Int) (hbg : b ≠ g)
    (hc : ((cnt : Int) % 8 == 0) = false) (hcap : cnt / 8 < cap) (hlt : cnt < 4611686018427387904) (n : Nat) (hn : cnt / 8 < n)
    (hb0 : w.cell? ⟨b, 0, none⟩ = some (.slice (some ⟨g, 0, none⟩) n cap)) (hb1 : w.cell? ⟨b, 1, none⟩ = some (.int .i64 cnt))
    (fb0 : w.frozen? ⟨b, 0, none⟩ = false) (fb1 : w.frozen? ⟨b, 1, none⟩ = false)
    (hx : w.cell? ⟨g, cnt / 8, none⟩ = some (.int .u8 x)) (fx : w.frozen? ⟨g, cnt / 8, none⟩ = false) :
    Calls Tryz.prog 55 #[.pointer (some ⟨b, 0, none⟩), .int .u8 d] w fun e w' => e = .returned (.tuple #[]) ∧
      w' = ((w.setCell ⟨g, cnt / 8, none⟩ (.int .u8 (bits BinOp.or IntKind.u8 x (d * 2 ^ (7 - cnt % 8) % 256)))).setCell ⟨b, 1, none⟩ (.int .i64 (cnt + 1))).drew := by
  go_enter Tryz.func55, Tryz.ntmps55
  go_wp2
  go_region
  all_goals go_wp2
  all_goals go_end0
  all_goals exact ⟨rfl, rfl⟩

set_option maxHeartbeats 1000000 in
theorem add_new (w : World) (b cnt : Nat) (d : Int) (rv : Value) (xs : List Value)
    (hc : ((cnt : Int) % 8 == 0) = true) (hlt : cnt < 4398046511104) (hbs : b < w.heap.size)
    (hb0 : w.cell? ⟨b, 0, none⟩ = some rv) (hb1 : w.cell? ⟨b, 1, none⟩ = some (.int .i64 cnt))
    (fb0 : w.frozen? ⟨b, 0, none⟩ = false) (fb1 : w.frozen? ⟨b, 1, none⟩ = false)
    (hown : w.ownsRow (b + 1) 5 1 rv (cnt / 8) xs) :
    Calls Tryz.prog 55 #[.pointer (some ⟨b, 0, none⟩), .int .u8 d] w fun e w' => e = .returned (.tuple #[]) ∧
      ∃ w1 g cap, b < g ∧ w1.ownsRow (b + 1) 5 1 (.slice (some ⟨g, 0, none⟩) (cnt / 8 + 1) cap) (cnt / 8 + 1) (xs ++ [.int .u8 0]) ∧ (w.alloc (.cells #[.int .u8 0] 5)).grownBy w1 rv.ownBlock ∧ (rv.ownBlock = some g ∨ w.heap.size ≤ g) ∧
      w' = (((w1.setCell ⟨b, 0, none⟩ (.slice (some ⟨g, 0, none⟩) (cnt / 8 + 1) cap)).setCell ⟨g, cnt / 8, none⟩ (.int .u8 (bits BinOp.or IntKind.u8 0 (d * 2 ^ (7 - cnt % 8) % 256)))).setCell ⟨b, 1, none⟩ (.int .i64 (cnt + 1))).drew := by
  obtain ⟨i0, hi, hz0, hz1, hz2⟩ := info_parts Tryz.info5
  have H : Hid (w.ownsRow (b + 1) 5 1 rv (cnt / 8) xs) := hown
  clear hown
  go_enter Tryz.func55, Tryz.ntmps55
  go_wp2_with (at_builtin; refine wpList_append_mine _ rfl (.tmp 14) (.tmp 15) 28 rfl (b + 1) 5 i0 (.int .u8 0) 1 1 Tryz.underlying28 hi hz0 hz1 hz2 rfl (by decide) rv (cnt / 8) xs rfl (H.out.alloc _) ⟨w.heap.size, 0, none⟩ 1 1 [.int .u8 0] rfl rfl ?c1 ?c2 (by decide) ?b1 ?b2 ?b3 ?_)
  case c1 => intro j u hj; match j, hj with | 0, hj => simp at hj; subst hj; simp [Addr.add]
  case c2 => intro u hu; simp at hu; subst hu; rfl
  case b1 => unfold maxLen; omega
  case b2 => omega
  case b3 => simp; omega
  intro g cap w1 H1 HG HN
  have hne : some b ≠ rv.ownBlock := fun e => by have := (H.out.lt b e.symm).1; omega
  have hk : w1.heap[b]? = w.heap[b]? := by rw [HG.out.block b (by simp; omega) hne]; exact Below.heap_alloc w _ b hbs
  have hb0' : w1.cell? ⟨b, 0, none⟩ = some rv := by rw [World.cell?_of_block (w := w) hk]; exact hb0
  have hb1' : w1.cell? ⟨b, 1, none⟩ = some (.int .i64 cnt) := by rw [World.cell?_of_block (w := w) hk]; exact hb1
  have fb0' : w1.frozen? ⟨b, 0, none⟩ = false := by rw [World.frozen?_of_block (w := w) hk]; exact fb0
  have fb1' : w1.frozen? ⟨b, 1, none⟩ = false := by rw [World.frozen?_of_block (w := w) hk]; exact fb1
  have hex : b < g ∧ cnt / 8 < cap ∧ w1.cell? ⟨g, cnt / 8, none⟩ = some (.int .u8 0) ∧ w1.frozen? ⟨g, cnt / 8, none⟩ = false := by
    have hl := H.out.1
    rcases H1.out.2 with ⟨e1, e2⟩ | ⟨g', cap', cur, hv, hgb, hh, hncap, _, hcs, htake⟩
    · omega
    · cases hv
      refine ⟨by omega, by omega, ?_, ?_⟩
      · have e : (xs ++ [Value.int .u8 0])[cnt / 8]? = some (.int .u8 0) := by
          rw [List.getElem?_append_right (by omega)]; simp [hl]
        rw [← htake, List.getElem?_take, if_pos (by omega)] at e
        simp only [World.cell?, hh]
        simpa using e
      · simp [World.frozen?, hh]
  clear hk hne
  obtain ⟨hbg, hcap, hx, fx⟩ := hex
  have hgne : g ≠ b := by omega
  go_wp2
  go_region
  all_goals go_wp2
  all_goals go_end0
  all_goals exact ⟨rfl, w1, g, cap, hbg, H1.out, HG.out, HN.out.imp id (fun h => by first | omega | (simp at h; omega)), rfl⟩

end Go.Proofs.YtejgkgnocgplbabGreat

/- What a writer is in memory; add, by its contract. -/
namespace Go.Proofs.YtejgkgnocgplbabGreat
set_option linter.unusedVariables false
set_option linter.unusedSimpArgs false
open Go.RowKit Dg

/-- A writer in memory: its struct lies at block b, its row in the value rv. -/
structure WrAt (w : World) (b : Nat) (rv : Value) (ds : List Bool) : Prop where
  box : w.heap[b]? = some (.cells #[rv, .int .i64 (ds.length : Nat)] 99 (0, 0))
  own : w.ownsRow (b + 1) 5 1 rv ((ds.length + 7) / 8) (u8s (pack ds))
/-- What it lies in. -/
def Wf (b : Nat) (rv : Value) (k : Nat) : Prop := k = b ∨ rv.ownBlock = some k

theorem WrAt.other {w w' : World} {b : Nat} {rv : Value} {ds : List Bool} {F : Nat → Prop} (h : WrAt w b rv ds) (hk : Kept F w w') (hF : ∀ k, Wf b rv k → ¬ F k) : WrAt w' b rv ds :=
  ⟨by rw [hk.block b (Array.getElem?_eq_some_iff.1 h.box).1 (hF b (Or.inl rfl))]; exact h.box, ownsRow_other h.own hk fun k hk' => hF k (Or.inr hk')⟩
theorem WrAt.drew {w : World} {b : Nat} {rv : Value} {ds : List Bool} (h : WrAt w b rv ds) : WrAt w.drew b rv ds := ⟨h.box, h.own⟩
theorem WrAt.lt {w : World} {b : Nat} {rv : Value} {ds : List Bool} (h : WrAt w b rv ds) : b < w.heap.size := (Array.getElem?_eq_some_iff.1 h.box).1
theorem WrAt.foot {w : World} {b : Nat} {rv : Value} {ds : List Bool} (h : WrAt w b rv ds) : ∀ k, Wf b rv k → b ≤ k ∧ k < w.heap.size := by
  rintro k (rfl | hk)
  · exact ⟨Nat.le_refl _, h.lt⟩
  · have := h.own.lt k hk; omega

/-- What a change of a writer leaves: the writer, changed; all else is as it was; its row is the old one's or new. -/
def Wrote (w w' : World) (b : Nat) (rv : Value) (ds : List Bool) : Prop :=
  ∃ rv', WrAt w' b rv' ds ∧ Kept (Wf b rv) w w' ∧ (∀ k, rv'.ownBlock = some k → rv.ownBlock = some k ∨ w.heap.size ≤ k)

theorem Wrote.trans {w w1 w2 : World} {b : Nat} {rv rv1 : Value} {ds : List Bool} (hk : Kept (Wf b rv) w w1) (hn : ∀ k, rv1.ownBlock = some k → rv.ownBlock = some k ∨ w.heap.size ≤ k) (h2 : Wrote w1 w2 b rv1 ds) : Wrote w w2 b rv ds := by
  obtain ⟨rv2, hw, hk2, hn2⟩ := h2
  refine ⟨rv2, hw, hk.trans' hk2 ?_, ?_⟩
  · rintro i hi (rfl | h)
    · exact Or.inl rfl
    · rcases hn i h with h | h
      · exact Or.inr h
      · omega
  · intro k hk'
    rcases hn2 k hk' with h | h
    · exact hn k h
    · have := hk.size; exact Or.inr (by omega)


theorem add_any (w : World) (b : Nat) (rv : Value) (ds : List Bool) (d : Bool) (h : WrAt w b rv ds) (hlt : ds.length < 4398046511104) :
    Calls Tryz.prog 55 #[.pointer (some ⟨b, 0, none⟩), .int .u8 (d.toNat : Int)] w fun e w' => e = .returned (.tuple #[]) ∧ Wrote w w' b rv (ds ++ [d]) := by
  have hb0 : w.cell? ⟨b, 0, none⟩ = some rv := by simp [World.cell?, h.box]
  have hb1 : w.cell? ⟨b, 1, none⟩ = some (.int .i64 (ds.length : Nat)) := by simp [World.cell?, h.box]
  have fb0 : w.frozen? ⟨b, 0, none⟩ = false := by simp [World.frozen?, h.box]
  have fb1 : w.frozen? ⟨b, 1, none⟩ = false := by simp [World.frozen?, h.box]
  have hbs := h.lt
  by_cases hm : ds.length % 8 = 0
  · have e8 : (ds.length + 7) / 8 = ds.length / 8 := by omega
    have hown := h.own
    rw [e8] at hown
    refine (add_new w b ds.length d.toNat rv (u8s (pack ds)) (by simp; omega) hlt hbs hb0 hb1 fb0 fb1 hown).mono ?_
    rintro e w' ⟨rfl, w1, g, cap, hbg, hown1, hgr, hnew, rfl⟩
    refine ⟨rfl, .slice (some ⟨g, 0, none⟩) (ds.length / 8 + 1) cap, ?_, ?_, ?_⟩
    · refine WrAt.drew ⟨?_, ?_⟩
      · have hk : w1.heap[b]? = w.heap[b]? := by
          rw [hgr.block b (by simp; omega) (fun e => by have := (h.own.lt b e.symm).1; omega)]
          exact Below.heap_alloc w _ b hbs
        have h1 := heap_setCell_of (w := w1) (o := 0) (hk.trans h.box) (.slice (some ⟨g, 0, none⟩) (ds.length / 8 + 1) cap)
        have h2 : ((w1.setCell ⟨b, 0, none⟩ (.slice (some ⟨g, 0, none⟩) (ds.length / 8 + 1) cap)).setCell ⟨g, ds.length / 8, none⟩ (.int .u8 (bits BinOp.or IntKind.u8 0 ((d.toNat : Int) * 2 ^ (7 - ds.length % 8) % 256)))).heap[b]? = _ := (Below.heap_setCell _ _ _ _ (by show b ≠ g; omega)).trans h1
        have h3 := heap_setCell_of (o := 1) h2 (.int .i64 (ds.length + 1))
        rw [h3]
        simp
      · have hk1 := ownsRow_other hown1 (F := fun k => k = b) (Kept.setCell w1 ⟨b, 0, none⟩ (.slice (some ⟨g, 0, none⟩) (ds.length / 8 + 1) cap) rfl) (fun k hk => by simp [Value.ownBlock] at hk; omega)
        have hk2 := ownsRow_set hk1 (ds.length / 8) (by omega) (.int .u8 (bits BinOp.or IntKind.u8 0 ((d.toNat : Int) * 2 ^ (7 - ds.length % 8) % 256)))
        have hk3 := ownsRow_other hk2 (F := fun k => k = b) (Kept.setCell _ ⟨b, 1, none⟩ (.int .i64 (ds.length + 1)) rfl) (fun k hk => by simp [Value.ownBlock] at hk; omega)
        have e1 : ((ds ++ [d]).length + 7) / 8 = ds.length / 8 + 1 := by simp; omega
        rw [e1, pack_snoc_new _ _ hm, ← u8s_set]
        have hor := byteAt_or ds d
        rw [byteAt_zero ds hm] at hor
        rw [← hor]
        have ea : u8s (pack ds ++ [0]) = u8s (pack ds) ++ [.int .u8 0] := by simp [u8s]
        rw [ea]
        exact hk3
    · refine (((Kept.alloc (Wf b rv) w (.cells #[.int .u8 0] 5)).trans' (Kept.grown hgr) (fun i _ hi => Or.inr hi)).trans' (G := fun k => k = b ∨ k = g) ((((Kept.setCell w1 ⟨b, 0, none⟩ _ (Or.inl rfl)).trans (Kept.setCell _ ⟨g, ds.length / 8, none⟩ _ (Or.inr rfl))).trans (Kept.setCell _ ⟨b, 1, none⟩ _ (Or.inl rfl))).drew) ?_)
      rintro i hi (rfl | rfl)
      · exact Or.inl rfl
      · rcases hnew with h' | h'
        · exact Or.inr h'
        · omega
    · intro k hk
      simp [Value.ownBlock] at hk
      subst hk
      exact hnew
  · have e8 : (ds.length + 7) / 8 = ds.length / 8 + 1 := by omega
    have hown := h.own
    rw [e8] at hown
    rcases hown.2 with ⟨_, e2⟩ | ⟨g, cap, cur, rfl, hgb, hh, hncap, hcm, hcs, htake⟩
    · omega
    · have e : (u8s (pack ds))[ds.length / 8]? = some (.int .u8 (byteAt ds (ds.length / 8) : Nat)) := by
        rw [u8s_get, pack_get _ _ (by omega)]; rfl
      have hx : w.cell? ⟨g, ds.length / 8, none⟩ = some (.int .u8 (byteAt ds (ds.length / 8) : Nat)) := by
        rw [← htake, List.getElem?_take, if_pos (by omega)] at e
        simp only [World.cell?, hh]
        simpa using e
      have fx : w.frozen? ⟨g, ds.length / 8, none⟩ = false := by simp [World.frozen?, hh]
      refine (add_room w b g cap ds.length d.toNat _ (by omega) (by simp; omega) (by omega) (by omega) _ (by omega) hb0 hb1 fb0 fb1 hx fx).mono ?_
      rintro e w' ⟨rfl, rfl⟩
      rw [byteAt_or]
      refine ⟨rfl, .slice (some ⟨g, 0, none⟩) (ds.length / 8 + 1) cap, WrAt.drew ⟨?_, ?_⟩, ?_, fun k hk => Or.inl hk⟩
      · have h2 : (w.setCell ⟨g, ds.length / 8, none⟩ (.int .u8 (byteAt (ds ++ [d]) (ds.length / 8) : Nat))).heap[b]? = _ := (Below.heap_setCell _ _ _ _ (by show b ≠ g; omega)).trans h.box
        have h3 := heap_setCell_of (o := 1) h2 (.int .i64 (ds.length + 1))
        rw [h3]
        simp
      · have hk2 := ownsRow_set hown (ds.length / 8) (by omega) (.int .u8 (byteAt (ds ++ [d]) (ds.length / 8) : Nat))
        have hk3 := ownsRow_other hk2 (F := fun k => k = b) (Kept.setCell _ ⟨b, 1, none⟩ (.int .i64 (ds.length + 1)) rfl) (fun k hk => by simp [Value.ownBlock] at hk; omega)
        have e1 : ((ds ++ [d]).length + 7) / 8 = ds.length / 8 + 1 := by simp; omega
        rw [e1, pack_snoc_room _ _ hm, ← u8s_set]
        exact hk3
      · exact ((Kept.setCell w ⟨g, ds.length / 8, none⟩ _ (Or.inr rfl)).trans (Kept.setCell _ ⟨b, 1, none⟩ _ (Or.inl rfl))).drew

end Go.Proofs.YtejgkgnocgplbabGreat

/- Writer: Put and Ones. -/
namespace Go.Proofs.YtejgkgnocgplbabGreat
set_option linter.unusedVariables false
set_option linter.unusedSimpArgs false
open Go.RowKit Dg

theorem Wrote.refl {w : World} {b : Nat} {rv : Value} {ds : List Bool} (h : WrAt w b rv ds) : Wrote w w b rv ds := ⟨rv, h, Kept.refl _ _, fun k hk => Or.inl hk⟩

set_option maxHeartbeats 400000 in
theorem put_bad (w : World) (p : Value) (v n : Int) (hn : n < 0 ∨ 62 < n) :
    Calls Tryz.prog 44 #[p, .int .i64 v, .int .i64 n] w fun e w' => e = .returned (.bool false) ∧ w = w' := by
  rcases hn with h | h
  · go_enter Tryz.func44, Tryz.ntmps44
    go_wp2
    go_ret
    exact ⟨rfl, rfl⟩
  · have h' : 0 ≤ n := by omega
    go_enter Tryz.func44, Tryz.ntmps44
    go_wp2
    go_ret
    exact ⟨rfl, rfl⟩

theorem bit_and (x : Int) (d : Bool) (hd : d = (x % 2 == 1)) : bits BinOp.and IntKind.u8 (x % 256) 1 = (d.toNat : Int) := by
  rw [u8_and (x % 256) 1 (by omega) (by omega) (by decide) (by decide)]
  have e : (x % 256).toNat &&& (1 : Int).toNat = (x % 256).toNat % 2 := nat_mask1 _
  rw [e, hd]
  by_cases h : x % 2 = 1
  · simp [h]; omega
  · have : x % 2 = 0 := by omega
    simp [this]; omega

set_option maxHeartbeats 1000000 in
theorem put_any (w : World) (b : Nat) (rv : Value) (ds : List Bool) (v : Int) (n : Nat) (h : WrAt w b rv ds) (hlt : ds.length < 4398046511000) (hn : n ≤ 62) :
    Calls Tryz.prog 44 #[.pointer (some ⟨b, 0, none⟩), .int .i64 v, .int .i64 n] w fun e w' => e = .returned (.bool true) ∧ Wrote w w' b rv (ds ++ dig v n) := by
  have HH : Hid (Wrote w w b rv ds) := Wrote.refl h
  clear h
  go_enter Tryz.func44, Tryz.ntmps44
  go_wp2
  go_loopw [7] (fun i wr => ∃ (k : Nat) (rs : List Bool), i = .int .i64 ((k : Int) - 1) ∧ k ≤ n ∧ Hid (rs ++ dig v k = ds ++ dig v n) ∧ Hid (Wrote w wr b rv rs)) (fun i _ => (intOf i + 1).toNat)
  case atStart => exact ⟨n, ds, rfl, Nat.le_refl _, rfl, HH.out⟩
  case round =>
    obtain ⟨k, rs, rfl, hk, hrs, hwr⟩ := hrel
    match k, hk, hrs with
    | 0, _, hrs =>
      go_wp2
      go_ret
      refine ⟨rfl, ?_⟩
      have := hrs.out
      simp only [dig, List.append_nil] at this
      rw [← this]
      exact hwr.out
    | j + 1, hk, hrs =>
      have ej : ((j + 1 : Nat) : Int) - 1 = (j : Int) := by omega
      rw [ej]
      obtain ⟨d, hd⟩ : ∃ d : Bool, d = (v / 2 ^ j % 2 == 1) := ⟨_, rfl⟩
      have hbit := bit_and _ d hd
      have HD : Hid (d = (v / 2 ^ j % 2 == 1)) := hd
      clear hd ej
      have hlen : rs.length < 4398046511104 := by
        have := congrArg List.length hrs.out
        simp at this; omega
      obtain ⟨rv1, hw1, hk1, hn1⟩ := hwr.out
      have HK : Hid (Kept (Wf b rv) w wr) := hk1
      have HN : Hid (∀ k, rv1.ownBlock = some k → rv.ownBlock = some k ∨ w.heap.size ≤ k) := hn1
      have HW : Hid (WrAt wr b rv1 rs) := hw1
      clear hk1 hn1 hw1
      go_wp2_with (go_at_call 55; refine (add_any wr b rv1 rs d HW.out hlen).mono ?_; rintro e w2 ⟨rfl, h2⟩)
      go_roundw
      case rel =>
        refine ⟨j, rs ++ [d], rfl, by omega, ?_, Wrote.trans HK.out HN.out h2⟩
        have := hrs.out
        simp only [dig] at this
        show _ = _
        rw [HD.out, ← this]; simp
      case measure => simp [intOf]

set_option maxHeartbeats 400000 in
theorem ones_bad (w : World) (p : Value) (n : Int) (hn : n < 0 ∨ 1024 < n) :
    Calls Tryz.prog 88 #[p, .int .i64 n] w fun e w' => e = .returned (.bool false) ∧ w = w' := by
  rcases hn with h | h
  · go_enter Tryz.func88, Tryz.ntmps88
    go_wp2
    go_ret
    exact ⟨rfl, rfl⟩
  · have h' : 0 ≤ n := by omega
    go_enter Tryz.func88, Tryz.ntmps88
    go_wp2
    go_ret
    exact ⟨rfl, rfl⟩

set_option maxHeartbeats 1000000 in
theorem ones_any (w : World) (b : Nat) (rv : Value) (ds : List Bool) (n : Nat) (h : WrAt w b rv ds) (hlt : ds.length < 4398046500000) (hn : n ≤ 1024) :
    Calls Tryz.prog 88 #[.pointer (some ⟨b, 0, none⟩), .int .i64 n] w fun e w' => e = .returned (.bool true) ∧ Wrote w w' b rv (ds ++ (List.replicate n true ++ [false])) := by
  have HH : Hid (Wrote w w b rv ds) := Wrote.refl h
  clear h
  go_enter Tryz.func88, Tryz.ntmps88
  go_wp2
  go_loopw [12] (fun i wr => ∃ (k : Nat), i = .int .i64 (k : Int) ∧ k ≤ n ∧ Hid (Wrote w wr b rv (ds ++ List.replicate k true))) (fun i _ => n - (intOf i).toNat)
  case atStart => exact ⟨0, rfl, Nat.zero_le _, by simpa using HH⟩
  case round =>
    obtain ⟨k, rfl, hk, hwr⟩ := hrel
    have hlen : (ds ++ List.replicate k true).length < 4398046511104 := by simp; omega
    obtain ⟨rv1, hw1, hk1, hn1⟩ := hwr.out
    have HK : Hid (Kept (Wf b rv) w wr) := hk1
    have HN : Hid (∀ k, rv1.ownBlock = some k → rv.ownBlock = some k ∨ w.heap.size ≤ k) := hn1
    have HW : Hid (WrAt wr b rv1 (ds ++ List.replicate k true)) := hw1
    have HL : Hid ((ds ++ List.replicate k true).length < 4398046511104) := hlen
    clear hk1 hn1 hw1 hlen
    by_cases hkn : k < n
    · go_wp2_with (go_at_call 55; refine (add_any wr b rv1 _ true HW.out HL.out).mono ?_; rintro e w2 ⟨rfl, h2⟩)
      go_roundw
      case rel =>
        refine ⟨k + 1, by go_num, by omega, ?_⟩
        have h3 := Wrote.trans HK.out HN.out h2
        have e : ds ++ List.replicate k true ++ [true] = ds ++ List.replicate (k + 1) true := by
          rw [List.replicate_succ', List.append_assoc]
        rw [e] at h3
        exact h3
      case measure => simp [intOf]; omega
    · go_wp2_with (go_at_call 55; refine (add_any wr b rv1 _ false HW.out HL.out).mono ?_; rintro e w2 ⟨rfl, h2⟩)
      go_ret
      refine ⟨rfl, ?_⟩
      have h3 := Wrote.trans HK.out HN.out h2
      have e : k = n := by omega
      rw [e, List.append_assoc] at h3
      exact h3

end Go.Proofs.YtejgkgnocgplbabGreat

/- Bytes that are read: copied, Bytes, Same, NewReader. -/
namespace Go.Proofs.YtejgkgnocgplbabGreat
set_option linter.unusedVariables false
set_option linter.unusedSimpArgs false
open Go.RowKit Dg

/-- A slice of bytes that can be read. -/
def SlAt (w : World) (v : Value) (l : List Nat) : Prop :=
  ∃ ao cap, v = .slice ao l.length cap ∧ ∀ j x, l[j]? = some x → ∃ b off, ao = some ⟨b, off, none⟩ ∧ w.cell? ⟨b, off + j, none⟩ = some (.int .u8 ((x : Nat) : Int))

theorem SlAt.kept {w w' : World} {v : Value} {l : List Nat} {F : Nat → Prop} (h : SlAt w v l) (hk : Kept F w w') (hF : ∀ k, v.ownBlock = some k → ¬ F k) : SlAt w' v l := by
  obtain ⟨ao, cap, rfl, hc⟩ := h
  refine ⟨ao, cap, rfl, fun j x hx => ?_⟩
  obtain ⟨b, off, rfl, hcell⟩ := hc j x hx
  refine ⟨b, off, rfl, ?_⟩
  rw [hk.cell (World.block_lt_of_cell? w _ hcell) (hF b rfl)]
  exact hcell

theorem SlAt.nil (w : World) : SlAt w (.slice none 0 0) [] := ⟨none, 0, rfl, fun j x hx => by simp at hx⟩

theorem SlAt.of_owns {w : World} {base : Nat} {v : Value} {n : Nat} {l : List Nat} (h : w.ownsRow base 5 1 v n (u8s l)) : SlAt w v l := by
  have hl : l.length = n := by have := h.1; simpa using this
  rcases h.2 with ⟨rfl, rfl⟩ | ⟨g, cap, cur, rfl, hb, hh, hn, _, hcs, htake⟩
  · have : l = [] := List.eq_nil_of_length_eq_zero hl
    subst this
    exact SlAt.nil w
  · refine ⟨some ⟨g, 0, none⟩, cap, by rw [hl], fun j x hx => ⟨g, 0, rfl, ?_⟩⟩
    have hj : j < l.length := (List.getElem?_eq_some_iff.1 hx).1
    have e : (u8s l)[j]? = some (.int .u8 ((x : Nat) : Int)) := by rw [u8s_get, hx]; rfl
    rw [← htake, List.getElem?_take, if_pos (by omega)] at e
    simp only [World.cell?, hh]
    simpa using e

set_option maxHeartbeats 1000000 in
theorem copied_any (w : World) (v : Value) (l : List Nat) (h : SlAt w v l) (hl : l.length ≤ 4398046511104) :
    Calls Tryz.prog 34 #[v] w fun e w' => e = .returned (.slice (some ⟨w.heap.size, 0, none⟩) l.length l.length) ∧ w'.ownsRow w.heap.size 5 1 (.slice (some ⟨w.heap.size, 0, none⟩) l.length l.length) l.length (u8s l) ∧ Below w.heap.size w w' := by
  obtain ⟨i0, hi, hz0, hz1, hz2⟩ := info_parts Tryz.info5
  obtain ⟨ao, cap, rfl, hc⟩ := h
  have HC : Hid (∀ j x, l[j]? = some x → ∃ b off, ao = some ⟨b, off, none⟩ ∧ w.cell? ⟨b, off + j, none⟩ = some (.int .u8 ((x : Nat) : Int))) := hc
  clear hc
  go_enter Tryz.func34, Tryz.ntmps34
  go_wp2_with (at_make; refine wpList_make_full _ rfl _ _ 28 rfl w.heap.size 5 i0 (.int .u8 0) 1 Tryz.underlying28 hi hz0 hz1 _ _ _ _ l.length rfl rfl rfl rfl ?b1 ?b2 ?b3 ?_)
  case b1 => rw [hz2]; omega
  case b2 => unfold maxLen; omega
  case b3 => exact Nat.le_refl _
  intro w1 hown hgr
  have hex : ∃ cur : Array Value, w1.heap[w.heap.size]? = some (.cells cur 5 (0, 0)) ∧ cur.size = l.length := by
    rcases hown.2 with ⟨e, _⟩ | ⟨g, cap, cur, hv, _, hh, _, _, hcs, _⟩
    · cases e
    · cases hv
      exact ⟨cur, hh, by omega⟩
  obtain ⟨cur, hcur, hsz⟩ := hex
  have HB : Hid (Below w.heap.size w w1) := (Below.refl _ _).grown hgr (Nat.le_refl _) (fun k hk => by cases hk)
  have HCUR : Hid (w1.heap[w.heap.size]? = some (.cells cur.toList.toArray 5 (0, 0))) := by show w1.heap[w.heap.size]? = _; simpa using hcur
  clear hown hgr hcur
  go_wp2_with (refine wpList_copy_splice rfl (.tmp 7) (.tmp 8) 28 28 rfl 5 Tryz.underlying28 (by simp [hi, hz1]) _ _ _ _ _ _ rfl rfl w.heap.size 0 cur.toList 5 HCUR.out (u8s l) ?c1 ?c2 ?c3 ?c4 w.heap.size w HB.out (Nat.le_refl _) ?_)
  case c1 => show _ = min _ _; simp
  case c2 =>
    intro h0
    have h0' : 0 < l.length := by simpa using h0
    obtain ⟨b, off, hao, hcell⟩ := HC.out 0 l[0] (by simp)
    refine ⟨⟨b, off, none⟩, hao, fun j u hu => ?_⟩
    rw [u8s_get] at hu
    obtain ⟨x, hx, rfl⟩ := Option.map_eq_some_iff.1 hu
    obtain ⟨b', off', hao', hcell'⟩ := HC.out j x hx
    rw [hao] at hao'
    cases hao'
    have hadd : (⟨b, off, none⟩ : Addr).add j = ⟨b, off + j, none⟩ := by simp [Addr.add]
    rw [hadd, HB.out.cell (p := ⟨b, off + j, none⟩) (World.block_lt_of_cell? w _ hcell')]
    exact hcell'
  case c3 => simp; omega
  case c4 => intro u hu; simp [u8s] at hu; obtain ⟨x, _, rfl⟩ := hu; rfl
  intro w2 hg2 hb2
  go_wp2
  go_ret
  refine ⟨rfl, ⟨by simp, .inr ⟨w.heap.size, l.length, _, rfl, Nat.le_refl _, hg2.out, Nat.le_refl _, by unfold maxLen; omega, ?_, ?_⟩⟩, hb2⟩
  · simp [splice]; omega
  · have e : splice cur.toList 0 (u8s l) = u8s l := by
      unfold splice
      rw [List.drop_eq_nil_of_le (by simp; omega)]; simp
    simp only [e]
    exact List.take_of_length_le (by simp)

end Go.Proofs.YtejgkgnocgplbabGreat

/- Bytes; the reader: NewReader, digit, Left, Get. -/
namespace Go.Proofs.YtejgkgnocgplbabGreat
set_option linter.unusedVariables false
set_option linter.unusedSimpArgs false
open Go.RowKit Dg

/-- New bytes: where they lie, what they are; nothing old has turned. -/
def NewBytes (w w' : World) (l : List Nat) : Prop :=
  w'.ownsRow w.heap.size 5 1 (.slice (some ⟨w.heap.size, 0, none⟩) l.length l.length) l.length (u8s l) ∧ Below w.heap.size w w'

set_option maxHeartbeats 400000 in
theorem bytes_any (w : World) (b : Nat) (rv : Value) (ds : List Bool) (l : List Nat) (hl : l = pack ds) (h : WrAt w b rv ds) (hlt : ds.length < 4398046511104) :
    Calls Tryz.prog 32 #[.pointer (some ⟨b, 0, none⟩)] w fun e w' => e = .returned (.slice (some ⟨w.heap.size, 0, none⟩) l.length l.length) ∧ NewBytes w w' l := by
  have hb0 : w.cell? ⟨b, 0, none⟩ = some rv := by simp [World.cell?, h.box]
  have HS : Hid (SlAt w rv l) := by rw [hl]; exact SlAt.of_owns h.own
  have hll : l.length ≤ 4398046511104 := by rw [hl, length_pack]; omega
  clear h hl
  go_enter Tryz.func32, Tryz.ntmps32
  go_wp2_with (go_at_call 34; refine (copied_any w rv l HS.out hll).mono ?_; rintro e w2 ⟨rfl, h2, h3⟩)
  go_ret
  exact ⟨rfl, h2, h3⟩

/-- A reader in memory: its struct lies at block b, its row in the value rv; so many digits were taken. -/
structure RdAt (w : World) (b : Nat) (rv : Value) (l : List Nat) (at_ : Nat) : Prop where
  box : w.heap[b]? = some (.cells #[rv, .int .i64 (at_ : Nat)] 86 (0, 0))
  row : SlAt w rv l
  le : at_ ≤ 8 * l.length
  ne : rv.ownBlock ≠ some b
  byte : ∀ x ∈ l, x < 256
  small : l.length ≤ 4398046511104

theorem Kept.of_below {F : Nat → Prop} {w w' : World} (h : Below w.heap.size w w') : Kept F w w' := ⟨h.os, h.tape, h.output, h.size, fun k hk _ => h.block k hk⟩

set_option maxHeartbeats 400000 in
theorem newReader_any (w : World) (v : Value) (l : List Nat) (h : SlAt w v l) (hl : l.length ≤ 4398046511104) (hb : ∀ x ∈ l, x < 256) :
    Calls Tryz.prog 24 #[v] w fun e w' => ∃ b, e = .returned (.pointer (some ⟨b, 0, none⟩)) ∧ w.heap.size < b ∧ RdAt w' b (.slice (some ⟨w.heap.size, 0, none⟩) l.length l.length) l 0 ∧ Below w.heap.size w w' := by
  have HS : Hid (SlAt w v l) := h
  have HB : Hid (∀ x ∈ l, x < 256) := hb
  clear h hb
  go_enter Tryz.func24, Tryz.ntmps24
  go_wp2_with (go_at_call 34; refine (copied_any w v l HS.out hl).mono ?_; rintro e w2 ⟨rfl, h2, h3⟩)
  go_ret
  refine ⟨w2.heap.size, rfl, ?_, ⟨?_, ?_, Nat.zero_le _, ?_, HB.out, hl⟩, h3.alloc h3.size _⟩
  · have := (h2.lt w.heap.size rfl).2; omega
  · exact heap_alloc_new w2 _
  · exact SlAt.of_owns (h2.alloc _)
  · have := (h2.lt w.heap.size rfl).2
    simp [Value.ownBlock]; omega

set_option maxHeartbeats 400000 in
theorem left_any (w : World) (b : Nat) (rv : Value) (l : List Nat) (k : Nat) (h : RdAt w b rv l k) :
    Calls Tryz.prog 50 #[.pointer (some ⟨b, 0, none⟩)] w fun e w' => e = .returned (.int .i64 (8 * (l.length : Int) - k)) ∧ w' = w.drew := by
  have hb0 : w.cell? ⟨b, 0, none⟩ = some rv := by simp [World.cell?, h.box]
  have hb1 : w.cell? ⟨b, 1, none⟩ = some (.int .i64 (k : Nat)) := by simp [World.cell?, h.box]
  have hle := h.le
  have hs := h.small
  obtain ⟨ao, cap, rfl, _⟩ := h.row
  clear h
  go_enter Tryz.func50, Tryz.ntmps50
  go_wp2
  go_region
  all_goals go_wp2
  all_goals go_ret
  all_goals exact ⟨rfl, rfl⟩

theorem bit_of (x j : Nat) (d : Bool) (hx : x < 256) (hd : digitOf x j = d) : bits BinOp.and IntKind.u8 ((x : Int) / 2 ^ (7 - j)) 1 = (d.toNat : Int) := by
  have e : (x : Int) / 2 ^ (7 - j) = ((x / 2 ^ (7 - j) : Nat) : Int) := by push_cast; rfl
  have hlt : x / 2 ^ (7 - j) < 256 := Nat.lt_of_le_of_lt (Nat.div_le_self _ _) hx
  rw [e]
  have e1 : (1 : Int) = ((1 : Nat) : Int) := rfl
  rw [e1, u8_and_nat _ _ hlt (by decide), nat_mask1, ← hd]
  unfold digitOf
  have h2 : x / 2 ^ (7 - j) % 2 = 0 ∨ x / 2 ^ (7 - j) % 2 = 1 := by omega
  rcases h2 with h | h <;> simp [h]

set_option maxHeartbeats 400000 in
theorem digit_any (w : World) (b : Nat) (rv : Value) (l : List Nat) (k : Nat) (h : RdAt w b rv l k) (i : Nat) (d : Bool) (hd : (unpack l)[i]? = some d) :
    Calls Tryz.prog 42 #[.pointer (some ⟨b, 0, none⟩), .int .i64 i] w fun e w' => e = .returned (.int .u8 (d.toNat : Int)) ∧ w' = w := by
  have hb0 : w.cell? ⟨b, 0, none⟩ = some rv := by simp [World.cell?, h.box]
  have hi : i < 8 * l.length := by have := (List.getElem?_eq_some_iff.1 hd).1; simpa using this
  have hs := h.small
  rw [unpack_get] at hd
  obtain ⟨x, hx, hxd⟩ := Option.map_eq_some_iff.1 hd
  obtain ⟨ao, cap, rfl, hc⟩ := h.row
  obtain ⟨g, off, rfl, hcell⟩ := hc _ _ hx
  have hlt : i / 8 < l.length := (List.getElem?_eq_some_iff.1 hx).1
  have hx256 := h.byte x (List.mem_of_getElem? hx)
  have HD : Hid (digitOf x (i % 8) = d) := hxd
  clear h hc hd hx hxd
  go_enter Tryz.func42, Tryz.ntmps42
  go_wp2
  go_ret
  exact ⟨ret_int (bit_of x (i % 8) d hx256 HD.out), rfl⟩

end Go.Proofs.YtejgkgnocgplbabGreat
