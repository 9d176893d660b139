/- The texts Base, Math, Walk1, Walk2, Walk3, Walk4, Walk5, Walk6, Walk7, Walk8, Walk9, Row, Post, Acts, Ints, one behind the other. -/
import Derived.WalkKit
import Derived.WalkSpells
import Derived.WalkLawsBesides
import Derived.Handy
import Derived.Laws.BitsAllLaws
import Derived.Test.YthfeecgpgempdaaDoorRows
import Derived.BigRegion
import Derived.Deep.QuietTactic
import Derived.BigQuiet
import Derived.Laws.CopyOwn
import Derived.ProofKit
import Derived.OpenShut
import Derived.Deep.Slices
import Derived.Laws.AppendOwnNone

/- What a step leaves as it was; rows of bytes that the call owns; an append to such a row: no program in sight. -/
namespace Go.Proofs.YthfeecgpgempdaaDoor
set_option linter.unusedVariables false
set_option linter.unusedSimpArgs false
open Go.RowKit

theorem hid_of {p : Prop} (h : p) : Hid p := h
/-- All blocks but those of F are as they were; no block has gone. -/
structure Kept (F : Nat → Prop) (w w' : World) : Prop where
  os : w'.os = w.os
  tape : w'.tape = w.tape
  output : w'.output = w.output
  size : w.heap.size ≤ w'.heap.size
  block : ∀ k, k < w.heap.size → ¬ F k → w'.heap[k]? = w.heap[k]?
theorem Kept.refl (F : Nat → Prop) (w : World) : Kept F w w := ⟨rfl, rfl, rfl, Nat.le_refl _, fun _ _ _ => rfl⟩
theorem Kept.trans {F : Nat → Prop} {a b c : World} (h : Kept F a b) (k : Kept F b c) : Kept F a c :=
  ⟨k.os.trans h.os, k.tape.trans h.tape, k.output.trans h.output, Nat.le_trans h.size k.size, fun i hi hf => (k.block i (Nat.lt_of_lt_of_le hi h.size) hf).trans (h.block i hi hf)⟩
/-- The second step may turn, besides, whatever is new behind the first. -/
theorem Kept.trans' {F G : Nat → Prop} {a b c : World} (h : Kept F a b) (k : Kept G b c) (hG : ∀ i, i < a.heap.size → G i → F i) : Kept F a c :=
  ⟨k.os.trans h.os, k.tape.trans h.tape, k.output.trans h.output, Nat.le_trans h.size k.size, fun i hi hf => (k.block i (Nat.lt_of_lt_of_le hi h.size) (fun hg => hf (hG i hi hg))).trans (h.block i hi hf)⟩
theorem Kept.mono {F G : Nat → Prop} {w w' : World} (h : Kept F w w') (hG : ∀ i, i < w.heap.size → F i → G i) : Kept G w w' :=
  ⟨h.os, h.tape, h.output, h.size, fun i hi hf => h.block i hi (fun hx => hf (hG i hi hx))⟩
theorem Kept.drew {F : Nat → Prop} {w w' : World} (h : Kept F w w') : Kept F w w'.drew := ⟨h.os, h.tape, h.output, h.size, h.block⟩
theorem Kept.below {B : Nat} {w w' : World} (h : Kept (fun k => B ≤ k) w w') : Below (min B w.heap.size) w w' :=
  ⟨h.os, h.tape, h.output, h.size, fun k hk => h.block k (by omega) (by omega)⟩
theorem Kept.cell {F : Nat → Prop} {w w' : World} (h : Kept F w w') {b : Nat} {o : Nat} (hb : b < w.heap.size) (hf : ¬ F b) : w'.cell? ⟨b, o, none⟩ = w.cell? ⟨b, o, none⟩ := World.cell?_of_block (w := w) (h.block b hb hf)
theorem Kept.frozen {F : Nat → Prop} {w w' : World} (h : Kept F w w') {b : Nat} {o : Nat} (hb : b < w.heap.size) (hf : ¬ F b) : w'.frozen? ⟨b, o, none⟩ = w.frozen? ⟨b, o, none⟩ := World.frozen?_of_block (w := w) (h.block b hb hf)
theorem Kept.grown {w w' : World} {row : Option Nat} (hg : w.grownBy w' row) : Kept (fun k => row = some k) w w' := ⟨hg.os, hg.tape, hg.output, hg.size, fun k hk hf => hg.block k hk (fun e => hf e.symm)⟩
theorem Kept.alloc (F : Nat → Prop) (w : World) (o : Obj) : Kept F w (w.alloc o) := ⟨rfl, rfl, rfl, by simp, fun k hk _ => Below.heap_alloc _ _ _ hk⟩
theorem Kept.setCell {F : Nat → Prop} (w : World) (a : Addr) (u : Value) (h : F a.block) : Kept F w (w.setCell a u) :=
  ⟨rfl, rfl, rfl, by simp [World.setCell], fun k _ hf => Below.heap_setCell _ _ _ _ (fun e => hf (e ▸ h))⟩
/-- Bytes as values. -/
def u8s (l : List Nat) : List Value := l.map fun x : Nat => Value.int .u8 ((x : Nat) : Int)
@[simp] theorem length_u8s (l : List Nat) : (u8s l).length = l.length := by simp [u8s]

theorem heap_setCell_of {w : World} {g : Nat} {o : Nat} {cur : Array Value} {t : TypeId} (h : w.heap[g]? = some (.cells cur t (0, 0))) (u : Value) :
    (w.setCell ⟨g, o, none⟩ u).heap[g]? = some (.cells (cur.setIfInBounds o u) t (0, 0)) := by
  simp [World.setCell, Array.getElem?_modify, h]

theorem u8s_get (l : List Nat) (k : Nat) : (u8s l)[k]? = l[k]?.map fun x : Nat => Value.int .u8 ((x : Nat) : Int) := by simp [u8s]
theorem u8s_set (l : List Nat) (k x : Nat) : (u8s l).set k (.int .u8 ((x : Nat) : Int)) = u8s (l.set k x) := by simp [u8s]

/-- A store into an owned row. -/
theorem ownsRow_set {w : World} {base : Nat} {e : TypeId} {g cap n : Nat} {xs : List Value} (h : w.ownsRow base e 1 (.slice (some ⟨g, 0, none⟩) n cap) n xs) (o : Nat) (ho : o < n) (u : Value) :
    (w.setCell ⟨g, o, none⟩ u).ownsRow base e 1 (.slice (some ⟨g, 0, none⟩) n cap) n (xs.set o u) := by
  refine ⟨by simpa using h.1, ?_⟩
  rcases h.2 with ⟨e1, _⟩ | ⟨g', cap', cur, hv, hb, hh, hn, hm, hcs, ht⟩
  · cases e1
  · cases hv
    refine .inr ⟨g, cap, cur.setIfInBounds o u, rfl, hb, heap_setCell_of hh u, hn, hm, by simpa using hcs, ?_⟩
    rw [← ht]
    simp [List.take_set]

/-- It stays owned while another block is written. -/
theorem ownsRow_other {w : World} {base : Nat} {e : TypeId} {size : Nat} {v : Value} {n : Nat} {xs : List Value} (h : w.ownsRow base e size v n xs) {w' : World} {F : Nat → Prop} (hk : Kept F w w') (hF : ∀ k, v.ownBlock = some k → ¬ F k) : w'.ownsRow base e size v n xs := by
  refine ⟨h.1, ?_⟩
  rcases h.2 with hn | ⟨g, cap, cur, rfl, hb, hgg, rest⟩
  · exact .inl hn
  · exact .inr ⟨g, cap, cur, rfl, hb, by rw [hk.block g (Array.getElem?_eq_some_iff.1 hgg).1 (hF g rfl)]; exact hgg, rest⟩


theorem ownsRow_base {w : World} {base base' : Nat} {e : TypeId} {size : Nat} {v : Value} {n : Nat} {xs : List Value} (h : w.ownsRow base e size v n xs) (hb : base' ≤ base) : w.ownsRow base' e size v n xs := by
  refine ⟨h.1, ?_⟩
  rcases h.2 with hn | ⟨g, cap, cur, rfl, hg, rest⟩
  · exact .inl hn
  · exact .inr ⟨g, cap, cur, rfl, by omega, rest⟩

/-- 'append' of some elements to a row of the call's own: it grows in its place, or is laid anew. -/
theorem wpList_append_mine {P : Program} (w : World) {ops : Array Oper} {rest : List Oper} {o : Oper} {a : Act} {Q : Exit → Act → World → Prop}
    (hgd : o.guard = none) (s x : Operand) (t : TypeId) (ho : o.op = .call { callee := .builtin .append, args := #[s, x], argTypes := #[t, t] })
    (base : Nat) (e : TypeId) (i : TypeInfo) (z : Value) (size bytes : Nat) (ht : P.underlying t = some (.slice e)) (hi : P.info? e = some i) (hz : i.zero = some z)
    (hsize : i.size = size) (hby : i.bytes = bytes) (hzs : z.cells.size = size) (hsz : 0 < size)
    (v : Value) (n : Nat) (xs : List Value) (hs : a.eval s = v) (hown : w.ownsRow base e size v n xs)
    (ad : Addr) (m c : Nat) (news : List Value) (hx : a.eval x = .slice (some ad) m c) (hl : news.length = m * size) (hnews : ∀ j u, news[j]? = some u → w.cell? (ad.add j) = some u) (h1 : ∀ u ∈ news, u.oneCell' = true)
    (hm : 0 < m) (h63 : n + m ≤ maxLen) (hbytes : (n + m) * bytes ≤ 140737488355328) (hbase : base ≤ w.heap.size)
    (h : ∀ g cap w', Hid (w'.ownsRow base e size (.slice (some ⟨g, 0, none⟩) (n + m) cap) (n + m) (xs ++ news)) → Hid (w.grownBy w' v.ownBlock) → Hid (v.ownBlock = some g ∨ w.heap.size ≤ g) → wpList P ops Q rest (a.put o.dst (.slice (some ⟨g, 0, none⟩) (n + m) cap)) w') : wpList P ops Q (o :: rest) a w := by
  have key : ∀ v' w', w'.ownsRow w.heap.size e size v' (n + m) (xs ++ news) → w.grownBy w' none → wpList P ops Q rest (a.put o.dst v') w' := by
    intro v' w' ho' hg'
    rcases ho'.2 with ⟨_, hn⟩ | ⟨g, cap, cur, rfl, hgb, r⟩
    · omega
    · exact h g cap w' (ownsRow_base ho' hbase) ⟨hg'.os, hg'.tape, hg'.output, hg'.size, fun k hk _ => hg'.block k hk (by simp)⟩ (Or.inr hgb)
  rcases hown.2 with ⟨hv, hn⟩ | ⟨g, cap, cur, hv, hgb, hh, hnc, hcm, hcs, htake⟩
  · subst hn
    have hxs : xs = [] := List.eq_nil_of_length_eq_zero (by simpa using hown.1)
    refine wpList_append_grows w hgd s x t ho e i z size bytes ht hi hz hsize hby hzs hsz none 0 0 xs (hs.trans hv) (fun _ => ⟨rfl, rfl⟩) (by simp [hxs]) (fun b hb => by cases hb) ad m c news hx hl hnews h1 (by omega) h63 hbytes key
  · by_cases hroom : n + m ≤ cap
    · refine wpList_append_fits w hgd s x t ho base e i size ht hi hsize g n cap xs (hs.trans hv) (hv ▸ hown) ad m c news hx hl hnews h1 hroom ?_
      intro w' ho' hg'
      exact h g cap w' ho' (show _ by rw [hv]; exact hg') (Or.inl (by rw [hv]; rfl))
    · refine wpList_append_grows w hgd s x t ho e i z size bytes ht hi hz hsize hby hzs hsz (some ⟨g, 0, none⟩) n cap xs (hs.trans hv) (fun e => by cases e) hown.1 ?_ ad m c news hx hl hnews h1 (by omega) h63 hbytes key
      intro b hb
      cases hb
      exact hown.cells (by rw [hv]; rfl)

end Go.Proofs.YthfeecgpgempdaaDoor

/- Plain mathematics of binary digits in a row, packed eight a byte: no program in sight. -/
namespace Go.Proofs.YthfeecgpgempdaaDoor.Dg
set_option linter.unusedVariables false
set_option linter.unusedSimpArgs false

/-- A digit of a row, 0 behind its end. -/
def dg (ds : List Bool) (i : Nat) : Nat := (ds.getD i false).toNat
theorem dg_le (ds : List Bool) (i : Nat) : dg ds i ≤ 1 := by unfold dg; cases ds.getD i false <;> decide
theorem dg_out (ds : List Bool) (i : Nat) (h : ds.length ≤ i) : dg ds i = 0 := by
  unfold dg; simp [List.getD, List.getElem?_eq_none h]
theorem dg_snoc_lt (ds : List Bool) (d : Bool) (i : Nat) (h : i ≠ ds.length) : dg (ds ++ [d]) i = dg ds i := by
  unfold dg
  by_cases hi : i < ds.length
  · simp [List.getD, List.getElem?_append_left hi]
  · have h2 : ds.length ≤ i := by omega
    have h3 : (ds ++ [d]).length ≤ i := by simp; omega
    simp only [List.getD, List.getElem?_eq_none h2, List.getElem?_eq_none h3]
theorem dg_snoc (ds : List Bool) (d : Bool) : dg (ds ++ [d]) ds.length = d.toNat := by unfold dg; simp [List.getD]

/-- The k-th byte. -/
def byteAt (ds : List Bool) (k : Nat) : Nat :=
  128 * dg ds (8 * k) + 64 * dg ds (8 * k + 1) + 32 * dg ds (8 * k + 2) + 16 * dg ds (8 * k + 3) + 8 * dg ds (8 * k + 4) + 4 * dg ds (8 * k + 5) + 2 * dg ds (8 * k + 6) + dg ds (8 * k + 7)
theorem byteAt_lt (ds : List Bool) (k : Nat) : byteAt ds k < 256 := by
  have h0 := dg_le ds (8 * k); have h1 := dg_le ds (8 * k + 1); have h2 := dg_le ds (8 * k + 2); have h3 := dg_le ds (8 * k + 3)
  have h4 := dg_le ds (8 * k + 4); have h5 := dg_le ds (8 * k + 5); have h6 := dg_le ds (8 * k + 6); have h7 := dg_le ds (8 * k + 7)
  unfold byteAt; omega

/-- The bytes of digits, noughts fill up the last one. -/
def pack (ds : List Bool) : List Nat := (List.range ((ds.length + 7) / 8)).map (byteAt ds)
@[simp] theorem length_pack (ds : List Bool) : (pack ds).length = (ds.length + 7) / 8 := by simp [pack]
theorem pack_get (ds : List Bool) (k : Nat) (h : k < (ds.length + 7) / 8) : (pack ds)[k]? = some (byteAt ds k) := by simp [pack, h]
theorem pack_lt (ds : List Bool) : ∀ x ∈ pack ds, x < 256 := by
  intro x hx; simp [pack] at hx; obtain ⟨k, _, rfl⟩ := hx; exact byteAt_lt ds k

theorem byteAt_snoc_other (ds : List Bool) (d : Bool) (k : Nat) (h : k ≠ ds.length / 8) : byteAt (ds ++ [d]) k = byteAt ds k := by
  unfold byteAt
  rw [dg_snoc_lt, dg_snoc_lt, dg_snoc_lt, dg_snoc_lt, dg_snoc_lt, dg_snoc_lt, dg_snoc_lt, dg_snoc_lt] <;> omega

theorem byteAt_snoc (ds : List Bool) (d : Bool) : byteAt (ds ++ [d]) (ds.length / 8) = byteAt ds (ds.length / 8) + d.toNat * 2 ^ (7 - ds.length % 8) := by
  have hd : ∀ i, ds.length ≤ i → dg ds i = 0 := fun i h => dg_out ds i h
  have hs : ∀ i, i = ds.length → dg (ds ++ [d]) i = d.toNat := fun i h => by subst h; exact dg_snoc ds d
  have ho : ∀ i, i ≠ ds.length → dg (ds ++ [d]) i = dg ds i := fun i h => dg_snoc_lt ds d i h
  have hr : ds.length % 8 = 0 ∨ ds.length % 8 = 1 ∨ ds.length % 8 = 2 ∨ ds.length % 8 = 3 ∨ ds.length % 8 = 4 ∨ ds.length % 8 = 5 ∨ ds.length % 8 = 6 ∨ ds.length % 8 = 7 := by omega
  unfold byteAt
  rcases hr with h | h | h | h | h | h | h | h <;> rw [h]
  · rw [hs (8 * (ds.length / 8)) (by omega), hd (8 * (ds.length / 8)) (by omega), ho (8 * (ds.length / 8) + 1) (by omega), ho (8 * (ds.length / 8) + 2) (by omega), ho (8 * (ds.length / 8) + 3) (by omega), ho (8 * (ds.length / 8) + 4) (by omega), ho (8 * (ds.length / 8) + 5) (by omega), ho (8 * (ds.length / 8) + 6) (by omega), ho (8 * (ds.length / 8) + 7) (by omega)]; omega
  · rw [ho (8 * (ds.length / 8)) (by omega), hs (8 * (ds.length / 8) + 1) (by omega), hd (8 * (ds.length / 8) + 1) (by omega), ho (8 * (ds.length / 8) + 2) (by omega), ho (8 * (ds.length / 8) + 3) (by omega), ho (8 * (ds.length / 8) + 4) (by omega), ho (8 * (ds.length / 8) + 5) (by omega), ho (8 * (ds.length / 8) + 6) (by omega), ho (8 * (ds.length / 8) + 7) (by omega)]; omega
  · rw [ho (8 * (ds.length / 8)) (by omega), ho (8 * (ds.length / 8) + 1) (by omega), hs (8 * (ds.length / 8) + 2) (by omega), hd (8 * (ds.length / 8) + 2) (by omega), ho (8 * (ds.length / 8) + 3) (by omega), ho (8 * (ds.length / 8) + 4) (by omega), ho (8 * (ds.length / 8) + 5) (by omega), ho (8 * (ds.length / 8) + 6) (by omega), ho (8 * (ds.length / 8) + 7) (by omega)]; omega
  · rw [ho (8 * (ds.length / 8)) (by omega), ho (8 * (ds.length / 8) + 1) (by omega), ho (8 * (ds.length / 8) + 2) (by omega), hs (8 * (ds.length / 8) + 3) (by omega), hd (8 * (ds.length / 8) + 3) (by omega), ho (8 * (ds.length / 8) + 4) (by omega), ho (8 * (ds.length / 8) + 5) (by omega), ho (8 * (ds.length / 8) + 6) (by omega), ho (8 * (ds.length / 8) + 7) (by omega)]; omega
  · rw [ho (8 * (ds.length / 8)) (by omega), ho (8 * (ds.length / 8) + 1) (by omega), ho (8 * (ds.length / 8) + 2) (by omega), ho (8 * (ds.length / 8) + 3) (by omega), hs (8 * (ds.length / 8) + 4) (by omega), hd (8 * (ds.length / 8) + 4) (by omega), ho (8 * (ds.length / 8) + 5) (by omega), ho (8 * (ds.length / 8) + 6) (by omega), ho (8 * (ds.length / 8) + 7) (by omega)]; omega
  · rw [ho (8 * (ds.length / 8)) (by omega), ho (8 * (ds.length / 8) + 1) (by omega), ho (8 * (ds.length / 8) + 2) (by omega), ho (8 * (ds.length / 8) + 3) (by omega), ho (8 * (ds.length / 8) + 4) (by omega), hs (8 * (ds.length / 8) + 5) (by omega), hd (8 * (ds.length / 8) + 5) (by omega), ho (8 * (ds.length / 8) + 6) (by omega), ho (8 * (ds.length / 8) + 7) (by omega)]; omega
  · rw [ho (8 * (ds.length / 8)) (by omega), ho (8 * (ds.length / 8) + 1) (by omega), ho (8 * (ds.length / 8) + 2) (by omega), ho (8 * (ds.length / 8) + 3) (by omega), ho (8 * (ds.length / 8) + 4) (by omega), ho (8 * (ds.length / 8) + 5) (by omega), hs (8 * (ds.length / 8) + 6) (by omega), hd (8 * (ds.length / 8) + 6) (by omega), ho (8 * (ds.length / 8) + 7) (by omega)]; omega
  · rw [ho (8 * (ds.length / 8)) (by omega), ho (8 * (ds.length / 8) + 1) (by omega), ho (8 * (ds.length / 8) + 2) (by omega), ho (8 * (ds.length / 8) + 3) (by omega), ho (8 * (ds.length / 8) + 4) (by omega), ho (8 * (ds.length / 8) + 5) (by omega), ho (8 * (ds.length / 8) + 6) (by omega), hs (8 * (ds.length / 8) + 7) (by omega), hd (8 * (ds.length / 8) + 7) (by omega)]; omega

/-- Behind the last digit of the last byte there are noughts. -/
theorem byteAt_low (ds : List Bool) : byteAt ds (ds.length / 8) % 2 ^ (8 - ds.length % 8) = 0 := by
  have hd : ∀ i, ds.length ≤ i → dg ds i = 0 := fun i h => dg_out ds i h
  have hr : ds.length % 8 = 0 ∨ ds.length % 8 = 1 ∨ ds.length % 8 = 2 ∨ ds.length % 8 = 3 ∨ ds.length % 8 = 4 ∨ ds.length % 8 = 5 ∨ ds.length % 8 = 6 ∨ ds.length % 8 = 7 := by omega
  unfold byteAt
  have h7 := hd (8 * (ds.length / 8) + 7) (by omega)
  rcases hr with h | h | h | h | h | h | h | h <;> rw [h]
  · rw [h7, hd (8 * (ds.length / 8)) (by omega), hd (8 * (ds.length / 8) + 1) (by omega), hd (8 * (ds.length / 8) + 2) (by omega), hd (8 * (ds.length / 8) + 3) (by omega), hd (8 * (ds.length / 8) + 4) (by omega), hd (8 * (ds.length / 8) + 5) (by omega), hd (8 * (ds.length / 8) + 6) (by omega)]
  · rw [h7, hd (8 * (ds.length / 8) + 1) (by omega), hd (8 * (ds.length / 8) + 2) (by omega), hd (8 * (ds.length / 8) + 3) (by omega), hd (8 * (ds.length / 8) + 4) (by omega), hd (8 * (ds.length / 8) + 5) (by omega), hd (8 * (ds.length / 8) + 6) (by omega)]; omega
  · rw [h7, hd (8 * (ds.length / 8) + 2) (by omega), hd (8 * (ds.length / 8) + 3) (by omega), hd (8 * (ds.length / 8) + 4) (by omega), hd (8 * (ds.length / 8) + 5) (by omega), hd (8 * (ds.length / 8) + 6) (by omega)]; omega
  · rw [h7, hd (8 * (ds.length / 8) + 3) (by omega), hd (8 * (ds.length / 8) + 4) (by omega), hd (8 * (ds.length / 8) + 5) (by omega), hd (8 * (ds.length / 8) + 6) (by omega)]; omega
  · rw [h7, hd (8 * (ds.length / 8) + 4) (by omega), hd (8 * (ds.length / 8) + 5) (by omega), hd (8 * (ds.length / 8) + 6) (by omega)]; omega
  · rw [h7, hd (8 * (ds.length / 8) + 5) (by omega), hd (8 * (ds.length / 8) + 6) (by omega)]; omega
  · rw [h7, hd (8 * (ds.length / 8) + 6) (by omega)]; omega
  · rw [h7]; omega

theorem byteAt_or (ds : List Bool) (d : Bool) : bits BinOp.or IntKind.u8 (byteAt ds (ds.length / 8) : Nat) ((d.toNat : Int) * 2 ^ (7 - ds.length % 8) % 256) = (byteAt (ds ++ [d]) (ds.length / 8) : Nat) := by
  have hb := byteAt_lt ds (ds.length / 8)
  have hl := byteAt_low ds
  have hp : 2 ^ (7 - ds.length % 8) ≤ 128 := by
    have : 2 ^ (7 - ds.length % 8) ≤ 2 ^ 7 := Nat.pow_le_pow_right (by decide) (by omega)
    simpa using this
  have hp0 : 0 < 2 ^ (7 - ds.length % 8) := Nat.pow_pos (by decide)
  have hy : d.toNat * 2 ^ (7 - ds.length % 8) ≤ 2 ^ (7 - ds.length % 8) := by cases d <;> simp
  have e : ((d.toNat : Int) * 2 ^ (7 - ds.length % 8) % 256) = ((d.toNat * 2 ^ (7 - ds.length % 8) : Nat) : Int) := by
    have h1 : ((d.toNat : Int) * 2 ^ (7 - ds.length % 8)) = ((d.toNat * 2 ^ (7 - ds.length % 8) : Nat) : Int) := by push_cast; rfl
    rw [h1]; omega
  rw [e, u8_or_nat _ _ hb (by omega), byteAt_snoc]
  congr 1
  have e8 : 8 - ds.length % 8 = (7 - ds.length % 8) + 1 := by omega
  rw [e8, Nat.pow_succ] at hl
  exact nat_join (7 - ds.length % 8 + 1) _ _ (by rw [Nat.pow_succ]; exact hl) (by rw [Nat.pow_succ]; omega)

theorem pack_snoc_new (ds : List Bool) (d : Bool) (h : ds.length % 8 = 0) : pack (ds ++ [d]) = (pack ds ++ [0]).set (ds.length / 8) (byteAt (ds ++ [d]) (ds.length / 8)) := by
  apply List.ext_getElem?
  intro k
  by_cases hk : k < (ds.length + 1 + 7) / 8
  · rw [pack_get _ _ (by simpa using hk), List.getElem?_set]
    by_cases he : ds.length / 8 = k
    · rw [if_pos he, if_pos (by simp; omega)]; rw [he]
    · rw [if_neg he, List.getElem?_append_left (by simp; omega), pack_get _ _ (by omega), byteAt_snoc_other _ _ _ (by omega)]
  · rw [List.getElem?_eq_none (by simp; omega), List.getElem?_eq_none (by simp; omega)]

theorem pack_snoc_room (ds : List Bool) (d : Bool) (h : ds.length % 8 ≠ 0) : pack (ds ++ [d]) = (pack ds).set (ds.length / 8) (byteAt (ds ++ [d]) (ds.length / 8)) := by
  apply List.ext_getElem?
  intro k
  by_cases hk : k < (ds.length + 7) / 8
  · rw [pack_get _ _ (by simp; omega), List.getElem?_set]
    by_cases he : ds.length / 8 = k
    · rw [if_pos he, if_pos (by simp; omega)]; rw [he]
    · rw [if_neg he, pack_get _ _ (by omega), byteAt_snoc_other _ _ _ (by omega)]
  · rw [List.getElem?_eq_none (by simp; omega), List.getElem?_eq_none (by simp; omega)]

theorem byteAt_zero (ds : List Bool) (h : ds.length % 8 = 0) : byteAt ds (ds.length / 8) = 0 := by
  have := byteAt_low ds; rw [h] at this; have := byteAt_lt ds (ds.length / 8); omega

/-- The digits of bytes. -/
def digitOf (x : Nat) (j : Nat) : Bool := x / 2 ^ (7 - j) % 2 == 1
def unpack (l : List Nat) : List Bool := l.flatMap fun x => (List.range 8).map (digitOf x)
@[simp] theorem unpack_nil : unpack [] = [] := rfl
@[simp] theorem unpack_cons (x : Nat) (l : List Nat) : unpack (x :: l) = (List.range 8).map (digitOf x) ++ unpack l := rfl
@[simp] theorem length_unpack (l : List Nat) : (unpack l).length = 8 * l.length := by
  induction l with
  | nil => rfl
  | cons x l ih => simp [ih]; omega
theorem unpack_get : ∀ (l : List Nat) (i : Nat), (unpack l)[i]? = l[i / 8]?.map (digitOf · (i % 8))
  | [], i => by simp
  | x :: l, i => by
    by_cases h : i < 8
    · have e : i / 8 = 0 := by omega
      have e2 : i % 8 = i := by omega
      rw [unpack_cons, List.getElem?_append_left (by simpa using h), e, e2]
      simp [h]
    · have e : i / 8 = (i - 8) / 8 + 1 := by omega
      have e2 : i % 8 = (i - 8) % 8 := by omega
      rw [unpack_cons, List.getElem?_append_right (by simp; omega), e, e2]
      simp [unpack_get l (i - 8)]

theorem digitOf_byteAt (ds : List Bool) (k j : Nat) (hj : j < 8) : digitOf (byteAt ds k) j = ds.getD (8 * k + j) false := by
  have h0 := dg_le ds (8 * k); have h1 := dg_le ds (8 * k + 1); have h2 := dg_le ds (8 * k + 2); have h3 := dg_le ds (8 * k + 3)
  have h4 := dg_le ds (8 * k + 4); have h5 := dg_le ds (8 * k + 5); have h6 := dg_le ds (8 * k + 6); have h7 := dg_le ds (8 * k + 7)
  have e : ds.getD (8 * k + j) false = (dg ds (8 * k + j) == 1) := by unfold dg; cases ds.getD (8 * k + j) false <;> rfl
  rw [e]
  have hr : j = 0 ∨ j = 1 ∨ j = 2 ∨ j = 3 ∨ j = 4 ∨ j = 5 ∨ j = 6 ∨ j = 7 := by omega
  unfold digitOf byteAt
  rcases hr with h | h | h | h | h | h | h | h <;> subst h
  all_goals
    congr 1
    simp only [Nat.add_zero, Nat.sub_zero, Nat.reduceSub, Nat.reducePow]
    omega

/-- What was packed is there again, noughts behind it. -/
theorem unpack_pack (ds : List Bool) : unpack (pack ds) = ds ++ List.replicate ((8 - ds.length % 8) % 8) false := by
  apply List.ext_getElem?
  intro i
  rw [unpack_get]
  by_cases h : i < 8 * ((ds.length + 7) / 8)
  · rw [pack_get _ _ (by omega), Option.map_some, digitOf_byteAt _ _ _ (by omega)]
    have e : 8 * (i / 8) + i % 8 = i := by omega
    rw [e]
    by_cases hi : i < ds.length
    · rw [List.getElem?_append_left hi]; simp [List.getD, hi]
    · rw [List.getElem?_append_right (by omega), List.getElem?_replicate, if_pos (by omega)]
      simp [List.getD, List.getElem?_eq_none (by omega : ds.length ≤ i)]
  · rw [List.getElem?_eq_none (by simp; omega), List.getElem?_eq_none (by simp; omega)]; rfl

/-- The n lowest digits of a number, the greatest first. -/
def dig (v : Int) : Nat → List Bool
  | 0 => []
  | n + 1 => (v / 2 ^ n % 2 == 1) :: dig v n
@[simp] theorem length_dig (v : Int) (n : Nat) : (dig v n).length = n := by induction n with | zero => rfl | succ n ih => simp [dig, ih]

/-- The number of digits. -/
def num (ds : List Bool) : Nat := ds.foldl (fun a d => 2 * a + d.toNat) 0
theorem num_snoc (ds : List Bool) (d : Bool) : num (ds ++ [d]) = 2 * num ds + d.toNat := by simp [num]
@[simp] theorem num_nil : num [] = 0 := rfl

theorem num_lt (ds : List Bool) : num ds < 2 ^ ds.length := by
  suffices ∀ (ds : List Bool) (a m : Nat), a < 2 ^ m → ds.foldl (fun a d => 2 * a + d.toNat) a < 2 ^ (m + ds.length) by
    simpa [num] using this ds 0 0 (by decide)
  intro ds
  induction ds with
  | nil => intro a m h; simpa using h
  | cons d ds ih =>
    intro a m h
    have := ih (2 * a + d.toNat) (m + 1) (by rw [Nat.pow_succ]; cases d <;> simp <;> omega)
    simp only [List.foldl_cons, List.length_cons]
    rw [show m + (ds.length + 1) = m + 1 + ds.length by omega]
    exact this

theorem or_i64 (v : Nat) (d : Bool) (hv : v < 4611686018427387904) : bits BinOp.or IntKind.i64 ((v : Int) * 2) (d.toNat : Int) = (v : Int) * 2 + (d.toNat : Int) := by
  have e : ((v : Int) * 2) = ((v * 2 : Nat) : Int) := by push_cast; rfl
  have hd : d.toNat ≤ 1 := by cases d <;> decide
  rw [e]
  show IntKind.i64.wrap ((BitVec.ofInt 64 ((v * 2 : Nat) : Int) ||| BitVec.ofInt 64 ((d.toNat : Nat) : Int)).toNat : Int) = _
  rw [BitVec.toNat_or, ofInt_u64 (v * 2) (by omega), ofInt_u64 d.toNat (by omega)]
  have hj : v * 2 ||| d.toNat = v * 2 + d.toNat := nat_join 1 _ _ (by simp) (by omega)
  rw [hj]
  have hw : ∀ n : Nat, n < 9223372036854775808 → IntKind.i64.wrap ((n : Nat) : Int) = (n : Int) := by
    intro n hn
    simp [IntKind.wrap, IntKind.bits, IntKind.signed]
    omega
  rw [hw _ (by omega)]
  push_cast; rfl

theorem take_drop_snoc (ds : List Bool) (k j : Nat) (d : Bool) (h : ds[k + j]? = some d) : (ds.drop k).take (j + 1) = (ds.drop k).take j ++ [d] := by
  rw [List.take_add_one, List.getElem?_drop, h]; rfl

theorem pow_pos_int (n : Nat) : (0 : Int) < 2 ^ n := Int.pow_pos (by decide)
theorem pow_cast (n : Nat) : ((2 ^ n : Nat) : Int) = 2 ^ n := by push_cast; rfl

theorem dig_append (v : Int) (n m : Nat) : dig v (n + m) = dig (v / 2 ^ m) n ++ dig v m := by
  induction n with
  | zero => simp [dig]
  | succ n ih =>
    have e : n + 1 + m = (n + m) + 1 := by omega
    rw [e]
    simp only [dig, List.cons_append, ih]
    have e2 : v / 2 ^ (n + m) = v / 2 ^ m / 2 ^ n := by
      rw [Int.ediv_ediv_of_nonneg (Int.le_of_lt (pow_pos_int m)), ← Int.pow_add, Nat.add_comm]
    rw [e2]

theorem foldl_num (ds : List Bool) : ∀ a : Nat, ds.foldl (fun a d => 2 * a + d.toNat) a = a * 2 ^ ds.length + num ds := by
  induction ds with
  | nil => intro a; simp
  | cons d ds ih =>
    intro a
    have h1 := ih (2 * a + d.toNat)
    have h2 := ih (2 * 0 + d.toNat)
    simp only [num, List.foldl_cons, List.length_cons] at *
    rw [h1, h2, Nat.pow_succ, Nat.add_mul, Nat.add_mul]
    have : 2 * a * 2 ^ ds.length = a * (2 ^ ds.length * 2) := by rw [Nat.mul_comm 2 a, Nat.mul_assoc, Nat.mul_comm 2]
    omega
theorem num_cons (d : Bool) (ds : List Bool) : num (d :: ds) = d.toNat * 2 ^ ds.length + num ds := by
  have := foldl_num ds (2 * 0 + d.toNat)
  simp only [num, List.foldl_cons] at *
  simpa using this

theorem mod_pow_succ (v : Int) (n : Nat) : v % 2 ^ (n + 1) = 2 ^ n * (v / 2 ^ n % 2) + v % 2 ^ n := by
  have hp := pow_pos_int n
  have e : v / (2 ^ n * 2) = v / 2 ^ n / 2 := (Int.ediv_ediv_of_nonneg (Int.le_of_lt hp)).symm
  rw [Int.pow_succ, Int.emod_def v (2 ^ n * 2), Int.emod_def (v / 2 ^ n) 2, Int.emod_def v (2 ^ n), e, Int.mul_sub, Int.mul_assoc]
  omega

theorem num_dig (v : Int) (n : Nat) : ((num (dig v n) : Nat) : Int) = v % 2 ^ n := by
  induction n with
  | zero => simp [dig]
  | succ n ih =>
    rw [dig, num_cons, mod_pow_succ, ← ih, length_dig]
    have hb : v / 2 ^ n % 2 = 0 ∨ v / 2 ^ n % 2 = 1 := by omega
    have hc := pow_cast n
    rcases hb with h | h
    · simp [h]
    · simp [h]

end Go.Proofs.YthfeecgpgempdaaDoor.Dg

/- Walks over the small functions of the seat, and over add. -/
namespace Go.Proofs.YthfeecgpgempdaaDoor
set_option linter.unusedVariables false
set_option linter.unusedSimpArgs false
open Go.RowKit Dg

theorem Tryd.info5 : (Tryd.prog.info? 5).map (fun i => (i.zero, i.size, i.bytes)) = some (some (.int .u8 0), 1, 1) := by kernel_rfl

theorem ret_int {k : IntKind} {a b : Int} (h : a = b) : Ending.returned (.int k a) = .returned (.int k b) := by rw [h]

theorem tmod_pos {v n : Int} (h : 0 ≤ v.tmod n) (hn : 1 ≤ n) : v.tmod n = v % n := by
  by_cases hv : 0 ≤ v
  · exact Int.tmod_eq_emod_of_nonneg hv
  · have h1 := Int.tmod_def v n
    have h2 : v.tmod n ≤ 0 := by
      have := Int.tmod_nonneg n (show 0 ≤ -v by omega)
      rw [Int.neg_tmod] at this; omega
    have h3 : v.tmod n = 0 := by omega
    have h4 : v % n = 0 := by
      apply Int.emod_eq_zero_of_dvd
      exact Int.dvd_of_tmod_eq_zero h3
    omega
theorem tmod_neg {v n : Int} (h : v.tmod n < 0) (hn : 1 ≤ n) : v.tmod n + n = v % n := by
  have hv : v < 0 := by
    by_cases hv : 0 ≤ v
    · have := Int.tmod_nonneg n hv; omega
    · omega
  have e := Int.tmod_eq_emod (a := v) (b := n)
  rw [e] at h ⊢
  have h0 : ¬ 0 ≤ v := by omega
  by_cases hd : n ∣ v
  · have := Int.emod_eq_zero_of_dvd hd
    simp [hd] at h
    omega
  · simp [h0, hd]
    omega

set_option maxHeartbeats 400000 in
theorem within_any (v n : Int) (w : World) (hv1 : -9223372036854775808 ≤ v) (hv2 : v ≤ 9223372036854775807) (hn1 : 1 ≤ n) (hn2 : n ≤ 4611686018427387904) :
    Calls Tryd.prog 8 #[.int .i64 v, .int .i64 n] w fun e w' => e = .returned (.int .i64 (v % n)) ∧ w = w' := by
  have hb1 : -n < v.tmod n := by have := Int.lt_tmod_of_pos v (show 0 < n by omega); omega
  have hb2 : v.tmod n < n := Int.tmod_lt_of_pos v (by omega)
  go_enter Tryd.func8, Tryd.ntmps8
  go_wp2
  · go_ret
    exact ⟨ret_int (tmod_neg ‹_› hn1), rfl⟩
  · go_ret
    exact ⟨ret_int (tmod_pos ‹_› hn1), rfl⟩

end Go.Proofs.YthfeecgpgempdaaDoor

/- What a writer is in memory; add, by its contract. -/
namespace Go.Proofs.YthfeecgpgempdaaDoor
set_option linter.unusedVariables false
set_option linter.unusedSimpArgs false
open Go.RowKit Dg

/-- What it lies in. -/
def Wf (b : Nat) (rv : Value) (k : Nat) : Prop := k = b ∨ rv.ownBlock = some k

end Go.Proofs.YthfeecgpgempdaaDoor

/- Writer: Put and Ones. -/
namespace Go.Proofs.YthfeecgpgempdaaDoor
set_option linter.unusedVariables false
set_option linter.unusedSimpArgs false
open Go.RowKit Dg

theorem bit_and (x : Int) (d : Bool) (hd : d = (x % 2 == 1)) : bits BinOp.and IntKind.u8 (x % 256) 1 = (d.toNat : Int) := by
  rw [u8_and (x % 256) 1 (by omega) (by omega) (by decide) (by decide)]
  have e : (x % 256).toNat &&& (1 : Int).toNat = (x % 256).toNat % 2 := nat_mask1 _
  rw [e, hd]
  by_cases h : x % 2 = 1
  · simp [h]; omega
  · have : x % 2 = 0 := by omega
    simp [this]; omega

end Go.Proofs.YthfeecgpgempdaaDoor

/- Bytes that are read: copied, Bytes, Same, NewReader. -/
namespace Go.Proofs.YthfeecgpgempdaaDoor
set_option linter.unusedVariables false
set_option linter.unusedSimpArgs false
open Go.RowKit Dg

/-- A slice of bytes that can be read. -/
def SlAt (w : World) (v : Value) (l : List Nat) : Prop :=
  ∃ ao cap, v = .slice ao l.length cap ∧ ∀ j x, l[j]? = some x → ∃ b off, ao = some ⟨b, off, none⟩ ∧ w.cell? ⟨b, off + j, none⟩ = some (.int .u8 ((x : Nat) : Int))

theorem SlAt.kept {w w' : World} {v : Value} {l : List Nat} {F : Nat → Prop} (h : SlAt w v l) (hk : Kept F w w') (hF : ∀ k, v.ownBlock = some k → ¬ F k) : SlAt w' v l := by
  obtain ⟨ao, cap, rfl, hc⟩ := h
  refine ⟨ao, cap, rfl, fun j x hx => ?_⟩
  obtain ⟨b, off, rfl, hcell⟩ := hc j x hx
  refine ⟨b, off, rfl, ?_⟩
  rw [hk.cell (World.block_lt_of_cell? w _ hcell) (hF b rfl)]
  exact hcell

theorem SlAt.nil (w : World) : SlAt w (.slice none 0 0) [] := ⟨none, 0, rfl, fun j x hx => by simp at hx⟩

theorem SlAt.of_owns {w : World} {base : Nat} {v : Value} {n : Nat} {l : List Nat} (h : w.ownsRow base 5 1 v n (u8s l)) : SlAt w v l := by
  have hl : l.length = n := by have := h.1; simpa using this
  rcases h.2 with ⟨rfl, rfl⟩ | ⟨g, cap, cur, rfl, hb, hh, hn, _, hcs, htake⟩
  · have : l = [] := List.eq_nil_of_length_eq_zero hl
    subst this
    exact SlAt.nil w
  · refine ⟨some ⟨g, 0, none⟩, cap, by rw [hl], fun j x hx => ⟨g, 0, rfl, ?_⟩⟩
    have hj : j < l.length := (List.getElem?_eq_some_iff.1 hx).1
    have e : (u8s l)[j]? = some (.int .u8 ((x : Nat) : Int)) := by rw [u8s_get, hx]; rfl
    rw [← htake, List.getElem?_take, if_pos (by omega)] at e
    simp only [World.cell?, hh]
    simpa using e

end Go.Proofs.YthfeecgpgempdaaDoor

/- Bytes; the reader: NewReader, digit, Left, Get. -/
namespace Go.Proofs.YthfeecgpgempdaaDoor
set_option linter.unusedVariables false
set_option linter.unusedSimpArgs false
open Go.RowKit Dg

/-- New bytes: where they lie, what they are; nothing old has turned. -/
def NewBytes (w w' : World) (l : List Nat) : Prop :=
  w'.ownsRow w.heap.size 5 1 (.slice (some ⟨w.heap.size, 0, none⟩) l.length l.length) l.length (u8s l) ∧ Below w.heap.size w w'

theorem Kept.of_below {F : Nat → Prop} {w w' : World} (h : Below w.heap.size w w') : Kept F w w' := ⟨h.os, h.tape, h.output, h.size, fun k hk _ => h.block k hk⟩

theorem bit_of (x j : Nat) (d : Bool) (hx : x < 256) (hd : digitOf x j = d) : bits BinOp.and IntKind.u8 ((x : Int) / 2 ^ (7 - j)) 1 = (d.toNat : Int) := by
  have e : (x : Int) / 2 ^ (7 - j) = ((x / 2 ^ (7 - j) : Nat) : Int) := by push_cast; rfl
  have hlt : x / 2 ^ (7 - j) < 256 := Nat.lt_of_le_of_lt (Nat.div_le_self _ _) hx
  rw [e]
  have e1 : (1 : Int) = ((1 : Nat) : Int) := rfl
  rw [e1, u8_and_nat _ _ hlt (by decide), nat_mask1, ← hd]
  unfold digitOf
  have h2 : x / 2 ^ (7 - j) % 2 = 0 ∨ x / 2 ^ (7 - j) % 2 = 1 := by omega
  rcases h2 with h | h <;> simp [h]

end Go.Proofs.YthfeecgpgempdaaDoor

/- The reader: Get. -/
namespace Go.Proofs.YthfeecgpgempdaaDoor
set_option linter.unusedVariables false
set_option linter.unusedSimpArgs false
open Go.RowKit Dg

theorem getElem?_drop_head (ds : List Bool) (k : Nat) (h : k < ds.length) : ∃ d, ds[k]? = some d := ⟨ds[k], by simp [h]⟩

end Go.Proofs.YthfeecgpgempdaaDoor

/- Same at like bytes; the document's example. -/
namespace Go.Proofs.YthfeecgpgempdaaDoor
set_option linter.unusedVariables false
set_option linter.unusedSimpArgs false
open Go.RowKit Dg

/-- A change of a writer that lies from B on turns nothing below B. -/
theorem Kept.below_of {F : Nat → Prop} {B : Nat} {w0 w w' : World} (hk : Kept F w w') (h0 : Below B w0 w) (hF : ∀ k, F k → B ≤ k) (hB : B ≤ w.heap.size) : Below B w0 w' :=
  h0.trans ⟨hk.os, hk.tape, hk.output, hk.size, fun k hk' => hk.block k (by omega) (fun hf => by have := hF k hf; omega)⟩

theorem below_drewN {B : Nat} {w0 w : World} (h : Below B w0 w) (n : Nat) : Below B w0 (w.drewN n) := ⟨h.os, h.tape, h.output, h.size, h.block⟩

theorem wakes_l {w2 w3 : World} {l : List Nat} (h : NewBytes w2 w3 l) (o : Obj) : SlAt (w3.alloc o) (.slice (some ⟨w2.heap.size, 0, none⟩) l.length l.length) l :=
  SlAt.of_owns (h.1.alloc o)
theorem wakes_r (w3 : World) (l : List Nat) (h : l = [80]) : SlAt (w3.alloc (.cells #[.int .u8 80] 5)) (.slice (some ⟨w3.heap.size, 0, none⟩) 1 1) l := by
  subst h
  refine ⟨some ⟨w3.heap.size, 0, none⟩, 1, rfl, fun j x hx => ⟨w3.heap.size, 0, rfl, ?_⟩⟩
  match j, hx with
  | 0, hx => simp at hx; subst hx; simp

end Go.Proofs.YthfeecgpgempdaaDoor

/- The contracts once more, over numbers as a walk spells them. -/
namespace Go.Proofs.YthfeecgpgempdaaDoor
set_option linter.unusedVariables false
set_option linter.unusedSimpArgs false
open Go.RowKit Dg

theorem within_nat (v : Int) (n : Nat) (w : World) (hv1 : -9223372036854775808 ≤ v) (hv2 : v ≤ 9223372036854775807) (hn1 : 1 ≤ n) (hn2 : n ≤ 4611686018427387904) (I : Int) (hI : I = (n : Int)) :
    Calls Tryd.prog 8 #[.int .i64 v, .int .i64 I] w fun e w' => ∃ k : Nat, e = .returned (.int .i64 (k : Int)) ∧ k < n ∧ (k : Int) = v % n ∧ w = w' := by
  subst hI
  refine (within_any v n w hv1 hv2 (by omega) (by omega)).mono ?_
  rintro e w' ⟨rfl, rfl⟩
  refine ⟨(v % n).toNat, ?_, ?_, ?_, rfl⟩
  · have : 0 ≤ v % (n : Int) := Int.emod_nonneg _ (by omega)
    exact ret_int (by omega)
  · have : v % (n : Int) < n := Int.emod_lt_of_pos _ (by omega)
    omega
  · have : 0 ≤ v % (n : Int) := Int.emod_nonneg _ (by omega)
    omega

theorem wrap64_pow (k : Nat) (hk : k ≤ 62) : wrap64 (2 ^ k) = ((2 ^ k : Nat) : Int) := by
  have h1 : 2 ^ k ≤ 2 ^ 62 := Nat.pow_le_pow_right (by decide) hk
  have h2 : (2 : Nat) ^ 62 = 4611686018427387904 := by decide
  rw [← pow_cast k]
  generalize 2 ^ k = P at h1 ⊢
  unfold wrap64
  omega

theorem Wf_nil {b k : Nat} (h : Wf b (.slice none 0 0) k) : k = b := by
  rcases h with h | h
  · exact h
  · simp [Value.ownBlock] at h

/-- What is read of digits that were written. -/
theorem taken (ds es fs : List Bool) (h : ds = es ++ fs) (k n : Nat) (hk : k = es.length) (hn : n ≤ fs.length) : ((unpack (pack ds)).drop k).take n = fs.take n := by
  rw [unpack_pack, h, hk, List.append_assoc, List.drop_left, List.take_append_of_le_length hn]

theorem and_mask (v m : Nat) (hv : v < 4611686018427387904) (hm : m ≤ 31) : bits BinOp.and IntKind.i64 (v : Int) (2 ^ m - 1) = ((v % 2 ^ m : Nat) : Int) := by
  have hp : 2 ^ m ≤ 2 ^ 31 := Nat.pow_le_pow_right (by decide) hm
  have hp2 : (2 : Nat) ^ 31 = 2147483648 := by decide
  have hp0 : 0 < 2 ^ m := Nat.pow_pos (by decide)
  have e : ((2 : Int) ^ m - 1) = ((2 ^ m - 1 : Nat) : Int) := by rw [← pow_cast]; omega
  rw [e]
  show IntKind.i64.wrap ((BitVec.ofInt 64 ((v : Nat) : Int) &&& BitVec.ofInt 64 ((2 ^ m - 1 : Nat) : Int)).toNat : Int) = _
  rw [BitVec.toNat_and, ofInt_u64 v (by omega), ofInt_u64 (2 ^ m - 1) (by omega), Nat.and_two_pow_sub_one_eq_mod]
  have hlt : v % 2 ^ m < 2 ^ m := Nat.mod_lt _ hp0
  have hw : ∀ n : Nat, n < 9223372036854775808 → IntKind.i64.wrap ((n : Nat) : Int) = (n : Int) := by
    intro n hn
    simp [IntKind.wrap, IntKind.bits, IntKind.signed]
    omega
  exact hw _ (by omega)

theorem and_mask' (v m : Nat) (hv : v < 4611686018427387904) (hm : m ≤ 31) : bits BinOp.and IntKind.i64 (v : Int) (wrap64 (wrap64 (2 ^ m) - 1)) = (v : Int) % 2 ^ m := by
  have hp : 2 ^ m ≤ 2 ^ 31 := Nat.pow_le_pow_right (by decide) hm
  have hp2 : (2 : Nat) ^ 31 = 2147483648 := by decide
  have e : wrap64 (wrap64 (2 ^ m) - 1) = (2 : Int) ^ m - 1 := by
    rw [wrap64_pow m (by omega), ← pow_cast]
    generalize 2 ^ m = P at hp ⊢
    unfold wrap64
    omega
  rw [e, and_mask v m hv hm]
  push_cast; rfl

theorem SlAt.below {w w' : World} {v : Value} {l : List Nat} (h : SlAt w v l) (hb : Below w.heap.size w w') : SlAt w' v l :=
  h.kept (F := fun _ => False) (Kept.of_below hb) (fun _ _ h => h)
end Go.Proofs.YthfeecgpgempdaaDoor

/- The reader: Ones and Rest. -/
namespace Go.Proofs.YthfeecgpgempdaaDoor
set_option linter.unusedVariables false
set_option linter.unusedSimpArgs false
open Go.RowKit Dg

end Go.Proofs.YthfeecgpgempdaaDoor

/- A slice of bytes that came in, as the walks want it; Cut. -/
namespace Go.Proofs.YthfeecgpgempdaaDoor
set_option linter.unusedVariables false
set_option linter.unusedSimpArgs false
open Go.RowKit Dg

/-- A slice of integers that came in: it is nil; or it leads to a row of 'cap' cells, the numbers 'zs' (the first 'len' are its elements, the rest its spare room), each fitting its kind. -/
def IsRow (k : IntKind) (w : World) (a : Option Addr) (len cap : Nat) (zs : List Int) : Prop :=
  (a = none ∧ len = 0 ∧ cap = 0 ∧ zs = []) ∨
  ∃ x, a = some x ∧ len ≤ cap ∧ cap ≤ maxLen ∧ zs.length = cap ∧ (∀ i, i < zs.length → w.cell? (x.add i) = some (.int k (zs.getD i 0))) ∧ ∀ n ∈ zs, (Lit.int k n).wf = true

theorem spot_of_cell {w : World} {a : Addr} {v : Value} (h : w.cell? a = some v) : a.spot = none := by
  unfold World.cell? at h
  split at h
  · split at h
    · cases h
    · rename_i hs; simpa using hs
  · cases h

theorem wf_u8 {x : Int} (h : (Lit.int .u8 x).wf = true) : 0 ≤ x ∧ x < 256 := by
  simp [Lit.wf, IntKind.min, IntKind.max, IntKind.signed, IntKind.bits] at h
  omega

/-- Its bytes. -/
theorem IsRow.bytes {w : World} {a : Option Addr} {len cap : Nat} {zs : List Int} (h : IsRow .u8 w a len cap zs) :
    ∃ l : List Nat, l.length = len ∧ (∀ x ∈ l, x < 256) ∧ ∀ n, n ≤ len → SlAt w (.slice a n cap) (l.take n) := by
  rcases h with ⟨rfl, rfl, rfl, rfl⟩ | ⟨x, rfl, hle, hm, hz, hc, hwf⟩
  · exact ⟨[], rfl, fun x hx => by simp at hx, fun n hn => by have : n = 0 := by omega
                                                              subst this; exact SlAt.nil w⟩
  · refine ⟨(zs.take len).map Int.toNat, by simp; omega, ?_, ?_⟩
    · intro y hy
      simp only [List.mem_map] at hy
      obtain ⟨z, hz1, rfl⟩ := hy
      have := wf_u8 (hwf z (List.mem_of_mem_take hz1))
      omega
    · intro n hn
      refine ⟨some x, cap, by simp; omega, fun j y hy => ?_⟩
      have hj : j < n := by have := (List.getElem?_eq_some_iff.1 hy).1; simp at this; omega
      have hj2 : j < zs.length := by omega
      have hcell := hc j hj2
      have hsp := spot_of_cell (hc 0 (by omega))
      have hx : x = ⟨x.block, x.off, none⟩ := by
        obtain ⟨b, o, s⟩ := x
        cases s with
        | none => rfl
        | some s => simp [Addr.add] at hsp
      refine ⟨x.block, x.off, by rw [← hx], ?_⟩
      rw [hx] at hcell
      have hadd : (⟨x.block, x.off, none⟩ : Addr).add j = ⟨x.block, x.off + j, none⟩ := by simp [Addr.add]
      rw [hadd] at hcell
      have hyv : y = (zs.getD j 0).toNat := by
        simp [List.getElem?_take, hj, hj2, show j < len by omega] at hy
        simp [List.getD, hj2, hy]
      have hw := wf_u8 (hwf (zs.getD j 0) (by simp [List.getD, hj2]))
      rw [hyv, hcell]
      congr 2
      omega

end Go.Proofs.YthfeecgpgempdaaDoor

/- The end of a law's row: nothing that was there has turned. -/
namespace Go.Proofs.YthfeecgpgempdaaDoor
set_option linter.unusedVariables false
set_option linter.unusedSimpArgs false
open Go.ChangeShapes Go.WideShapes Go.ChangeAt Go.RowKit

theorem Tryd.own : ownKnob Tryd.prog.godebug = none := by kernel_rfl
theorem Tryd.laidOut : laidOutB Tryd.prog = true := by kernel_rfl

theorem post_below {H : Type} {enc : TypeId × Value → H} {P : Program} {f : Func} {s : ChangeSpec} {W W' : World} {args : Array Value} {v : Value} {ds gs : List (DataW H)} {before pa pv : List MemPlace}
    (hW : DataW.Whole enc P f.params.toList s.vars false W args.toList ds gs before)
    (hres : ∀ (b : Nat) (sp : Nat → Bool) (hd : Bool), DataW.TrodAll enc P W' b sp hd f.resultTypes.toList (v.resultList f.resultTypes.size) (s.fn H (ds ++ gs)).results [])
    (hargs : DataW.TrodAll enc P W' 0 (fun b => decide (b < W.heap.size)) true f.params.toList args.toList (s.fn H (ds ++ gs)).args pa)
    (hvars : DataW.TrodVars enc P W' (fun b => decide (b < W.heap.size)) s.vars (s.fn H (ds ++ gs)).vars pv)
    (hk : Below W.heap.size W W') :
    s.post enc P f false true false false W args v W' :=
  ⟨ds, gs, before, [], pa, pv, hW, hres _ _ _, hargs, hvars, hk.frame _, fun h => by cases h⟩

theorem wf_i64 {x : Int} (h : (Lit.int .i64 x).wf = true) : -9223372036854775808 ≤ x ∧ x ≤ 9223372036854775807 := by
  simp [Lit.wf, IntKind.min, IntKind.max, IntKind.signed, IntKind.bits] at h
  omega

end Go.Proofs.YthfeecgpgempdaaDoor

/- A slice of calls that came in, as the walks want it. -/
namespace Go.Proofs.YthfeecgpgempdaaDoor
set_option linter.unusedVariables false
set_option linter.unusedSimpArgs false
open Go.ChangeShapes Go.WideShapes Go.ChangeAt Go.RowKit Go.Deep

theorem Tryd.cells3 : Tryd.prog.cellsOf 3 = 1 := by kernel_rfl

/-- An int. -/
def I64 (x : Int) : Prop := -9223372036854775808 ≤ x ∧ x ≤ 9223372036854775807

/-- Calls that can be read: what is in the three fields of each. -/
def ActsAt (w : World) (a : Option Addr) (len : Nat) (f : Nat → Int × Int × Int) : Prop :=
  ∀ i, i < len → ∃ b off, a = some ⟨b, off, none⟩ ∧ b < w.heap.size ∧ w.cell? ⟨b, off + i * 3, none⟩ = some (.int .i64 (f i).1) ∧ w.cell? ⟨b, off + i * 3 + 1, none⟩ = some (.int .i64 (f i).2.1) ∧ w.cell? ⟨b, off + i * 3 + 2, none⟩ = some (.int .i64 (f i).2.2) ∧
    I64 (f i).1 ∧ I64 (f i).2.1 ∧ I64 (f i).2.2

theorem ActsAt.below {w w' : World} {a : Option Addr} {len : Nat} {f : Nat → Int × Int × Int} (h : ActsAt w a len f) (hb : Below w.heap.size w w') : ActsAt w' a len f := by
  intro i hi
  obtain ⟨b, off, e, hl, h0, h1, h2, r⟩ := h i hi
  exact ⟨b, off, e, Nat.lt_of_lt_of_le hl hb.size, by rw [hb.cell (p := ⟨b, _, none⟩) hl]; exact h0, by rw [hb.cell (p := ⟨b, _, none⟩) hl]; exact h1, by rw [hb.cell (p := ⟨b, _, none⟩) hl]; exact h2, r⟩

theorem cells3_of {w : World} {base : Nat} {a : Addr} {cs : List Value} (h : w.cells? base a 3 = some cs) : ∃ x y z, cs = [x, y, z] ∧ w.cell? a = some x ∧ w.cell? (a.add 1) = some y ∧ w.cell? (a.add 2) = some z := by
  unfold World.cells? at h
  split at h
  · have e : List.range 3 = [0, 1, 2] := by decide
    rw [e] at h
    simp only [List.mapM_cons, List.mapM_nil, Option.bind_eq_bind, Option.pure_def] at h
    have e0 : a.add 0 = a := by simp [Addr.add]
    rw [e0] at h
    cases h0 : w.cell? a with
    | none => simp [h0] at h
    | some x =>
      cases h1 : w.cell? (a.add 1) with
      | none => simp [h0, h1] at h
      | some y =>
        cases h2 : w.cell? (a.add 2) with
        | none => simp [h0, h1, h2] at h
        | some z =>
          simp [h0, h1, h2] at h
          exact ⟨x, y, z, h.symm, rfl, rfl, rfl⟩
  · cases h

end Go.Proofs.YthfeecgpgempdaaDoor

/- Numbers in a row that can be read; rows of numbers of the call's own; Copy and Cut of numbers. -/
namespace Go.Proofs.YthfeecgpgempdaaDoor
set_option linter.unusedVariables false
set_option linter.unusedSimpArgs false
open Go.RowKit Dg

/-- Numbers that can be read. -/
def IntsAt (w : World) (a : Option Addr) (l : List Int) : Prop :=
  ∀ j x, l[j]? = some x → ∃ b off, a = some ⟨b, off, none⟩ ∧ w.cell? ⟨b, off + j, none⟩ = some (.int .i64 x)
theorem IntsAt.below {w w' : World} {a : Option Addr} {l : List Int} {B : Nat} (h : IntsAt w a l) (hb : Below B w w') (hB : ∀ x, a = some x → x.block < B) : IntsAt w' a l := by
  intro j x hx
  obtain ⟨b, off, rfl, hc⟩ := h j x hx
  refine ⟨b, off, rfl, ?_⟩
  rw [hb.cell (p := ⟨b, off + j, none⟩) (hB ⟨b, off, none⟩ rfl)]
  exact hc
theorem IntsAt.kept {w w' : World} {a : Option Addr} {l : List Int} {F : Nat → Prop} (h : IntsAt w a l) (hk : Kept F w w') (hF : ∀ x, a = some x → ¬ F x.block) : IntsAt w' a l := by
  intro j x hx
  obtain ⟨b, off, rfl, hc⟩ := h j x hx
  refine ⟨b, off, rfl, ?_⟩
  rw [hk.cell (World.block_lt_of_cell? w _ hc) (hF ⟨b, off, none⟩ rfl)]
  exact hc
theorem IntsAt.take {w : World} {a : Option Addr} {l : List Int} (h : IntsAt w a l) (n : Nat) : IntsAt w a (l.take n) := by
  intro j x hx
  refine h j x ?_
  rw [List.getElem?_take] at hx
  split at hx
  · exact hx
  · cases hx
theorem IntsAt.nil (w : World) (a : Option Addr) : IntsAt w a [] := fun j x hx => by simp at hx
/-- Numbers as values. -/
def i64s (l : List Int) : List Value := l.map fun x : Int => Value.int .i64 x
@[simp] theorem length_i64s (l : List Int) : (i64s l).length = l.length := by simp [i64s]
theorem i64s_get (l : List Int) (k : Nat) : (i64s l)[k]? = l[k]?.map fun x : Int => Value.int .i64 x := by simp [i64s]
theorem IntsAt.of_owns {w : World} {base : Nat} {a : Option Addr} {n m cap : Nat} {l : List Int} (h : w.ownsRow base 3 1 (.slice a m cap) n (i64s l)) : IntsAt w a l := by
  have hl : l.length = n := by have := h.1; simpa using this
  rcases h.2 with ⟨e, rfl⟩ | ⟨g, cap, cur, e, hb, hh, hn, _, hcs, htake⟩
  · have : l = [] := List.eq_nil_of_length_eq_zero hl
    subst this
    exact IntsAt.nil w a
  · cases e
    intro j x hx
    refine ⟨g, 0, rfl, ?_⟩
    have hj : j < l.length := (List.getElem?_eq_some_iff.1 hx).1
    have e : (i64s l)[j]? = some (.int .i64 x) := by rw [i64s_get, hx]; rfl
    rw [← htake, List.getElem?_take, if_pos (by omega)] at e
    simp only [World.cell?, hh]
    simpa using e
/-- The numbers of a slice that came in. -/
theorem IsRow.ints {w : World} {a : Option Addr} {len cap : Nat} {zs : List Int} (h : IsRow .i64 w a len cap zs) :
    ∃ l : List Int, l.length = len ∧ (∀ x ∈ l, I64 x) ∧ IntsAt w a l ∧ len ≤ cap ∧ cap ≤ maxLen ∧ (a = none → len = 0 ∧ cap = 0) ∧ ∀ x, a = some x → 0 < len → x.block < w.heap.size := by
  rcases h with ⟨rfl, rfl, rfl, rfl⟩ | ⟨x, rfl, hle, hm, hz, hc, hwf⟩
  · exact ⟨[], rfl, fun x hx => by simp at hx, IntsAt.nil w _, Nat.le_refl _, by decide, fun _ => ⟨rfl, rfl⟩, fun x hx => by cases hx⟩
  · have hsp : 0 < zs.length → x.spot = none := fun h0 => by
      have := spot_of_cell (hc 0 h0)
      simpa [Addr.add] using this
    refine ⟨zs.take len, by simp; omega, fun y hy => wf_i64 (hwf y (List.mem_of_mem_take hy)), ?_, hle, hm, (fun e => by cases e), ?_⟩
    · intro j y hy
      have hj : j < (zs.take len).length := (List.getElem?_eq_some_iff.1 hy).1
      simp at hj
      have hj2 : j < zs.length := by omega
      obtain ⟨b, off, s⟩ := x
      have hs := hsp (by omega)
      simp at hs
      subst hs
      refine ⟨b, off, rfl, ?_⟩
      have hcell := hc j hj2
      have hadd : (⟨b, off, none⟩ : Addr).add j = ⟨b, off + j, none⟩ := by simp [Addr.add]
      rw [hadd] at hcell
      rw [hcell]
      rw [List.getElem?_take, if_pos (by omega)] at hy
      simp [List.getD, hy]
    · intro y hy h0
      cases hy
      have hcell := hc 0 (by omega)
      exact World.block_lt_of_cell? w _ hcell
theorem Tryd.info3 : (Tryd.prog.info? 3).map (fun i => (i.zero, i.size, i.bytes)) = some (some (.int .i64 0), 1, 8) := by kernel_rfl
/-- A row of numbers of the call's own. -/
def OwnInts (w : World) (base : Nat) (v : Value) (l : List Int) : Prop := w.ownsRow base 3 1 v l.length (i64s l)
theorem OwnInts.nil (w : World) (base : Nat) : OwnInts w base (.slice none 0 0) [] := World.ownsRow_nil _ _ _ _
theorem OwnInts.slice {w : World} {base : Nat} {v : Value} {l : List Int} (h : OwnInts w base v l) : ∃ a cap, v = .slice a l.length cap ∧ IntsAt w a l ∧ (a = none ∧ l = [] ∧ cap = 0 ∨ ∃ g, a = some ⟨g, 0, none⟩ ∧ base ≤ g ∧ g < w.heap.size) := by
  have h' := h
  rcases h.2 with ⟨rfl, hn⟩ | ⟨g, cap, cur, rfl, hb, hh, hn, _, hcs, htake⟩
  · have : l = [] := List.eq_nil_of_length_eq_zero hn
    subst this
    exact ⟨none, 0, rfl, IntsAt.nil w _, .inl ⟨rfl, rfl, rfl⟩⟩
  · exact ⟨some ⟨g, 0, none⟩, cap, rfl, IntsAt.of_owns h, .inr ⟨g, rfl, hb, (Array.getElem?_eq_some_iff.1 hh).1⟩⟩
theorem OwnInts.below {w w' : World} {base B : Nat} {v : Value} {l : List Int} (h : OwnInts w base v l) (hb : Below B w w') (hB : ∀ k, v.ownBlock = some k → k < B) : OwnInts w' base v l := by
  refine ⟨h.1, ?_⟩
  rcases h.2 with hn | ⟨g, cap, cur, rfl, hg, hh, r⟩
  · exact .inl hn
  · exact .inr ⟨g, cap, cur, rfl, hg, by rw [hb.block g (hB g rfl)]; exact hh, r⟩
/-- 'append(z, n)' of one number that was just built. -/
theorem wpList_append_int {P : Program} (w0 : World) {ops : Array Oper} {rest : List Oper} {o : Oper} {a : Act} {Q : Exit → Act → World → Prop}
    (hgd : o.guard = none) (s x : Operand) (t : TypeId) (ho : o.op = .call { callee := .builtin .append, args := #[s, x], argTypes := #[t, t] })
    (base : Nat) (i : TypeInfo) (ht : P.underlying t = some (.slice 3)) (hi : P.info? 3 = some i) (hz : i.zero = some (.int .i64 0)) (hsize : i.size = 1) (hby : i.bytes = 8)
    (v : Value) (l : List Int) (hs : a.eval s = v) (hown : OwnInts w0 base v l) (y : Int) (hx : a.eval x = .slice (some ⟨w0.heap.size, 0, none⟩) 1 1)
    (hl : l.length ≤ 1000000) (hbase : base ≤ w0.heap.size)
    (h : ∀ v' w', Hid (OwnInts w' base v' (l ++ [y])) → Hid (Below base w0 w') → wpList P ops Q rest (a.put o.dst v') w') : wpList P ops Q (o :: rest) a (w0.alloc (.cells #[.int .i64 y] 3)) := by
  refine wpList_append_mine _ hgd s x t ho base 3 i (.int .i64 0) 1 8 ht hi hz hsize hby rfl (by decide) v l.length (i64s l) hs (World.ownsRow.alloc hown _) ⟨w0.heap.size, 0, none⟩ 1 1 [.int .i64 y] hx rfl ?c1 ?c2 (by decide) ?b1 ?b2 ?b3 ?_
  case c1 => intro j u hj; match j, hj with | 0, hj => simp at hj; subst hj; simp [Addr.add]
  case c2 => intro u hu; simp at hu; subst hu; rfl
  case b1 => unfold maxLen; omega
  case b2 => omega
  case b3 => simp; omega
  intro g cap w' H1 HG HN
  refine h _ w' ?_ ?_
  · show World.ownsRow _ _ _ _ _ _ _
    have := H1.out
    simpa [i64s] using this
  · exact ((Below.refl base w0).alloc hbase _).grown HG.out (by simp; omega) (fun k hk => (World.ownsRow.lt hown k hk).1)
set_option maxHeartbeats 1000000 in
theorem copyInt_any (w : World) (a : Option Addr) (cap : Nat) (l : List Int) (h : IntsAt w a l) (hl : l.length ≤ 1000000) (h0 : a = none ∧ l = [] ∧ cap = 0 ∨ ∃ g, a = some ⟨g, 0, none⟩) :
    Calls Tryd.prog 21 #[.slice a l.length cap] w fun e w' => ∃ v, e = .returned v ∧ OwnInts w' w.heap.size v l ∧ Below w.heap.size w w' := by
  obtain ⟨i0, hi, hz0, hz1, hz2⟩ := info_parts Tryd.info3
  have HI : Hid (IntsAt w a l) := h
  clear h
  rcases h0 with ⟨rfl, rfl, rfl⟩ | ⟨g, rfl⟩
  · go_enter Tryd.func21, Tryd.ntmps21
    go_wp2_with (at_builtin; go_must (refine wpList_append_own_none rfl _ (.tmp 3) 30 rfl w.heap.size 3 i0 1 Tryd.underlying30 hi (.slice none 0 0) 0 [] rfl (World.ownsRow_nil _ _ _ _) rfl ?_))
    go_ret
    exact ⟨_, rfl, OwnInts.nil _ _, Below.refl _ _⟩
  · go_enter Tryd.func21, Tryd.ntmps21
    go_wp2_with (at_builtin; go_must (refine wpList_append_own _ rfl _ (.tmp 3) 30 rfl w.heap.size 3 i0 (.int .i64 0) 1 8 Tryd.underlying30 hi hz0 hz1 hz2 rfl (by decide) (.slice none 0 0) 0 [] rfl (World.ownsRow_nil _ _ _ _) ⟨g, 0, none⟩ l.length cap (i64s l) rfl (by simp) ?c1 ?c2 ?b1 ?b2 (Nat.le_refl _) ?_))
    case c1 =>
      intro j u hu
      rw [i64s_get] at hu
      obtain ⟨x, hx, rfl⟩ := Option.map_eq_some_iff.1 hu
      obtain ⟨b, off, e, hc⟩ := HI.out j x hx
      cases e
      have hadd : (⟨g, 0, none⟩ : Addr).add j = ⟨g, 0 + j, none⟩ := by simp [Addr.add]; omega
      rw [hadd]
      exact hc
    case c2 => intro u hu; simp [i64s] at hu; obtain ⟨x, _, rfl⟩ := hu; rfl
    case b1 => unfold maxLen; omega
    case b2 => omega
    intro v' w' ho' hg' _
    have H1 : Hid (OwnInts w' w.heap.size v' l) := by show World.ownsRow _ _ _ _ _ _ _; simpa using ho'
    have H2 : Hid (Below w.heap.size w w') := (Below.refl _ _).grown hg' (Nat.le_refl _) (fun k hk => by cases hk)
    clear ho' hg'
    go_wp2
    go_ret
    exact ⟨_, rfl, H1.out, H2.out⟩
theorem cutInt_any (w : World) (a : Option Addr) (len cap n : Nat) (hn : n ≤ 4096) (hle : len ≤ cap) (hm : cap ≤ maxLen) (h0 : a = none → len = 0 ∧ cap = 0) :
    Calls Tryd.prog 38 #[.slice a len cap, .int .i64 n] w fun e w' => e = .returned (.slice a (min len n) cap) ∧ w = w' := by
  unfold maxLen at hm
  go_enter Tryd.func38, Tryd.ntmps38
  go_wp2
  · go_ret
    exact ⟨by rw [Nat.min_eq_right (by omega)]; rfl, rfl⟩
  · go_ret
    exact ⟨by rw [Nat.min_eq_left (by omega)]; rfl, rfl⟩

end Go.Proofs.YthfeecgpgempdaaDoor
