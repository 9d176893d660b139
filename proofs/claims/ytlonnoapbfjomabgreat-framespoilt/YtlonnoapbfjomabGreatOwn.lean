/- Rows of bytes of the call's own: cells, parts, copies; a cut slice of bytes. -/
import Derived.Test.YtlonnoapbfjomabGreatRef5
import Derived.Test.YtlonnoapbfjomabGreatRow
import Derived.Laws.AppendOwnNone
import Derived.Laws.IdiomStrings
import Derived.Lib.AppendZeros
namespace Go.Proofs.YtlonnoapbfjomabGreat
set_option linter.unusedVariables false
set_option linter.unusedSimpArgs false
open Go.RowKit Dg

/-- What a cut slice of bytes is. -/
theorem cut_row {w : World} {a : Option Addr} {len cap n : Nat} {zs : List Int} (hr : IsRow .u8 w a len cap zs) :
    ∃ l : List Nat, l.length = min len n ∧ (∀ x ∈ l, x < 256) ∧ SlAt w (.slice a (min len n) cap) l ∧ len ≤ cap ∧ cap ≤ maxLen ∧ (a = none → len = 0 ∧ cap = 0) := by
  obtain ⟨l0, hl0, hl256, hsl⟩ := hr.bytes
  have hcut : len ≤ cap ∧ cap ≤ maxLen ∧ (a = none → len = 0 ∧ cap = 0) := by
    rcases hr with ⟨rfl, rfl, rfl, rfl⟩ | ⟨x, rfl, hle, hm, hz, hc, hwf⟩
    · exact ⟨Nat.le_refl _, by decide, fun _ => ⟨rfl, rfl⟩⟩
    · exact ⟨hle, hm, fun h => by cases h⟩
  exact ⟨l0.take (min len n), by simp; omega, fun x hx => hl256 x (List.mem_of_mem_take hx), hsl _ (by omega), hcut⟩
theorem SlAt.lt {w : World} {v : Value} {l : List Nat} (h : SlAt w v l) (hne : l ≠ []) : ∀ k, v.ownBlock = some k → k < w.heap.size := by
  obtain ⟨a1, c1, rfl, hc1⟩ := h
  have hpos : 0 < l.length := List.length_pos_iff.2 hne
  obtain ⟨b1, o1, rfl, e⟩ := hc1 0 l[0] (by simp)
  intro k hk
  cases hk
  exact World.block_lt_of_cell? w _ e
theorem SlAt.kept' {w w' : World} {v : Value} {l : List Nat} {F : Nat → Prop} (h : SlAt w v l) (hk : Kept F w w') (hF : l ≠ [] → ∀ k, v.ownBlock = some k → ¬ F k) : SlAt w' v l := by
  by_cases hne : l = []
  · subst hne
    obtain ⟨a1, c1, rfl, _⟩ := h
    exact ⟨a1, c1, rfl, fun j x hx => by simp at hx⟩
  · exact h.kept hk (hF hne)
theorem SlAt.drewN {w : World} {v : Value} {l : List Nat} (h : SlAt w v l) (n : Nat) : SlAt (w.drewN n) v l := h
theorem SlAt.of_row {w : World} {g : Nat} {l r : List Nat} {c : Nat} (h : RowIs w g (u8s (l ++ r))) : SlAt w (.slice (some ⟨g, 0, none⟩) l.length c) l := by
  refine ⟨some ⟨g, 0, none⟩, c, rfl, fun j x hx => ⟨g, 0, rfl, ?_⟩⟩
  have hj : j < l.length := (List.getElem?_eq_some_iff.1 hx).1
  rw [Nat.zero_add]
  exact h.cell (by rw [u8s_get, List.getElem?_append_left hj, hx]; rfl)
/-- A row of bytes of the call's own. -/
def OwnBytes (w : World) (base : Nat) (v : Value) (l : List Nat) : Prop := w.ownsRow base 5 1 v l.length (u8s l)
/-- An append whose run is known, also a guarded one. -/
theorem wpList_append_go {P : Program} (w : World) {ops : Array Oper} {rest : List Oper} {o : Oper} {a : Act} {Q : Exit → Act → World → Prop} (hw : Region.wanted o (yielded ops a.tmps) = true) (s x : Operand) (t tn : TypeId)
    (ho : o.op = .call { callee := .builtin .append, args := #[s, x], argTypes := #[t, tn] }) (vs vx : Value) (hs : a.eval s = vs) (hx : a.eval x = vx)
    (v' : Value) (w' : World) (hr : (Builtin.append_ #[t, tn] o.type #[vs, vx]).run P w = .ok v' w') (h : wpList P ops Q rest (a.put o.dst v') w') : wpList P ops Q (o :: rest) a w :=
  BigFrame.wpList_want hw fun K hK => Lib.wp_append_run w s x t tn ho vs vx hs hx v' w' hr (hK _ _ h)
theorem zeros_u8 (m : Nat) : (Builtin.zeroCells (Value.int .u8 0).cells m).toList = u8s (List.replicate m 0) := by
  apply List.ext_getElem?
  intro k
  by_cases hk : k < m
  · simp [Builtin.zeroCells, u8s, hk, Value.cells, Nat.mod_one]
  · rw [List.getElem?_eq_none (by simp [Builtin.zeroCells, Value.cells]; omega), List.getElem?_eq_none (by simp; omega)]
theorem made_zeros (n : Nat) : (madeCells (Value.int .u8 0).cells (n * 1)).toList = u8s (List.replicate n 0) := by
  apply List.ext_getElem?
  intro k
  by_cases hk : k < n
  · simp [madeCells, u8s, hk, Value.cells, Nat.mod_one]
  · rw [List.getElem?_eq_none (by simp [madeCells]; omega), List.getElem?_eq_none (by simp; omega)]
theorem u8s_append (l m : List Nat) : u8s (l ++ m) = u8s l ++ u8s m := by simp [u8s]
theorem own_cell {w : World} {base g n c : Nat} {l : List Nat} {j x : Nat} (h : w.ownsRow base 5 1 (.slice (some ⟨g, 0, none⟩) n c) n (u8s l)) (hx : l[j]? = some x) :
    w.cell? ⟨g, j, none⟩ = some (.int .u8 (x : Int)) ∧ w.frozen? ⟨g, j, none⟩ = false := by
  have hl : l.length = n := by have := h.1; simpa using this
  have hj : j < l.length := (List.getElem?_eq_some_iff.1 hx).1
  rcases h.2 with ⟨e1, _⟩ | ⟨g', cap', cur, hv, hgb, hh, hncap, _, hcs, htake⟩
  · cases e1
  · cases hv
    refine ⟨?_, by simp [World.frozen?, hh]⟩
    have e : (u8s l)[j]? = some (.int .u8 (x : Int)) := by rw [u8s_get, hx]; rfl
    rw [← htake, List.getElem?_take, if_pos (by omega)] at e
    simp only [World.cell?, hh]
    simpa using e
theorem own_set {w : World} {base g n c : Nat} {l : List Nat} (h : w.ownsRow base 5 1 (.slice (some ⟨g, 0, none⟩) n c) n (u8s l)) (j y : Nat) (hj : j < n) :
    (w.setCell ⟨g, j, none⟩ (.int .u8 (y : Int))).ownsRow base 5 1 (.slice (some ⟨g, 0, none⟩) n c) n (u8s (l.set j y)) := by
  rw [← u8s_set]; exact ownsRow_set h j hj _
theorem own_cap {w : World} {base g n c : Nat} {xs : List Value} (h : w.ownsRow base 5 1 (.slice (some ⟨g, 0, none⟩) n c) n xs) : n ≤ c ∧ c ≤ maxLen := by
  rcases h.2 with ⟨e1, _⟩ | ⟨g', cap', cur, hv, hgb, hh, hncap, hm, _⟩
  · cases e1
  · cases hv
    exact ⟨hncap, hm⟩
/-- A row that has just been made. -/
theorem own_new (w : World) (base : Nat) (Z : Array Value) (N : Nat) (l : List Nat) (hZ : Z.toList = u8s l) (hl : l.length = N) (hN : N ≤ 1000000) (hb : base ≤ w.heap.size) :
    (w.alloc (.cells Z 5)).ownsRow base 5 1 (.slice (some ⟨w.heap.size, 0, none⟩) N N) N (u8s l) := by
  have hs : Z.size = N := by have := congrArg List.length hZ; simpa [hl] using this
  refine ⟨by simp [hl], .inr ⟨w.heap.size, N, Z, rfl, hb, heap_alloc_new w _, Nat.le_refl _, by unfold maxLen; omega, by omega, ?_⟩⟩
  rw [hZ]; exact List.take_of_length_le (by simp [hl])
/-- A part of a row. -/
theorem own_part {w : World} {base g n c : Nat} {l : List Nat} (h : w.ownsRow base 5 1 (.slice (some ⟨g, 0, none⟩) n c) n (u8s l)) (i m c' : Nat) (him : i + m ≤ n) :
    SlAt w (.slice (some ⟨g, i, none⟩) m c') ((l.drop i).take m) := by
  have hl : l.length = n := by have := h.1; simpa using this
  refine ⟨some ⟨g, i, none⟩, c', by simp; omega, fun j x hx => ⟨g, i, rfl, ?_⟩⟩
  have hj : j < m := by have := (List.getElem?_eq_some_iff.1 hx).1; simp at this; omega
  rw [List.getElem?_take, if_pos hj, List.getElem?_drop] at hx
  exact (own_cell h hx).1
theorem sl_cell {w : World} {a : Option Addr} {n cap : Nat} {l : List Nat} {j x : Nat} (h : SlAt w (.slice a n cap) l) (hx : l[j]? = some x) :
    ∃ b off, a = some ⟨b, off, none⟩ ∧ w.cell? ⟨b, off + j, none⟩ = some (.int .u8 ((x : Nat) : Int)) := by
  obtain ⟨a1, c1, e, hc⟩ := h
  cases e
  exact hc j x hx
theorem SlAt.take {w : World} {a : Option Addr} {n cap : Nat} {l : List Nat} (h : SlAt w (.slice a n cap) l) (k : Nat) (hk : k ≤ n) (hl : l.length = n) : SlAt w (.slice a k cap) (l.take k) := by
  refine ⟨a, cap, by simp; omega, fun j x hx => ?_⟩
  rw [List.getElem?_take] at hx
  split at hx
  · exact sl_cell h hx
  · cases hx
theorem SlAt.none_of (w : World) (a : Option Addr) (c : Nat) {n : Nat} (hn : n = 0) : SlAt w (.slice a n c) [] := ⟨a, c, by rw [hn]; rfl, fun j x hx => by simp at hx⟩
theorem SlAt.addr {w : World} {a : Option Addr} {n cap : Nat} {l : List Nat} (h : SlAt w (.slice a n cap) l) (hne : l ≠ []) : ∃ b off, a = some ⟨b, off, none⟩ := by
  have hpos : 0 < l.length := List.length_pos_iff.2 hne
  obtain ⟨b, off, e, _⟩ := sl_cell h (show l[0]? = some l[0] by simp)
  exact ⟨b, off, e⟩
theorem SlAt.drop {w : World} {x : Addr} {n cap c : Nat} {l : List Nat} (h : SlAt w (.slice (some x) n cap) l) (k : Nat) (hk : k ≤ n) (hl : l.length = n) : SlAt w (.slice (some (x.add k)) (n - k) c) (l.drop k) := by
  refine ⟨some (x.add k), c, by simp [hl], fun j y hy => ?_⟩
  rw [List.getElem?_drop] at hy
  obtain ⟨b, off, e, hc⟩ := sl_cell h hy
  cases e
  exact ⟨b, off + k, by simp [Addr.add], by rw [Nat.add_assoc]; exact hc⟩

end Go.Proofs.YtlonnoapbfjomabGreat