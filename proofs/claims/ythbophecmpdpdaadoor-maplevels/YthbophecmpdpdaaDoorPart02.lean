/- The texts Ref5, Own, Bools, MpMath, MpWord, MpPop, MpMem, one behind the other. -/
import Derived.Test.YthbophecmpdpdaaDoorPart01
import Derived.Laws.AppendOwnNone
import Derived.Laws.IdiomStrings
import Derived.Lib.AppendZeros

/- Lend and Intact. -/
namespace Go.Proofs.YthbophecmpdpdaaDoor
set_option linter.unusedVariables false
set_option linter.unusedSimpArgs false
open Go.RowKit Dg

/-- 'make([]T, n, c)': a new row of c zero elements. -/
theorem wpList_make_cap {P : Program} (w : World) {ops : Array Oper} {rest : List Oper} {o : Oper} {a : Act} {Q : Exit → Act → World → Prop}
    (hg : o.guard = none) (l c : Operand) (t : TypeId) (hop : o.op = Op.makeSlice t l c)
    (e : TypeId) (i : TypeInfo) (z : Value) (h1 : P.underlying t = some (.slice e)) (h2 : P.info? e = some i) (h3 : i.zero = some z)
    (kl kc : IntKind) (L C : Int) (n m : Nat) (hl : a.eval l = .int kl L) (hc : a.eval c = .int kc C) (hL : L = (n : Int)) (hC : C = (m : Int)) (hnm : n ≤ m) (b2 : i.bytes * m ≤ 281474976710656) (b3 : m ≤ maxLen)
    (hK : ∀ cur : Array Value, cur.size = m * i.size → wpList P ops Q rest (a.put o.dst (.slice (some ⟨w.heap.size, 0, none⟩) n m)) (w.alloc (.cells cur e))) :
    wpList P ops Q (o :: rest) a w := by
  refine wpList_plain hg fun K hK' => ?_
  have b3' : (m : Int) ≤ 9223372036854775807 := by unfold maxLen at b3; omega
  have b2' : (i.bytes : Int) * (m : Int) ≤ 281474976710656 := by
    have h : ((i.bytes * m : Nat) : Int) ≤ 281474976710656 := by omega
    rwa [Int.natCast_mul] at h
  have hrun := run_make (P := P) w t e i z h1 h2 h3 kl kc n m (by omega) (by omega) b2' b3'
  simp only [Int.toNat_natCast] at hrun
  subst hL
  subst hC
  unfold Oper.wp
  simp [execOp, hop, hl, hc, hrun, Result.andThen]
  exact hK' _ _ (hK _ (size_madeCells _ _))

/-- A row's cells, all of them. -/
def RowIs (w : World) (g : Nat) (X : List Value) : Prop := w.heap[g]? = some (.cells X.toArray 5 (0, 0))
theorem RowIs.cell {w : World} {g : Nat} {X : List Value} (h : RowIs w g X) {j : Nat} {u : Value} (hu : X[j]? = some u) : w.cell? ⟨g, j, none⟩ = some u := by
  have h' : w.heap[g]? = some (.cells X.toArray 5 (0, 0)) := h
  simp only [World.cell?, h']
  simpa using hu
theorem RowIs.frozen {w : World} {g : Nat} {X : List Value} (h : RowIs w g X) (j : Nat) : w.frozen? ⟨g, j, none⟩ = false := by
  have h' : w.heap[g]? = some (.cells X.toArray 5 (0, 0)) := h
  simp [World.frozen?, h']
theorem RowIs.set {w : World} {g : Nat} {X : List Value} (h : RowIs w g X) (j : Nat) (u : Value) : RowIs (w.setCell ⟨g, j, none⟩ u) g (X.set j u) := by
  have := heap_setCell_of (o := j) (show w.heap[g]? = some (.cells X.toArray 5 (0, 0)) from h) u
  unfold RowIs
  rw [this]
  simp
theorem RowIs.kept {w w' : World} {g : Nat} {X : List Value} {F : Nat → Prop} (h : RowIs w g X) (hk : Kept F w w') (hF : ¬ F g) : RowIs w' g X := by
  have h' : w.heap[g]? = some (.cells X.toArray 5 (0, 0)) := h
  unfold RowIs
  rw [hk.block g (Array.getElem?_eq_some_iff.1 h').1 hF]
  exact h'
theorem RowIs.below {w w' : World} {g : Nat} {X : List Value} (h : RowIs w g X) (hb : Below w.heap.size w w') : RowIs w' g X := h.kept (F := fun _ => False) (Kept.of_below hb) (fun h => h)
theorem RowIs.lt {w : World} {g : Nat} {X : List Value} (h : RowIs w g X) : g < w.heap.size := by
  have h' : w.heap[g]? = some (.cells X.toArray 5 (0, 0)) := h
  exact (Array.getElem?_eq_some_iff.1 h').1

end Go.Proofs.YthbophecmpdpdaaDoor

/- Rows of bytes of the call's own: cells, parts, copies; a cut slice of bytes. -/
namespace Go.Proofs.YthbophecmpdpdaaDoor
set_option linter.unusedVariables false
set_option linter.unusedSimpArgs false
open Go.RowKit Dg

/-- What a cut slice of bytes is. -/
theorem cut_row {w : World} {a : Option Addr} {len cap n : Nat} {zs : List Int} (hr : IsRow .u8 w a len cap zs) :
    ∃ l : List Nat, l.length = min len n ∧ (∀ x ∈ l, x < 256) ∧ SlAt w (.slice a (min len n) cap) l ∧ len ≤ cap ∧ cap ≤ maxLen ∧ (a = none → len = 0 ∧ cap = 0) := by
  obtain ⟨l0, hl0, hl256, hsl⟩ := hr.bytes
  have hcut : len ≤ cap ∧ cap ≤ maxLen ∧ (a = none → len = 0 ∧ cap = 0) := by
    rcases hr with ⟨rfl, rfl, rfl, rfl⟩ | ⟨x, rfl, hle, hm, hz, hc, hwf⟩
    · exact ⟨Nat.le_refl _, by decide, fun _ => ⟨rfl, rfl⟩⟩
    · exact ⟨hle, hm, fun h => by cases h⟩
  exact ⟨l0.take (min len n), by simp; omega, fun x hx => hl256 x (List.mem_of_mem_take hx), hsl _ (by omega), hcut⟩
theorem SlAt.lt {w : World} {v : Value} {l : List Nat} (h : SlAt w v l) (hne : l ≠ []) : ∀ k, v.ownBlock = some k → k < w.heap.size := by
  obtain ⟨a1, c1, rfl, hc1⟩ := h
  have hpos : 0 < l.length := List.length_pos_iff.2 hne
  obtain ⟨b1, o1, rfl, e⟩ := hc1 0 l[0] (by simp)
  intro k hk
  cases hk
  exact World.block_lt_of_cell? w _ e
theorem SlAt.kept' {w w' : World} {v : Value} {l : List Nat} {F : Nat → Prop} (h : SlAt w v l) (hk : Kept F w w') (hF : l ≠ [] → ∀ k, v.ownBlock = some k → ¬ F k) : SlAt w' v l := by
  by_cases hne : l = []
  · subst hne
    obtain ⟨a1, c1, rfl, _⟩ := h
    exact ⟨a1, c1, rfl, fun j x hx => by simp at hx⟩
  · exact h.kept hk (hF hne)
theorem SlAt.drewN {w : World} {v : Value} {l : List Nat} (h : SlAt w v l) (n : Nat) : SlAt (w.drewN n) v l := h
theorem SlAt.of_row {w : World} {g : Nat} {l r : List Nat} {c : Nat} (h : RowIs w g (u8s (l ++ r))) : SlAt w (.slice (some ⟨g, 0, none⟩) l.length c) l := by
  refine ⟨some ⟨g, 0, none⟩, c, rfl, fun j x hx => ⟨g, 0, rfl, ?_⟩⟩
  have hj : j < l.length := (List.getElem?_eq_some_iff.1 hx).1
  rw [Nat.zero_add]
  exact h.cell (by rw [u8s_get, List.getElem?_append_left hj, hx]; rfl)
/-- A row of bytes of the call's own. -/
def OwnBytes (w : World) (base : Nat) (v : Value) (l : List Nat) : Prop := w.ownsRow base 5 1 v l.length (u8s l)
set_option maxHeartbeats 1000000 in
/-- Same at unlike bytes. -/
theorem same_not (w : World) (v1 v2 : Value) (l1 l2 : List Nat) (h1 : SlAt w v1 l1) (h2 : SlAt w v2 l2) (hll : l2.length = l1.length) (hl : l1.length ≤ 1000000) (hne : l1 ≠ l2) :
    Calls Tryd.prog 33 #[v1, v2] w fun e w' => e = .returned (.bool false) ∧ ∃ n, w' = w.drewN n := by
  obtain ⟨a1, c1, rfl, hc1⟩ := h1
  obtain ⟨a2, c2, rfl, hc2⟩ := h2
  rw [hll]
  have H1 : Hid (∀ j x, l1[j]? = some x → ∃ b off, a1 = some ⟨b, off, none⟩ ∧ w.cell? ⟨b, off + j, none⟩ = some (.int .u8 ((x : Nat) : Int))) := hc1
  have H2 : Hid (∀ j x, l2[j]? = some x → ∃ b off, a2 = some ⟨b, off, none⟩ ∧ w.cell? ⟨b, off + j, none⟩ = some (.int .u8 ((x : Nat) : Int))) := hc2
  have HLL : Hid (l2.length = l1.length) := hll
  have HNE : Hid (l1 ≠ l2) := hne
  clear hc1 hc2 hll hne
  go_enter Tryd.func33, Tryd.ntmps33
  go_wp2
  go_loopw [5] (fun i wr => ∃ k m : Nat, k ≤ l1.length ∧ i = .int .i64 k ∧ Hid (l1.take k = l2.take k) ∧ wr = w.drewN m) (fun i _ => l1.length - (intOf i).toNat)
  case atStart => exact ⟨0, 0, Nat.zero_le _, rfl, rfl, rfl⟩
  case round =>
    obtain ⟨k, m, hk, rfl, hsame, rfl⟩ := hrel
    by_cases hkn : k < l1.length
    · have hk2 : k < l2.length := by rw [HLL.out]; exact hkn
      obtain ⟨b1, o1, rfl, e1⟩ := H1.out k l1[k] (by simp [hkn])
      obtain ⟨b2, o2, rfl, e2⟩ := H2.out k l2[k] (by simp [hk2])
      obtain ⟨x, hx⟩ : ∃ x : Nat, x = l1[k] := ⟨_, rfl⟩
      obtain ⟨y, hy⟩ : ∃ y : Nat, y = l2[k] := ⟨_, rfl⟩
      have HX : Hid (l1[k]? = some x) := by show _ = _; rw [hx]; simp [hkn]
      have HY : Hid (l2[k]? = some y) := by show _ = _; rw [hy]; simp [hk2]
      rw [← hx] at e1
      rw [← hy] at e2
      clear hx hy H1 H2 hk2
      by_cases hxy : x = y
      · have HXY : Hid (x = y) := hxy
        subst hxy
        go_wp2
        go_region
        all_goals go_wp2
        all_goals go_roundw
        case rel => exact ⟨k + 1, m + 1, by omega, by go_num, by show _ = _; rw [List.take_add_one, List.take_add_one, hsame.out, HX.out, HY.out], rfl⟩
        case measure => simp [intOf]; omega
      · have hxy' : ((x : Int) != (y : Int)) = true := by simp; omega
        go_wp2
        go_region
        all_goals go_wp2
        all_goals go_ret
        all_goals exact ⟨rfl, m + 1, rfl⟩
    · have e : k = l1.length := by omega
      exfalso
      have := hsame.out
      rw [e, List.take_length, List.take_of_length_le (by rw [HLL.out]; exact Nat.le_refl _)] at this
      exact HNE.out this
/-- An append whose run is known, also a guarded one. -/
theorem wpList_append_go {P : Program} (w : World) {ops : Array Oper} {rest : List Oper} {o : Oper} {a : Act} {Q : Exit → Act → World → Prop} (hw : Region.wanted o (yielded ops a.tmps) = true) (s x : Operand) (t tn : TypeId)
    (ho : o.op = .call { callee := .builtin .append, args := #[s, x], argTypes := #[t, tn] }) (vs vx : Value) (hs : a.eval s = vs) (hx : a.eval x = vx)
    (v' : Value) (w' : World) (hr : (Builtin.append_ #[t, tn] o.type #[vs, vx]).run P w = .ok v' w') (h : wpList P ops Q rest (a.put o.dst v') w') : wpList P ops Q (o :: rest) a w :=
  BigFrame.wpList_want hw fun K hK => Lib.wp_append_run w s x t tn ho vs vx hs hx v' w' hr (hK _ _ h)
theorem zeros_u8 (m : Nat) : (Builtin.zeroCells (Value.int .u8 0).cells m).toList = u8s (List.replicate m 0) := by
  apply List.ext_getElem?
  intro k
  by_cases hk : k < m
  · simp [Builtin.zeroCells, u8s, hk, Value.cells, Nat.mod_one]
  · rw [List.getElem?_eq_none (by simp [Builtin.zeroCells, Value.cells]; omega), List.getElem?_eq_none (by simp; omega)]
theorem made_zeros (n : Nat) : (madeCells (Value.int .u8 0).cells (n * 1)).toList = u8s (List.replicate n 0) := by
  apply List.ext_getElem?
  intro k
  by_cases hk : k < n
  · simp [madeCells, u8s, hk, Value.cells, Nat.mod_one]
  · rw [List.getElem?_eq_none (by simp [madeCells]; omega), List.getElem?_eq_none (by simp; omega)]
theorem u8s_append (l m : List Nat) : u8s (l ++ m) = u8s l ++ u8s m := by simp [u8s]
theorem own_cell {w : World} {base g n c : Nat} {l : List Nat} {j x : Nat} (h : w.ownsRow base 5 1 (.slice (some ⟨g, 0, none⟩) n c) n (u8s l)) (hx : l[j]? = some x) :
    w.cell? ⟨g, j, none⟩ = some (.int .u8 (x : Int)) ∧ w.frozen? ⟨g, j, none⟩ = false := by
  have hl : l.length = n := by have := h.1; simpa using this
  have hj : j < l.length := (List.getElem?_eq_some_iff.1 hx).1
  rcases h.2 with ⟨e1, _⟩ | ⟨g', cap', cur, hv, hgb, hh, hncap, _, hcs, htake⟩
  · cases e1
  · cases hv
    refine ⟨?_, by simp [World.frozen?, hh]⟩
    have e : (u8s l)[j]? = some (.int .u8 (x : Int)) := by rw [u8s_get, hx]; rfl
    rw [← htake, List.getElem?_take, if_pos (by omega)] at e
    simp only [World.cell?, hh]
    simpa using e
theorem own_set {w : World} {base g n c : Nat} {l : List Nat} (h : w.ownsRow base 5 1 (.slice (some ⟨g, 0, none⟩) n c) n (u8s l)) (j y : Nat) (hj : j < n) :
    (w.setCell ⟨g, j, none⟩ (.int .u8 (y : Int))).ownsRow base 5 1 (.slice (some ⟨g, 0, none⟩) n c) n (u8s (l.set j y)) := by
  rw [← u8s_set]; exact ownsRow_set h j hj _
theorem own_cap {w : World} {base g n c : Nat} {xs : List Value} (h : w.ownsRow base 5 1 (.slice (some ⟨g, 0, none⟩) n c) n xs) : n ≤ c ∧ c ≤ maxLen := by
  rcases h.2 with ⟨e1, _⟩ | ⟨g', cap', cur, hv, hgb, hh, hncap, hm, _⟩
  · cases e1
  · cases hv
    exact ⟨hncap, hm⟩
/-- A row that has just been made. -/
theorem own_new (w : World) (base : Nat) (Z : Array Value) (N : Nat) (l : List Nat) (hZ : Z.toList = u8s l) (hl : l.length = N) (hN : N ≤ 1000000) (hb : base ≤ w.heap.size) :
    (w.alloc (.cells Z 5)).ownsRow base 5 1 (.slice (some ⟨w.heap.size, 0, none⟩) N N) N (u8s l) := by
  have hs : Z.size = N := by have := congrArg List.length hZ; simpa [hl] using this
  refine ⟨by simp [hl], .inr ⟨w.heap.size, N, Z, rfl, hb, heap_alloc_new w _, Nat.le_refl _, by unfold maxLen; omega, by omega, ?_⟩⟩
  rw [hZ]; exact List.take_of_length_le (by simp [hl])
/-- A part of a row. -/
theorem own_part {w : World} {base g n c : Nat} {l : List Nat} (h : w.ownsRow base 5 1 (.slice (some ⟨g, 0, none⟩) n c) n (u8s l)) (i m c' : Nat) (him : i + m ≤ n) :
    SlAt w (.slice (some ⟨g, i, none⟩) m c') ((l.drop i).take m) := by
  have hl : l.length = n := by have := h.1; simpa using this
  refine ⟨some ⟨g, i, none⟩, c', by simp; omega, fun j x hx => ⟨g, i, rfl, ?_⟩⟩
  have hj : j < m := by have := (List.getElem?_eq_some_iff.1 hx).1; simp at this; omega
  rw [List.getElem?_take, if_pos hj, List.getElem?_drop] at hx
  exact (own_cell h hx).1
theorem sl_cell {w : World} {a : Option Addr} {n cap : Nat} {l : List Nat} {j x : Nat} (h : SlAt w (.slice a n cap) l) (hx : l[j]? = some x) :
    ∃ b off, a = some ⟨b, off, none⟩ ∧ w.cell? ⟨b, off + j, none⟩ = some (.int .u8 ((x : Nat) : Int)) := by
  obtain ⟨a1, c1, e, hc⟩ := h
  cases e
  exact hc j x hx
theorem SlAt.take {w : World} {a : Option Addr} {n cap : Nat} {l : List Nat} (h : SlAt w (.slice a n cap) l) (k : Nat) (hk : k ≤ n) (hl : l.length = n) : SlAt w (.slice a k cap) (l.take k) := by
  refine ⟨a, cap, by simp; omega, fun j x hx => ?_⟩
  rw [List.getElem?_take] at hx
  split at hx
  · exact sl_cell h hx
  · cases hx
theorem SlAt.none_of (w : World) (a : Option Addr) (c : Nat) {n : Nat} (hn : n = 0) : SlAt w (.slice a n c) [] := ⟨a, c, by rw [hn]; rfl, fun j x hx => by simp at hx⟩
theorem SlAt.addr {w : World} {a : Option Addr} {n cap : Nat} {l : List Nat} (h : SlAt w (.slice a n cap) l) (hne : l ≠ []) : ∃ b off, a = some ⟨b, off, none⟩ := by
  have hpos : 0 < l.length := List.length_pos_iff.2 hne
  obtain ⟨b, off, e, _⟩ := sl_cell h (show l[0]? = some l[0] by simp)
  exact ⟨b, off, e⟩
theorem SlAt.drop {w : World} {x : Addr} {n cap c : Nat} {l : List Nat} (h : SlAt w (.slice (some x) n cap) l) (k : Nat) (hk : k ≤ n) (hl : l.length = n) : SlAt w (.slice (some (x.add k)) (n - k) c) (l.drop k) := by
  refine ⟨some (x.add k), c, by simp [hl], fun j y hy => ?_⟩
  rw [List.getElem?_drop] at hy
  obtain ⟨b, off, e, hc⟩ := sl_cell h hy
  cases e
  exact ⟨b, off + k, by simp [Addr.add], by rw [Nat.add_assoc]; exact hc⟩

end Go.Proofs.YthbophecmpdpdaaDoor

/- A slice of bools that can be read; a part of it. -/
namespace Go.Proofs.YthbophecmpdpdaaDoor
set_option linter.unusedVariables false
set_option linter.unusedSimpArgs false
open Go.RowKit Dg

/-- Bools that can be read. -/
def BlAt (w : World) (a : Option Addr) (l : List Bool) : Prop := ∀ j x, l[j]? = some x → ∃ b off, a = some ⟨b, off, none⟩ ∧ w.cell? ⟨b, off + j, none⟩ = some (.bool x)
theorem BlAt.nil (w : World) (a : Option Addr) : BlAt w a [] := fun j x h => by simp at h
theorem BlAt.kept {w w' : World} {a : Option Addr} {l : List Bool} {F : Nat → Prop} (h : BlAt w a l) (hk : Kept F w w') (hF : l ≠ [] → ∀ y, a = some y → ¬ F y.block) : BlAt w' a l := by
  intro j x hx
  obtain ⟨b, off, rfl, hc⟩ := h j x hx
  refine ⟨b, off, rfl, ?_⟩
  rw [hk.cell (World.block_lt_of_cell? w _ hc) (hF (fun e => by rw [e] at hx; simp at hx) ⟨b, off, none⟩ rfl)]
  exact hc
theorem BlAt.take {w : World} {a : Option Addr} {l : List Bool} (h : BlAt w a l) (n : Nat) : BlAt w a (l.take n) := by
  intro j x hx
  rw [List.getElem?_take] at hx
  split at hx
  · exact h j x hx
  · cases hx
theorem BlAt.lt {w : World} {a : Option Addr} {l : List Bool} (h : BlAt w a l) (hne : l ≠ []) : ∀ y, a = some y → y.block < w.heap.size := by
  intro y hy
  obtain ⟨b, off, e, hc⟩ := h 0 (l[0]'(List.length_pos_iff.2 hne)) (List.getElem?_eq_getElem _)
  rw [hy] at e
  cases e
  exact World.block_lt_of_cell? w _ hc
theorem slice_bools (a : Option Addr) (n cap k : Nat) (hk : k ≤ cap) (W : World) : (Instr.sliceAt 40 (.slice a n cap) none (some (.int .i64 (k : Int))) none).run Tryd.prog W = .ok (.slice a k cap) W := by
  have hs : ∀ w, (sizeOf 4).run Tryd.prog w = .ok 1 w := fun _ => by kernel_rfl
  simp [Instr.sliceAt, Instr.slice, Instr.sliceBounds, Instr.sliceBound, asIntOf, run_underlying Tryd.underlying40, hs, hk]
  cases a <;> simp [Addr.add]
end Go.Proofs.YthbophecmpdpdaaDoor

/- Maps of sectors as plain data: which one is the first, where a run begins; no program. -/
namespace Go.Proofs.YthbophecmpdpdaaDoor
set_option linter.unusedVariables false
set_option linter.unusedSimpArgs false
open Go.RowKit Dg

/-- r is the least free one that is not below f; -1: there is none. -/
def IsFirst (m : List Bool) (f r : Int) : Prop := (∃ k : Nat, r = (k : Int) ∧ f ≤ (k : Int) ∧ m[k]? = some false ∧ ∀ j : Nat, f ≤ (j : Int) → j < k → m[j]? ≠ some false) ∨ (r = -1 ∧ ∀ j : Nat, f ≤ (j : Int) → m[j]? ≠ some false)
theorem IsFirst.one {m : List Bool} {f r s : Int} (h : IsFirst m f r) (h2 : IsFirst m f s) : r = s := by
  rcases h with ⟨k, rfl, h1, h3, h4⟩ | ⟨rfl, h1⟩
  · rcases h2 with ⟨l, rfl, g1, g3, g4⟩ | ⟨rfl, g1⟩
    · rcases Nat.lt_trichotomy k l with e | e | e
      · exact absurd h3 (g4 k h1 e)
      · rw [e]
      · exact absurd g3 (h4 l g1 e)
    · exact absurd h3 (g1 k h1)
  · rcases h2 with ⟨l, rfl, g1, g3, g4⟩ | ⟨rfl, g1⟩
    · exact absurd g3 (h1 l g1)
    · rfl
/-- n free ones begin at i, one behind the other. -/
def FreeAt (m : List Bool) (i n : Nat) : Prop := ∀ j, j < n → m[i + j]? = some false
/-- r is the least place at which n free ones begin; -1: there is none (n below 1: -1). -/
def IsRun (m : List Bool) (n r : Int) : Prop := (∃ k l : Nat, n = (l : Int) ∧ 1 ≤ l ∧ r = (k : Int) ∧ FreeAt m k l ∧ ∀ i, i < k → ¬ FreeAt m i l) ∨ (r = -1 ∧ (n < 1 ∨ ∃ l : Nat, n = (l : Int) ∧ ∀ i, ¬ FreeAt m i l))
theorem IsRun.one {m : List Bool} {n r s : Int} (h : IsRun m n r) (h2 : IsRun m n s) : r = s := by
  rcases h with ⟨k, l, rfl, h1, rfl, h3, h4⟩ | ⟨rfl, h1⟩
  · rcases h2 with ⟨k', l', e, g1, rfl, g3, g4⟩ | ⟨rfl, g1⟩
    · obtain rfl : l = l' := by omega
      rcases Nat.lt_trichotomy k k' with e | e | e
      · exact absurd h3 (g4 k e)
      · rw [e]
      · exact absurd g3 (h4 k' e)
    · rcases g1 with g1 | ⟨l', e, g1⟩
      · omega
      · obtain rfl : l = l' := by omega
        exact absurd h3 (g1 k)
  · rcases h2 with ⟨k', l', rfl, g1, rfl, g3, g4⟩ | ⟨rfl, g1⟩
    · rcases h1 with h1 | ⟨l, e, h1⟩
      · omega
      · obtain rfl : l' = l := by omega
        exact absurd g3 (h1 k')
    · rfl
theorem FreeAt.le {m : List Bool} {i n : Nat} (h : FreeAt m i n) (hn : 1 ≤ n) : i + n ≤ m.length := by
  have e := h (n - 1) (by omega)
  have := (List.getElem?_eq_some_iff.1 e).1
  omega
/-- How many of the first j are used. -/
def usedN (m : List Bool) : Nat → Nat
  | 0 => 0
  | j + 1 => usedN m j + (if m[j]? = some true then 1 else 0)
theorem usedN_le (m : List Bool) : ∀ j, usedN m j ≤ j
  | 0 => Nat.le_refl _
  | j + 1 => by
    have := usedN_le m j
    unfold usedN
    split <;> omega

end Go.Proofs.YthbophecmpdpdaaDoor

/- A map's words, as plain numbers: which digits they have; levels; how many ones; where the next one is; no program. -/
namespace Go.Proofs.YthbophecmpdpdaaDoor
set_option linter.unusedVariables false
set_option linter.unusedSimpArgs false
open Go.RowKit Dg

/-- The number with the digits f 0 .. f (n - 1). -/
def numB (f : Nat → Bool) : Nat → Nat
  | 0 => 0
  | n + 1 => 2 ^ n * (f n).toNat + numB f n
theorem numB_lt (f : Nat → Bool) : ∀ n, numB f n < 2 ^ n
  | 0 => Nat.one_pos
  | n + 1 => by
    have h := numB_lt f n
    unfold numB
    rw [Nat.pow_succ]
    cases f n <;> simp [Bool.toNat] <;> omega
theorem numB_bit (f : Nat → Bool) : ∀ n j, j < n → (numB f n).testBit j = f j
  | 0, j, h => absurd h (Nat.not_lt_zero _)
  | n + 1, j, h => by
    have hlt := numB_lt f n
    unfold numB
    cases hf : f n
    · rw [show (false : Bool).toNat = 0 from rfl, Nat.mul_zero, Nat.zero_add]
      rcases Nat.lt_or_ge j n with h1 | h1
      · exact numB_bit f n j h1
      · have e : j = n := by omega
        subst e
        rw [hf, Nat.testBit_lt_two_pow hlt]
    · rw [show (true : Bool).toNat = 1 from rfl, Nat.mul_one]
      rcases Nat.lt_or_ge j n with h1 | h1
      · rw [Nat.testBit_two_pow_add_gt h1]
        exact numB_bit f n j h1
      · have e : j = n := by omega
        subst e
        rw [Nat.testBit_two_pow_add_eq, Nat.testBit_lt_two_pow hlt, hf]; rfl

/-- A place's digit: used, or behind the last one. -/
def dgt (m : List Bool) (i : Nat) : Bool := (m[i]?).getD true
theorem dgt_false {m : List Bool} {i : Nat} : dgt m i = false ↔ m[i]? = some false := by
  unfold dgt
  cases h : m[i]? with
  | none => simp
  | some b => cases b <;> simp
theorem dgt_behind {m : List Bool} {i : Nat} (h : m.length ≤ i) : dgt m i = true := by
  unfold dgt
  rw [List.getElem?_eq_none h]; rfl
theorem dgt_set {m : List Bool} {i : Nat} (h : i < m.length) (b : Bool) (j : Nat) : dgt (m.set i b) j = if i = j then b else dgt m j := by
  unfold dgt
  rw [List.getElem?_set]
  by_cases e : i = j
  · rw [if_pos e, if_pos e]
    rw [if_pos (by omega)]; rfl
  · rw [if_neg e, if_neg e]

/-- The words of a map: a digit a sector, ones behind. -/
structure IsWs (m : List Bool) (l : List Nat) : Prop where
  len : l.length = (m.length + 63) / 64
  lt : ∀ x ∈ l, x < 18446744073709551616
  bit : ∀ k x, l[k]? = some x → ∀ j, j < 64 → x.testBit j = dgt m (64 * k + j)
theorem eq_of_bits64 {x y : Nat} (hx : x < 18446744073709551616) (hy : y < 18446744073709551616) (h : ∀ j, j < 64 → x.testBit j = y.testBit j) : x = y := by
  apply Nat.eq_of_testBit_eq
  intro j
  rcases Nat.lt_or_ge j 64 with h1 | h1
  · exact h j h1
  · have h2 : (18446744073709551616 : Nat) ≤ 2 ^ j := Nat.le_trans (by decide : (18446744073709551616 : Nat) ≤ 2 ^ 64) (Nat.pow_le_pow_right (by decide) h1)
    rw [Nat.testBit_lt_two_pow (Nat.lt_of_lt_of_le hx h2), Nat.testBit_lt_two_pow (Nat.lt_of_lt_of_le hy h2)]
theorem IsWs.one {m : List Bool} {l l' : List Nat} (h : IsWs m l) (h' : IsWs m l') : l = l' := by
  have hl : l.length = l'.length := by rw [h.len, h'.len]
  refine List.ext_getElem? fun k => ?_
  rcases Nat.lt_or_ge k l.length with h1 | h1
  · have e1 := List.getElem?_eq_getElem h1
    have e2 := List.getElem?_eq_getElem (show k < l'.length by omega)
    rw [e1, e2]
    congr 1
    exact eq_of_bits64 (h.lt _ (List.getElem_mem h1)) (h'.lt _ (List.getElem_mem _)) fun j hj => by rw [h.bit k _ e1 j hj, h'.bit k _ e2 j hj]
  · rw [List.getElem?_eq_none h1, List.getElem?_eq_none (by omega)]
/-- Those words. -/
def wsOf (m : List Bool) : List Nat := (List.range ((m.length + 63) / 64)).map fun k => numB (fun j => dgt m (64 * k + j)) 64
theorem length_wsOf (m : List Bool) : (wsOf m).length = (m.length + 63) / 64 := by simp [wsOf]
theorem wsOf_is (m : List Bool) : IsWs m (wsOf m) where
  len := length_wsOf m
  lt := fun x hx => by
    obtain ⟨k, -, rfl⟩ := List.mem_map.1 hx
    exact numB_lt _ 64
  bit := fun k x hx j hj => by
    unfold wsOf at hx
    rw [List.getElem?_map] at hx
    rcases Nat.lt_or_ge k ((m.length + 63) / 64) with h1 | h1
    · rw [List.getElem?_range h1] at hx
      simp only [Option.map_some, Option.some.injEq] at hx
      subst hx
      exact numB_bit _ 64 j hj
    · rw [List.getElem?_eq_none (by simp; exact h1)] at hx
      cases hx
theorem IsWs.of {m : List Bool} {l : List Nat} (h : IsWs m l) : l = wsOf m := h.one (wsOf_is m)
theorem wsOf_nil : wsOf [] = [] := rfl

/-- 2^64 - 1, moved up by r. -/
theorem full_bit (r j : Nat) (hr : r < 64) (hj : j < 64) : (18446744073709551616 - 2 ^ r).testBit j = decide (r ≤ j) := by
  have h2 : 2 ^ r < 2 ^ 64 := Nat.pow_lt_pow_right (by decide) hr
  have h1 : 1 ≤ 2 ^ r := Nat.one_le_two_pow
  have e : 18446744073709551616 - 2 ^ r = 2 ^ 64 - ((2 ^ r - 1) + 1) := by omega
  rw [e, Nat.testBit_two_pow_sub_succ (by omega), Nat.testBit_two_pow_sub_one]
  by_cases h : r ≤ j
  · simp [hj, h]
  · simp [hj, h]; omega
theorem shl_full (r : Nat) (hr : r < 64) : 18446744073709551615 * 2 ^ r % 18446744073709551616 = 18446744073709551616 - 2 ^ r := by
  have h2 : 2 ^ r < 2 ^ 64 := Nat.pow_lt_pow_right (by decide) hr
  have h1 : 1 ≤ 2 ^ r := Nat.one_le_two_pow
  have e : 18446744073709551615 * 2 ^ r = 18446744073709551616 * (2 ^ r - 1) + (18446744073709551616 - 2 ^ r) := by omega
  rw [e, Nat.mul_add_mod]
  exact Nat.mod_eq_of_lt (by omega)
/-- Words with n noughts, and ones behind them. -/
def noughtsL (n : Nat) : List Nat := if n % 64 = 0 then List.replicate ((n + 63) / 64) 0 else (List.replicate ((n + 63) / 64) 0).set ((n + 63) / 64 - 1) (18446744073709551616 - 2 ^ (n % 64))
theorem noughts_is (n : Nat) : IsWs (List.replicate n false) (noughtsL n) where
  len := by unfold noughtsL; split <;> simp
  lt := fun x hx => by
    unfold noughtsL at hx
    have h1 : 1 ≤ 2 ^ (n % 64) := Nat.one_le_two_pow
    split at hx
    · have := (List.mem_replicate.1 hx).2; omega
    · rcases List.mem_or_eq_of_mem_set hx with h | h
      · have := (List.mem_replicate.1 h).2; omega
      · omega
  bit := fun k x hx j hj => by
    have hd : dgt (List.replicate n false) (64 * k + j) = decide (n ≤ 64 * k + j) := by
      unfold dgt
      rw [List.getElem?_replicate]
      by_cases h : 64 * k + j < n
      · rw [if_pos h, decide_eq_false (by omega)]; rfl
      · rw [if_neg h, decide_eq_true (by omega)]; rfl
    rw [hd]
    unfold noughtsL at hx
    split at hx
    · rename_i h0
      rw [List.getElem?_replicate] at hx
      split at hx
      · cases hx
        rw [Nat.zero_testBit, decide_eq_false (by omega)]
      · cases hx
    · rename_i h0
      rw [List.getElem?_set, List.length_replicate, List.getElem?_replicate] at hx
      split at hx
      · rename_i h1
        split at hx
        · cases hx
          rw [full_bit _ _ (by omega) hj]
          congr 1
          rw [eq_iff_iff]
          omega
        · cases hx
      · split at hx
        · cases hx
          rw [Nat.zero_testBit, decide_eq_false (by omega)]
        · cases hx
/-- A sector turned. -/
theorem IsWs.turn {m : List Bool} {l : List Nat} (h : IsWs m l) {i : Nat} {b : Bool} (hi : m[i]? = some b) {x : Nat} (hx : l[i / 64]? = some x) : IsWs (m.set i (!b)) (l.set (i / 64) (x ^^^ 2 ^ (i % 64))) where
  len := by rw [List.length_set, List.length_set]; exact h.len
  lt := fun y hy => by
    rcases List.mem_or_eq_of_mem_set hy with h1 | h1
    · exact h.lt y h1
    · rw [h1]
      exact Nat.xor_lt_two_pow (n := 64) (h.lt x (List.mem_of_getElem? hx)) (Nat.pow_lt_pow_right (by decide) (by omega))
  bit := fun k y hy j hj => by
    have hil := (List.getElem?_eq_some_iff.1 hi).1
    rw [dgt_set hil]
    rw [List.getElem?_set] at hy
    split at hy
    · rename_i e
      split at hy
      · cases hy
        subst e
        rw [Nat.testBit_xor, h.bit _ _ hx j hj, Nat.testBit_two_pow]
        by_cases e2 : i % 64 = j
        · have e3 : i = 64 * (i / 64) + j := by omega
          rw [if_pos e3, ← e3]
          unfold dgt
          rw [hi]
          simp [e2]
        · rw [if_neg (by omega)]
          simp [e2]
      · cases hy
    · rename_i e
      rw [if_neg (by omega)]
      exact h.bit k y hy j hj

/-- Which words are full. -/
def upB (l : List Nat) : List Bool := l.map fun x => decide (x = 18446744073709551615)
@[simp] theorem length_upB (l : List Nat) : (upB l).length = l.length := by simp [upB]
theorem upB_get (l : List Nat) (k : Nat) : (upB l)[k]? = l[k]?.map fun x => decide (x = 18446744073709551615) := by simp [upB]
/-- Level k: none (no words) behind the one that has one word. -/
def lvlOf : Nat → List Bool → List Nat
  | 0, m => wsOf m
  | k + 1, m => if (wsOf m).length = 1 then [] else lvlOf k (upB (wsOf m))
/-- Level k of any number. -/
def lvlZ (k : Int) (m : List Bool) : List Nat := if k < 0 then [] else lvlOf k.toNat m
theorem lvlOf_next : ∀ (k : Nat) (m : List Bool), 1 < (lvlOf k m).length → lvlOf (k + 1) m = wsOf (upB (lvlOf k m))
  | 0, m, h => by
    show (if (wsOf m).length = 1 then [] else lvlOf 0 (upB (wsOf m))) = _
    have : (wsOf m).length ≠ 1 := by have : 1 < (wsOf m).length := h; omega
    rw [if_neg this]; rfl
  | k + 1, m, h => by
    have h0 : (wsOf m).length ≠ 1 := fun e => by
      have : lvlOf (k + 1) m = [] := by show (if _ then _ else _) = _; rw [if_pos e]
      rw [this] at h
      exact absurd h (by decide)
    have e1 : lvlOf (k + 1) m = lvlOf k (upB (wsOf m)) := by show (if _ then _ else _) = _; rw [if_neg h0]
    have e2 : lvlOf (k + 1 + 1) m = lvlOf (k + 1) (upB (wsOf m)) := by show (if _ then _ else _) = _; rw [if_neg h0]
    rw [e1] at h
    rw [e2, lvlOf_next k _ h, e1]

/-- How many of f 0 .. f (n - 1) are ones. -/
def cntB (f : Nat → Bool) : Nat → Nat
  | 0 => 0
  | n + 1 => cntB f n + (f n).toNat
theorem cntB_congr {f g : Nat → Bool} : ∀ n, (∀ j, j < n → f j = g j) → cntB f n = cntB g n
  | 0, _ => rfl
  | n + 1, h => by unfold cntB; rw [cntB_congr n fun j hj => h j (by omega), h n (by omega)]
theorem cntB_add (f : Nat → Bool) (a : Nat) : ∀ n, cntB f (a + n) = cntB f a + cntB (fun j => f (a + j)) n
  | 0 => rfl
  | n + 1 => by
    show cntB f (a + n) + _ = _
    rw [cntB_add f a n]
    show _ + (f (a + n)).toNat = cntB f a + (cntB (fun j => f (a + j)) n + (f (a + n)).toNat)
    omega
theorem cntB_le (f : Nat → Bool) : ∀ n, cntB f n ≤ n
  | 0 => Nat.le_refl _
  | n + 1 => by unfold cntB; have := cntB_le f n; cases f n <;> simp [Bool.toNat] <;> omega
theorem cntB_used (m : List Bool) : ∀ j, j ≤ m.length → cntB (dgt m) j = usedN m j
  | 0, _ => rfl
  | j + 1, h => by
    unfold cntB usedN
    rw [cntB_used m j (by omega)]
    unfold dgt
    rw [List.getElem?_eq_getElem (by omega)]
    cases m[j] <;> rfl
theorem cntB_behind (m : List Bool) : ∀ d, cntB (dgt m) (m.length + d) = usedN m m.length + d
  | 0 => cntB_used m _ (Nat.le_refl _)
  | d + 1 => by
    show cntB (dgt m) (m.length + d) + _ = _
    have e : dgt m (m.length.add d) = true := dgt_behind (Nat.le_add_right _ _)
    rw [cntB_behind m d, e]
    rfl
/-- How many ones a word has. -/
def popN (x : Nat) : Nat := cntB x.testBit 64
theorem popN_le (x : Nat) : popN x ≤ 64 := cntB_le _ _
/-- Of the first k words. -/
def popL (l : List Nat) : Nat → Nat
  | 0 => 0
  | k + 1 => popL l k + popN (l.getD k 0)
theorem popL_is {m : List Bool} {l : List Nat} (h : IsWs m l) : ∀ k, k ≤ l.length → popL l k = cntB (dgt m) (64 * k)
  | 0, _ => rfl
  | k + 1, hk => by
    have e := List.getElem?_eq_getElem (show k < l.length by omega)
    unfold popL
    rw [popL_is h k (by omega), Nat.mul_succ, cntB_add, List.getD_eq_getElem?_getD, e]
    congr 1
    exact cntB_congr 64 fun j hj => h.bit k _ e j hj
theorem popL_all {m : List Bool} {l : List Nat} (h : IsWs m l) : popL l l.length + m.length = usedN m m.length + 64 * l.length := by
  have hl := h.len
  rw [popL_is h _ (Nat.le_refl _)]
  have := cntB_behind m (64 * l.length - m.length)
  rw [show m.length + (64 * l.length - m.length) = 64 * l.length by omega] at this
  omega

/-- r is the least place, from f on, whose digit is u; N, if there is none below it. -/
def IsSeek (m : List Bool) (N f : Nat) (u : Bool) (r : Nat) : Prop := (f ≤ r ∧ r < N ∧ dgt m r = u ∨ r = N) ∧ ∀ j, f ≤ j → j < r → j < N → dgt m j ≠ u
theorem IsSeek.first {m : List Bool} {N f r : Nat} (h : IsSeek m N f false r) (hN : m.length ≤ N) : IsFirst m (f : Int) (if r < m.length then (r : Int) else -1) := by
  obtain ⟨h1, h2⟩ := h
  split
  · rename_i h3
    refine .inl ⟨r, rfl, ?_, ?_, fun j g1 g2 => ?_⟩
    · rcases h1 with h1 | h1 <;> omega
    · rcases h1 with h1 | h1
      · exact dgt_false.1 h1.2.2
      · omega
    · exact fun e => h2 j (by omega) g2 (by omega) (dgt_false.2 e)
  · rename_i h3
    refine .inr ⟨rfl, fun j g1 e => ?_⟩
    have := (List.getElem?_eq_some_iff.1 e).1
    exact h2 j (by omega) (by omega) (by omega) (dgt_false.2 e)
/-- The free ones from a up to e, and none at e. -/
theorem IsSeek.run {m : List Bool} {N a e : Nat} (h : IsSeek m N a true e) (hN : m.length ≤ N) (ha : a < N) (h0 : m[a]? = some false) : a < e ∧ e ≤ N ∧ (∀ j, a ≤ j → j < e → m[j]? = some false) ∧ m[e]? ≠ some false := by
  obtain ⟨h1, h2⟩ := h
  have hae : a ≤ e := by rcases h1 with h1 | h1 <;> omega
  have hne : a ≠ e := fun e' => by
    rcases h1 with h1 | h1
    · rw [← e', dgt_false.2 h0] at h1; exact absurd h1.2.2 (by decide)
    · omega
  refine ⟨by omega, by rcases h1 with h1 | h1 <;> omega, fun j g1 g2 => ?_, fun g => ?_⟩
  · have h3 := h2 j g1 g2 (by rcases h1 with h1 | h1 <;> omega)
    exact dgt_false.1 (by cases hd : dgt m j; rfl; exact absurd hd h3)
  · rcases h1 with h1 | h1
    · rw [dgt_false.2 g] at h1; exact absurd h1.2.2 (by decide)
    · have := (List.getElem?_eq_some_iff.1 g).1; omega

end Go.Proofs.YthbophecmpdpdaaDoor

/- How many ones a word has, by sums of neighbours: bytes beside each other, each for itself; no program. -/
namespace Go.Proofs.YthbophecmpdpdaaDoor
set_option linter.unusedVariables false
set_option linter.unusedSimpArgs false
open Go.RowKit Dg

/-- f of each byte. -/
def by8 (f : Nat → Nat) : Nat → Nat → Nat
  | 0, _ => 0
  | n + 1, x => f (x % 256) + 256 * by8 f n (x / 256)
/-- The byte c, n times. -/
def rep8 (c : Nat) : Nat → Nat
  | 0 => 0
  | n + 1 => c + 256 * rep8 c n
theorem and_split (u v : Nat) : u &&& v = (u % 256 &&& v % 256) + 256 * (u / 256 &&& v / 256) := by
  have h1 := Nat.and_mod_two_pow (a := u) (b := v) (n := 8)
  have h2 := Nat.and_div_two_pow (a := u) (b := v) (n := 8)
  simp only [show (2 : Nat) ^ 8 = 256 from rfl] at h1 h2
  rw [← h1, ← h2]
  omega
theorem rep8_mod (c n : Nat) (h : c < 256) : rep8 c (n + 1) % 256 = c ∧ rep8 c (n + 1) / 256 = rep8 c n := by
  show (c + 256 * rep8 c n) % 256 = c ∧ (c + 256 * rep8 c n) / 256 = rep8 c n
  omega
def sA (a : Nat) : Nat := (a / 2 &&& 85) + (a &&& 85)
def sB (a : Nat) : Nat := (a / 4 &&& 51) + (a &&& 51)
def sC (a : Nat) : Nat := (a / 16 + a) &&& 15
def sT (a : Nat) : Nat := sC (sB (sA a))
theorem sA_lt : ∀ a, a < 256 → sA a < 256 := by decide +kernel
theorem sB_lt : ∀ a, a < 256 → sB (sA a) < 256 ∧ sB (sA a) % 16 ≤ 4 ∧ sB (sA a) / 16 ≤ 4 := by decide +kernel
theorem sT_is : ∀ a, a < 256 → sT a = cntB a.testBit 8 := by decide +kernel
theorem halfA : ∀ a, a < 256 → ∀ c, c < 2 → (a / 2 + 128 * c) &&& 85 = a / 2 &&& 85 := by decide +kernel
theorem halfB : ∀ a, a < 256 → ∀ c, c < 4 → (a / 4 + 64 * c) &&& 51 = a / 4 &&& 51 := by decide +kernel
theorem stepA : ∀ n x, (x / 2 &&& rep8 85 n) + (x &&& rep8 85 n) = by8 sA n x
  | 0, x => by simp [rep8, by8]
  | n + 1, x => by
    obtain ⟨e1, e2⟩ := rep8_mod 85 n (by decide)
    rw [and_split (x / 2), and_split x, e1, e2]
    unfold by8
    have h1 := stepA n (x / 256)
    have h2 := halfA (x % 256) (by omega) (x / 256 % 2) (by omega)
    have h3 : x / 2 % 256 = x % 256 / 2 + 128 * (x / 256 % 2) := by omega
    have h4 : x / 2 / 256 = x / 256 / 2 := by omega
    rw [h3, h4, h2, ← h1]
    unfold sA
    omega
theorem stepB' : ∀ n x, (x / 4 &&& rep8 51 n) + (x &&& rep8 51 n) = by8 sB n x
  | 0, x => by simp [rep8, by8]
  | n + 1, x => by
    obtain ⟨e1, e2⟩ := rep8_mod 51 n (by decide)
    rw [and_split (x / 4), and_split x, e1, e2]
    unfold by8
    have h1 := stepB' n (x / 256)
    have h2 := halfB (x % 256) (by omega) (x / 256 % 4) (by omega)
    have h3 : x / 4 % 256 = x % 256 / 4 + 64 * (x / 256 % 4) := by omega
    have h4 : x / 4 / 256 = x / 256 / 4 := by omega
    rw [h3, h4, h2, ← h1]
    unfold sB
    omega
/-- No nibble of it is over 4. -/
def Low4 : Nat → Nat → Prop
  | 0, _ => True
  | n + 1, x => x % 256 % 16 ≤ 4 ∧ x % 256 / 16 ≤ 4 ∧ Low4 n (x / 256)
theorem low4_ff {n x : Nat} (h : Low4 (n + 1) x) : x % 16 ≤ 4 := by have := h.1; omega
theorem and15 (u : Nat) : u &&& 15 = u % 16 := by rw [show (15 : Nat) = 2 ^ 4 - 1 from rfl, Nat.and_two_pow_sub_one_eq_mod]
theorem stepC : ∀ n x, Low4 n x → (0 < n → x / 256 ^ n = 0) → (x / 16 + x) &&& rep8 15 n = by8 sC n x
  | 0, x, _, _ => by simp [rep8, by8]
  | n + 1, x, h, hx => by
    obtain ⟨e1, e2⟩ := rep8_mod 15 n (by decide)
    obtain ⟨g1, g2, g3⟩ := h
    rw [and_split, e1, e2]
    unfold by8 sC
    have hlow : x / 256 % 16 ≤ 4 := by
      cases n with
      | zero =>
        have := hx (by decide)
        rw [Nat.pow_succ, Nat.pow_zero, Nat.one_mul] at this
        omega
      | succ n => exact low4_ff g3
    have hx' : 0 < n → x / 256 / 256 ^ n = 0 := fun _ => by
      rw [Nat.div_div_eq_div_mul, Nat.mul_comm, ← Nat.pow_succ]
      exact hx (by omega)
    have h1 := stepC n (x / 256) g3 hx'
    have h3 : (x / 16 + x) % 256 = x % 256 / 16 + x % 256 + 16 * (x / 256 % 16) := by omega
    have h4 : (x / 16 + x) / 256 = x / 256 / 16 + x / 256 := by omega
    rw [h3, h4, h1, and15, and15]
    congr 1
    omega
theorem by8_mod (f : Nat → Nat) (n x : Nat) (h : f (x % 256) < 256) : by8 f (n + 1) x % 256 = f (x % 256) ∧ by8 f (n + 1) x / 256 = by8 f n (x / 256) := by
  show (f (x % 256) + 256 * by8 f n (x / 256)) % 256 = _ ∧ (f (x % 256) + 256 * by8 f n (x / 256)) / 256 = _
  omega
theorem by8_comp (f g : Nat → Nat) (h : ∀ a, a < 256 → f a < 256) : ∀ n x, by8 g n (by8 f n x) = by8 (fun a => g (f a)) n x
  | 0, x => rfl
  | n + 1, x => by
    obtain ⟨e1, e2⟩ := by8_mod f n x (h _ (Nat.mod_lt _ (by decide)))
    conv => lhs; unfold by8
    rw [e1, e2, by8_comp f g h n]
    rfl
theorem by8_lt (f : Nat → Nat) (h : ∀ a, a < 256 → f a < 256) : ∀ n x, by8 f n x < 256 ^ n
  | 0, x => Nat.one_pos
  | n + 1, x => by
    have h1 := by8_lt f h n (x / 256)
    have h2 := h (x % 256) (Nat.mod_lt _ (by decide))
    rw [Nat.pow_succ]
    unfold by8
    omega
theorem low4_by8 (f : Nat → Nat) (h : ∀ a, a < 256 → f a < 256 ∧ f a % 16 ≤ 4 ∧ f a / 16 ≤ 4) : ∀ n x, Low4 n (by8 f n x)
  | 0, x => trivial
  | n + 1, x => by
    have h1 := h (x % 256) (Nat.mod_lt _ (by decide))
    obtain ⟨e1, e2⟩ := by8_mod f n x h1.1
    show _ ∧ _ ∧ Low4 n _
    rw [e1, e2]
    exact ⟨h1.2.1, h1.2.2, low4_by8 f h n _⟩
/-- The sum over the bytes. -/
def sum8 (f : Nat → Nat) : Nat → Nat → Nat
  | 0, _ => 0
  | n + 1, x => f (x % 256) + sum8 f n (x / 256)
theorem sum8_cnt : ∀ n x, sum8 sT n x = cntB x.testBit (8 * n)
  | 0, x => rfl
  | n + 1, x => by
    unfold sum8
    rw [sT_is _ (Nat.mod_lt _ (by decide)), sum8_cnt n, Nat.mul_succ, Nat.add_comm (8 * n), cntB_add]
    congr 1
    · refine cntB_congr 8 fun j hj => ?_
      rw [show (256 : Nat) = 2 ^ 8 from rfl, Nat.testBit_mod_two_pow]
      simp [hj]
    · refine cntB_congr _ fun j hj => ?_
      rw [show (256 : Nat) = 2 ^ 8 from rfl, Nat.testBit_div_two_pow, Nat.add_comm]
/-- The steps of a word. -/
def pA (x : Nat) : Nat := (x / 2 &&& 6148914691236517205) + (x &&& 6148914691236517205)
def pB (x : Nat) : Nat := (x / 4 &&& 3689348814741910323) + (x &&& 3689348814741910323)
def pC (x : Nat) : Nat := (x / 16 + x) &&& 1085102592571150095
def pD (x : Nat) : Nat := x + x / 256
def pE (x : Nat) : Nat := x + x / 65536
def pF (x : Nat) : Nat := x + x / 4294967296
theorem pA_is (x : Nat) : pA x = by8 sA 8 x := by rw [← stepA 8 x, show rep8 85 8 = 6148914691236517205 from by decide]; rfl
theorem pB_is (x : Nat) : pB (pA x) = by8 (fun a => sB (sA a)) 8 x := by
  rw [pA_is, ← by8_comp sA sB sA_lt, ← stepB' 8, show rep8 51 8 = 3689348814741910323 from by decide]; rfl
theorem pC_is (x : Nat) : pC (pB (pA x)) = by8 sT 8 x := by
  rw [pB_is]
  have h1 := by8_comp (fun a => sB (sA a)) sC (fun a h => (sB_lt a h).1) 8 x
  show _ = by8 (fun a => sC (sB (sA a))) 8 x
  rw [← h1, ← stepC 8 _ (low4_by8 _ sB_lt 8 x) (fun _ => Nat.div_eq_of_lt (by8_lt _ (fun a h => (sB_lt a h).1) 8 x)), show rep8 15 8 = 1085102592571150095 from by decide]
  rfl
theorem sT_le : ∀ a, a < 256 → sT a ≤ 8 := fun a h => by rw [sT_is a h]; exact cntB_le _ _
theorem pop_bounds (x : Nat) : pA x < 18446744073709551616 ∧ pB (pA x) < 18446744073709551616 ∧ pC (pB (pA x)) < 18446744073709551616 := by
  refine ⟨?_, ?_, ?_⟩
  · rw [pA_is]; exact by8_lt sA sA_lt 8 x
  · rw [pB_is]; exact by8_lt _ (fun a h => (sB_lt a h).1) 8 x
  · rw [pC_is]; exact by8_lt _ (fun a h => Nat.lt_of_le_of_lt (sT_le a h) (by decide)) 8 x
theorem pop_end (x : Nat) (hx : x < 18446744073709551616) : pD (pC (pB (pA x))) < 18446744073709551616 ∧ pE (pD (pC (pB (pA x)))) < 18446744073709551616 ∧ pF (pE (pD (pC (pB (pA x))))) < 4611686018427387904 ∧ pF (pE (pD (pC (pB (pA x))))) % 128 = popN x := by
  have hs : popN x = sum8 sT 8 x := (sum8_cnt 8 x).symm
  rw [hs, pC_is]
  have T : ∀ y : Nat, ∃ t, t = sT (y % 256) ∧ t ≤ 8 := fun y => ⟨_, rfl, sT_le _ (Nat.mod_lt _ (by decide))⟩
  simp only [by8, sum8]
  obtain ⟨t0, e0, l0⟩ := T x
  obtain ⟨t1, e1, l1⟩ := T (x / 256)
  obtain ⟨t2, e2, l2⟩ := T (x / 256 / 256)
  obtain ⟨t3, e3, l3⟩ := T (x / 256 / 256 / 256)
  obtain ⟨t4, e4, l4⟩ := T (x / 256 / 256 / 256 / 256)
  obtain ⟨t5, e5, l5⟩ := T (x / 256 / 256 / 256 / 256 / 256)
  obtain ⟨t6, e6, l6⟩ := T (x / 256 / 256 / 256 / 256 / 256 / 256)
  obtain ⟨t7, e7, l7⟩ := T (x / 256 / 256 / 256 / 256 / 256 / 256 / 256)
  rw [← e0, ← e1, ← e2, ← e3, ← e4, ← e5, ← e6, ← e7]
  clear e0 e1 e2 e3 e4 e5 e6 e7 T hs
  obtain ⟨y, hy⟩ : ∃ y, y = t0 + 256 * (t1 + 256 * (t2 + 256 * (t3 + 256 * (t4 + 256 * (t5 + 256 * (t6 + 256 * (t7 + 256 * 0))))))) := ⟨_, rfl⟩
  rw [← hy]
  have d1 : pD y = (t0 + t1) + 256 * ((t1 + t2) + 256 * ((t2 + t3) + 256 * ((t3 + t4) + 256 * ((t4 + t5) + 256 * ((t5 + t6) + 256 * ((t6 + t7) + 256 * t7)))))) := by unfold pD; omega
  obtain ⟨z, hz⟩ : ∃ z, z = pD y := ⟨_, rfl⟩
  rw [← hz] at d1 ⊢
  have d2 : pE z = (t0 + t1 + t2 + t3) + 256 * ((t1 + t2 + t3 + t4) + 256 * ((t2 + t3 + t4 + t5) + 256 * ((t3 + t4 + t5 + t6) + 256 * ((t4 + t5 + t6 + t7) + 256 * ((t5 + t6 + t7) + 256 * ((t6 + t7) + 256 * t7)))))) := by unfold pE; omega
  obtain ⟨u, hu⟩ : ∃ u, u = pE z := ⟨_, rfl⟩
  rw [← hu] at d2 ⊢
  have d3 : u / 4294967296 = (t4 + t5 + t6 + t7) + 256 * ((t5 + t6 + t7) + 256 * ((t6 + t7) + 256 * t7)) := by omega
  unfold pF
  rw [d3]
  refine ⟨by omega, by omega, by omega, by omega⟩

end Go.Proofs.YthbophecmpdpdaaDoor

/- Rows of bools and of words of the call's own. -/
namespace Go.Proofs.YthbophecmpdpdaaDoor
set_option linter.unusedVariables false
set_option linter.unusedSimpArgs false
open Go.RowKit Dg

def bls (m : List Bool) : List Value := m.map fun b => Value.bool b
@[simp] theorem length_bls (m : List Bool) : (bls m).length = m.length := by simp [bls]
theorem bls_get (m : List Bool) (k : Nat) : (bls m)[k]? = m[k]?.map fun b => Value.bool b := by simp [bls]
theorem bls_set (m : List Bool) (k : Nat) (b : Bool) : bls (m.set k b) = (bls m).set k (.bool b) := by simp [bls]
/-- A row of bools of the call's own. -/
def OwnBls (w : World) (base : Nat) (v : Value) (m : List Bool) : Prop := w.ownsRow base 4 1 v m.length (bls m)
theorem OwnBls.nil (w : World) (base : Nat) : OwnBls w base (.slice none 0 0) [] := World.ownsRow_nil _ _ _ _
theorem bl_own_cell {w : World} {base g n c : Nat} {m : List Bool} {j : Nat} {x : Bool} (h : w.ownsRow base 4 1 (.slice (some ⟨g, 0, none⟩) n c) n (bls m)) (hx : m[j]? = some x) :
    w.cell? ⟨g, j, none⟩ = some (.bool x) ∧ w.frozen? ⟨g, j, none⟩ = false := by
  have hl : m.length = n := by have := h.1; simpa using this
  have hj : j < m.length := (List.getElem?_eq_some_iff.1 hx).1
  rcases h.2 with ⟨e1, _⟩ | ⟨g', cap', cur, hv, hgb, hh, hncap, _, hcs, htake⟩
  · cases e1
  · cases hv
    refine ⟨?_, by simp [World.frozen?, hh]⟩
    have e : (bls m)[j]? = some (.bool x) := by rw [bls_get, hx]; rfl
    rw [← htake, List.getElem?_take, if_pos (by omega)] at e
    simp only [World.cell?, hh]
    simpa using e
theorem OwnBls.slice {w : World} {base : Nat} {v : Value} {m : List Bool} (h : OwnBls w base v m) : ∃ a cap, v = .slice a m.length cap ∧ BlAt w a m ∧ (a = none ∧ m = [] ∧ cap = 0 ∨ ∃ g, a = some ⟨g, 0, none⟩ ∧ base ≤ g ∧ g < w.heap.size) := by
  have h' := h
  rcases h.2 with ⟨rfl, hn⟩ | ⟨g, cap, cur, rfl, hb, hh, hn, _, hcs, htake⟩
  · have : m = [] := List.eq_nil_of_length_eq_zero hn
    subst this
    exact ⟨none, 0, rfl, BlAt.nil w _, .inl ⟨rfl, rfl, rfl⟩⟩
  · refine ⟨some ⟨g, 0, none⟩, cap, rfl, fun j x hx => ⟨g, 0, rfl, ?_⟩, .inr ⟨g, rfl, hb, (Array.getElem?_eq_some_iff.1 hh).1⟩⟩
    rw [Nat.zero_add]
    exact (bl_own_cell h' hx).1
theorem made_bls (n : Nat) : (madeCells (Value.bool false).cells (n * 1)).toList = bls (List.replicate n false) := by
  apply List.ext_getElem?
  intro k
  by_cases hk : k < n
  · simp [madeCells, bls, hk, Value.cells, Nat.mod_one]
  · rw [List.getElem?_eq_none (by simp [madeCells]; omega), List.getElem?_eq_none (by simp; omega)]
theorem bl_own_new (w : World) (base : Nat) (Z : Array Value) (N : Nat) (m : List Bool) (hZ : Z.toList = bls m) (hl : m.length = N) (hN : N ≤ 1000000) (hb : base ≤ w.heap.size) :
    (w.alloc (.cells Z 4)).ownsRow base 4 1 (.slice (some ⟨w.heap.size, 0, none⟩) N N) N (bls m) := by
  have hs : Z.size = N := by have := congrArg List.length hZ; simpa [hl] using this
  refine ⟨by simp [hl], .inr ⟨w.heap.size, N, Z, rfl, hb, heap_alloc_new w _, Nat.le_refl _, by unfold maxLen; omega, by omega, ?_⟩⟩
  rw [hZ]; exact List.take_of_length_le (by simp [hl])

def w64s (l : List Nat) : List Value := l.map fun x : Nat => Value.int .u64 (x : Int)
@[simp] theorem length_w64s (l : List Nat) : (w64s l).length = l.length := by simp [w64s]
theorem w64s_get (l : List Nat) (k : Nat) : (w64s l)[k]? = l[k]?.map fun x : Nat => Value.int .u64 (x : Int) := by simp [w64s]
/-- A row of words of the call's own. -/
def OwnWs (w : World) (base : Nat) (v : Value) (l : List Nat) : Prop := w.ownsRow base 35 1 v l.length (w64s l)
theorem OwnWs.nil (w : World) (base : Nat) : OwnWs w base (.slice none 0 0) [] := World.ownsRow_nil _ _ _ _
/-- Words that can be read. -/
def WsAt (w : World) (a : Option Addr) (l : List Nat) : Prop := ∀ j x, l[j]? = some x → ∃ b off, a = some ⟨b, off, none⟩ ∧ w.cell? ⟨b, off + j, none⟩ = some (.int .u64 ((x : Nat) : Int))
theorem OwnWs.slice {w : World} {base : Nat} {v : Value} {l : List Nat} (h : OwnWs w base v l) : ∃ a cap, v = .slice a l.length cap ∧ WsAt w a l ∧ (a = none ∧ l = [] ∧ cap = 0 ∨ ∃ g, a = some ⟨g, 0, none⟩ ∧ base ≤ g ∧ g < w.heap.size) := by
  rcases h.2 with ⟨rfl, hn⟩ | ⟨g, cap, cur, rfl, hb, hh, hn, _, hcs, htake⟩
  · have : l = [] := List.eq_nil_of_length_eq_zero hn
    subst this
    exact ⟨none, 0, rfl, fun j x h => by simp at h, .inl ⟨rfl, rfl, rfl⟩⟩
  · refine ⟨some ⟨g, 0, none⟩, cap, rfl, fun j x hx => ⟨g, 0, rfl, ?_⟩, .inr ⟨g, rfl, hb, (Array.getElem?_eq_some_iff.1 hh).1⟩⟩
    rw [Nat.zero_add]
    have hj : j < l.length := (List.getElem?_eq_some_iff.1 hx).1
    have e : (w64s l)[j]? = some (.int .u64 (x : Int)) := by rw [w64s_get, hx]; rfl
    rw [← htake, List.getElem?_take, if_pos (by omega)] at e
    simp only [World.cell?, hh]
    simpa using e
/-- 'append(out, w)' of one word that was just built. -/
theorem wpList_append_w64 {P : Program} (w0 : World) {ops : Array Oper} {rest : List Oper} {o : Oper} {a : Act} {Q : Exit → Act → World → Prop}
    (hgd : o.guard = none) (s x : Operand) (t : TypeId) (ho : o.op = .call { callee := .builtin .append, args := #[s, x], argTypes := #[t, t] })
    (base : Nat) (i : TypeInfo) (ht : P.underlying t = some (.slice 35)) (hi : P.info? 35 = some i) (hz : i.zero = some (.int .u64 0)) (hsize : i.size = 1) (hby : i.bytes = 8)
    (v : Value) (l : List Nat) (hs : a.eval s = v) (hown : OwnWs w0 base v l) (y : Nat) (hx : a.eval x = .slice (some ⟨w0.heap.size, 0, none⟩) 1 1)
    (hl : l.length ≤ 1000000) (hbase : base ≤ w0.heap.size)
    (h : ∀ v' w', Hid (OwnWs w' base v' (l ++ [y])) → Hid (Below base w0 w') → wpList P ops Q rest (a.put o.dst v') w') : wpList P ops Q (o :: rest) a (w0.alloc (.cells #[.int .u64 (y : Int)] 35)) := by
  refine wpList_append_mine _ hgd s x t ho base 35 i (.int .u64 0) 1 8 ht hi hz hsize hby rfl (by decide) v l.length (w64s l) hs (World.ownsRow.alloc hown _) ⟨w0.heap.size, 0, none⟩ 1 1 [.int .u64 (y : Int)] hx rfl ?c1 ?c2 (by decide) ?b1 ?b2 ?b3 ?_
  case c1 => intro j u hj; match j, hj with | 0, hj => simp at hj; subst hj; simp [Addr.add]
  case c2 => intro u hu; simp at hu; subst hu; rfl
  case b1 => unfold maxLen; omega
  case b2 => omega
  case b3 => simp; omega
  intro g cap w' H1 HG HN
  refine h _ w' ?_ ?_
  · show World.ownsRow _ _ _ _ _ _ _
    have := H1.out
    simpa [w64s] using this
  · exact ((Below.refl base w0).alloc hbase _).grown HG.out (by simp; omega) (fun k hk => (World.ownsRow.lt hown k hk).1)
/-- 'append(row, b)' of one bool that was just built. -/
theorem wpList_append_bl {P : Program} (w0 : World) {ops : Array Oper} {rest : List Oper} {o : Oper} {a : Act} {Q : Exit → Act → World → Prop}
    (hgd : o.guard = none) (s x : Operand) (t : TypeId) (ho : o.op = .call { callee := .builtin .append, args := #[s, x], argTypes := #[t, t] })
    (base : Nat) (i : TypeInfo) (ht : P.underlying t = some (.slice 4)) (hi : P.info? 4 = some i) (hz : i.zero = some (.bool false)) (hsize : i.size = 1) (hby : i.bytes = 1)
    (v : Value) (l : List Bool) (hs : a.eval s = v) (hown : OwnBls w0 base v l) (y : Bool) (hx : a.eval x = .slice (some ⟨w0.heap.size, 0, none⟩) 1 1)
    (hl : l.length ≤ 1000000) (hbase : base ≤ w0.heap.size)
    (h : ∀ v' w', Hid (OwnBls w' base v' (l ++ [y])) → Hid (Below base w0 w') → wpList P ops Q rest (a.put o.dst v') w') : wpList P ops Q (o :: rest) a (w0.alloc (.cells #[.bool y] 4)) := by
  refine wpList_append_mine _ hgd s x t ho base 4 i (.bool false) 1 1 ht hi hz hsize hby rfl (by decide) v l.length (bls l) hs (World.ownsRow.alloc hown _) ⟨w0.heap.size, 0, none⟩ 1 1 [.bool y] hx rfl ?c1 ?c2 (by decide) ?b1 ?b2 ?b3 ?_
  case c1 => intro j u hj; match j, hj with | 0, hj => simp at hj; subst hj; simp [Addr.add]
  case c2 => intro u hu; simp at hu; subst hu; rfl
  case b1 => unfold maxLen; omega
  case b2 => omega
  case b3 => simp; omega
  intro g cap w' H1 HG HN
  refine h _ w' ?_ ?_
  · show World.ownsRow _ _ _ _ _ _ _
    have := H1.out
    simpa [bls] using this
  · exact ((Below.refl base w0).alloc hbase _).grown HG.out (by simp; omega) (fun k hk => (World.ownsRow.lt hown k hk).1)
set_option maxRecDepth 100000 in
theorem Tryd.infoBl : (Tryd.prog.info? 4).map (fun i => (i.zero, i.size, i.bytes)) = some (some (.bool false), 1, 1) := by kernel_rfl
set_option maxRecDepth 100000 in
theorem Tryd.infoW64 : (Tryd.prog.info? 35).map (fun i => (i.zero, i.size, i.bytes)) = some (some (.int .u64 0), 1, 8) := by kernel_rfl

set_option maxRecDepth 100000 in
set_option maxHeartbeats 1000000 in
theorem rmnew_any (w : World) (n : Nat) (h1 : 1 ≤ n) (h2 : n ≤ 4096) :
    Calls Tryd.prog 17 #[.int .i64 (n : Int)] w fun e w' => ∃ g, e = .returned (.tuple #[.slice (some ⟨g, 0, none⟩) n n, .bool true]) ∧ OwnBls w' w.heap.size (.slice (some ⟨g, 0, none⟩) n n) (List.replicate n false) ∧ Below w.heap.size w w' := by
  obtain ⟨i0, hi, hz0, hz1, hz2⟩ := info_parts Tryd.infoBl
  obtain ⟨Z, hZ⟩ : ∃ Z, Z = madeCells (Value.bool false).cells (n * i0.size) := ⟨_, rfl⟩
  have hmk : ∀ W : World, (Instr.makeSlice 41 (.int .i64 (n : Int)) (.int .i64 (n : Int))).run Tryd.prog W = .ok (.slice (some ⟨W.heap.size, 0, none⟩) n n) (W.alloc (.cells Z 4)) := by
    intro W
    have h := run_make (P := Tryd.prog) W 41 4 i0 (.bool false) Tryd.underlying41 hi hz0 .i64 .i64 n n (by omega) (by omega) (by rw [hz2]; omega) (by omega)
    simp only [Int.toNat_natCast] at h
    rw [hZ]
    exact h
  have hown : ∀ W : World, OwnBls (W.alloc (.cells Z 4)) W.heap.size (.slice (some ⟨W.heap.size, 0, none⟩) n n) (List.replicate n false) := fun W => by
    have := bl_own_new W W.heap.size Z n (List.replicate n false) (by rw [hZ, hz1]; exact made_bls n) (by simp) (by omega) (Nat.le_refl _)
    show World.ownsRow _ _ _ _ _ _ _
    rw [List.length_replicate]
    exact this
  have HO := hid_of hown
  clear hZ hown
  go_enter Tryd.func17, Tryd.ntmps17
  go_wp2_with fail
  go_ret2
  exact ⟨_, rfl, HO.out w, (Below.refl _ _).alloc (Nat.le_refl _) _⟩
set_option maxRecDepth 100000 in
set_option maxHeartbeats 1000000 in
theorem rmnew_no (w : World) (n : Int) (h : n < 1 ∨ 4096 < n) :
    Calls Tryd.prog 17 #[.int .i64 n] w fun e w' => e = .returned (.tuple #[.slice none 0 0, .bool false]) ∧ w = w' := by
  rcases (by omega : n < 1 ∨ (1 ≤ n ∧ 4096 < n)) with h | ⟨h0, h⟩
  · go_enter Tryd.func17, Tryd.ntmps17
    go_wp2_with fail
    go_ret2
    exact ⟨rfl, rfl⟩
  · go_enter Tryd.func17, Tryd.ntmps17
    go_wp2_with fail
    go_ret2
    exact ⟨rfl, rfl⟩

end Go.Proofs.YthbophecmpdpdaaDoor
