/- A sum behind a row; noughts behind a row: appends to rows of the call's own. -/
import Derived.Test.YthcjgcfmodkiiaaSums
import Derived.Lib.AppendZeros
namespace Go.Proofs.Ythcjgcfmodkiiaa
set_option linter.unusedVariables false
set_option linter.unusedSimpArgs false
open Go.RowKit Dg Cr

/-- An append whose run is known, also a guarded one. -/
theorem wpList_append_go {P : Program} (w : World) {ops : Array Oper} {rest : List Oper} {o : Oper} {a : Act} {Q : Exit → Act → World → Prop} (hw : Region.wanted o (yielded ops a.tmps) = true) (s x : Operand) (t tn : TypeId)
    (ho : o.op = .call { callee := .builtin .append, args := #[s, x], argTypes := #[t, tn] }) (vs vx : Value) (hs : a.eval s = vs) (hx : a.eval x = vx)
    (v' : Value) (w' : World) (hr : (Builtin.append_ #[t, tn] o.type #[vs, vx]).run P w = .ok v' w') (h : wpList P ops Q rest (a.put o.dst v') w') : wpList P ops Q (o :: rest) a w :=
  BigFrame.wpList_want hw fun K hK => Lib.wp_append_run w s x t tn ho vs vx hs hx v' w' hr (hK _ _ h)

theorem zeros_u8 (m : Nat) : (Builtin.zeroCells (Value.int .u8 0).cells m).toList = u8s (List.replicate m 0) := by
  apply List.ext_getElem?
  intro k
  by_cases hk : k < m
  · simp [Builtin.zeroCells, u8s, hk, Value.cells, Nat.mod_one]
  · rw [List.getElem?_eq_none (by simp [Builtin.zeroCells, Value.cells]; omega), List.getElem?_eq_none (by simp; omega)]

theorem made_zeros (n : Nat) : (madeCells (Value.int .u8 0).cells (n * 1)).toList = u8s (List.replicate n 0) := by
  apply List.ext_getElem?
  intro k
  by_cases hk : k < n
  · simp [madeCells, u8s, hk, Value.cells, Nat.mod_one]
  · rw [List.getElem?_eq_none (by simp [madeCells]; omega), List.getElem?_eq_none (by simp; omega)]

theorem u8s_append (l m : List Nat) : u8s (l ++ m) = u8s l ++ u8s m := by simp [u8s]

/-- 'append(x, make([]byte, m)...)' of a row of the call's own. -/
theorem run_zeros (w : World) (base g n cap m : Nat) (l : List Nat) (h : w.ownsRow base 5 1 (.slice (some ⟨g, 0, none⟩) n cap) n (u8s l)) (hm : n + m ≤ 1000000) (hbase : base ≤ w.heap.size) :
    ∃ g' cap' w', (Builtin.append_ #[22, 3] 22 #[.slice (some ⟨g, 0, none⟩) n cap, .int .i64 m]).run Try.prog w = .ok (.slice (some ⟨g', 0, none⟩) (n + m) cap') w' ∧
      w'.ownsRow base 5 1 (.slice (some ⟨g', 0, none⟩) (n + m) cap') (n + m) (u8s (l ++ List.replicate m 0)) ∧ w.grownBy w' (some g) := by
  obtain ⟨i0, hi, hz0, hz1, hz2⟩ := info_parts Try.info5
  have hln : l.length = n := by have := h.1; simpa using this
  have hw : IntKind.i64.wrap (m : Int) = m := by rw [IntKind.wrap_i64]; omega
  have hneg : ¬ ((m : Int) < 0) := by omega
  have h48i : ¬ (281474976710656 < (m : Int)) := by omega
  rcases h.2 with ⟨e1, _⟩ | ⟨g', cap', cur, hv, hgb, hh, hncap, hcm, hcs, htake⟩
  · cases e1
  · cases hv
    by_cases hroom : n + m ≤ cap
    · have hap : (if m = 0 then (pure #[] : Sem (Array Value)) else pure (Builtin.zeroCells (Value.int .u8 0).cells m)) = pure (u8s (List.replicate m 0)).toArray := by
        by_cases h0 : m = 0
        · subst h0; simp [u8s]
        · rw [if_neg h0, ← zeros_u8]
      have hst := run_storeCells_at Try.prog g n 5 (u8s (List.replicate m 0)) 0 cur w hh (by simp; omega) (fun u hu => by simp [u8s] at hu; obtain ⟨_, rfl⟩ := hu; rfl)
      simp only [Nat.add_zero] at hst
      refine ⟨g, cap, w.setRow g (cur.toList.take n ++ u8s (List.replicate m 0) ++ cur.toList.drop (n + (u8s (List.replicate m 0)).length)).toArray, ?_, ⟨by simp [hln], .inr ⟨g, cap, _, rfl, hgb, setRow_heap w g cur _ 5 _ hh, hroom, hcm, ?_, ?_⟩⟩, ⟨rfl, rfl, rfl, by simp, fun k _ hk => setRow_other w g k _ (fun e => hk (by simp [e]))⟩⟩
      · simp [Builtin.append_, run_underlying Try.underlying22, run_underlying Try.underlying3, sizeOf, typeInfo, zeroValue, hi, hz0, hz1, hz2, asInt, asIntOf, hw, hneg, h48i, hroom, Addr.add_lit, hap]
        have hst' : ∀ vs, vs = u8s (List.replicate m 0) → Sem.run Try.prog (storeCells ⟨g, n, none⟩ vs) w = .ok () (w.setRow g (cur.toList.take n ++ (u8s (List.replicate m 0) ++ cur.toList.drop (n + m))).toArray) := by
          intro vs hvs
          rw [hvs, hst]
          simp
        by_cases h0 : m = 0
        · rw [if_pos h0, hst' [] (by rw [h0]; rfl)]; rfl
        · rw [if_neg h0, hst' _ (zeros_u8 m)]; rfl
      · simp; omega
      · rw [u8s_append]
        have h1 : cur.toList.take n = u8s l := by simpa using htake
        rw [h1]
        simp [hln]
        rw [← List.append_assoc, List.take_append_of_le_length (by simp [hln]), List.take_of_length_le (by simp [hln])]
    · have hm0 : m ≠ 0 := by omega
      have h63' : ¬ (9223372036854775807 < (n : Int) + (m : Int)) := by omega
      have h48' : ¬ (281474976710656 < Builtin.nextslicecap (n + m) cap) := by
        have := growslice_fits (need := n + m) (old := cap) (bytes := 1) (by omega) (by omega)
        omega
      have holds : ∀ j u, (u8s l)[j]? = some u → w.cell? ((⟨g, 0, none⟩ : Addr).add j) = some u := h.cells (g := g) rfl
      have hf := run_firstCells_some (P := Try.prog) w.drew 1 n ⟨g, 0, none⟩ n cap (u8s l) (by simp [hln]) holds
      have hge := grownCap_ge w (n + m) cap 5
      have hcm' : grownCap w (n + m) cap 5 ≤ maxLen := grownCap_le_maxLen w (n + m) cap 5 (by unfold maxLen; omega)
      refine ⟨w.heap.size, grownCap w (n + m) cap 5, w.drew.alloc (.cells ((u8s l).toArray ++ Builtin.zeroCells (Value.int .u8 0).cells m ++ Builtin.zeroCells (Value.int .u8 0).cells (grownCap w (n + m) cap 5 - (n + m))) 5), ?_, ⟨by simp [hln], .inr ⟨w.heap.size, _, _, rfl, hbase, heap_alloc_new w.drew _, hge, hcm', ?_, ?_⟩⟩, ⟨rfl, rfl, rfl, by simp, fun k hk _ => Below.heap_alloc w.drew _ k hk⟩⟩
      · simp [Builtin.append_, run_underlying Try.underlying22, run_underlying Try.underlying3, sizeOf, typeInfo, zeroValue, hi, hz0, hz1, hz2, asInt, asIntOf, hw, hneg, h48i, hroom, hm0, h63', h48', Question.forced, hf, newRow, grownCap]
      · simp [size_zeroCells, Value.cells, hln]; omega
      · rw [u8s_append, ← zeros_u8]
        simp only [Array.toList_append, List.append_assoc]
        rw [← List.append_assoc, List.take_append_of_le_length (by simp [size_zeroCells, Value.cells, hln])]
        exact List.take_of_length_le (by simp [size_zeroCells, Value.cells, hln])

theorem own_cell {w : World} {base g n c : Nat} {l : List Nat} {j x : Nat} (h : w.ownsRow base 5 1 (.slice (some ⟨g, 0, none⟩) n c) n (u8s l)) (hx : l[j]? = some x) :
    w.cell? ⟨g, j, none⟩ = some (.int .u8 (x : Int)) ∧ w.frozen? ⟨g, j, none⟩ = false := by
  have hl : l.length = n := by have := h.1; simpa using this
  have hj : j < l.length := (List.getElem?_eq_some_iff.1 hx).1
  rcases h.2 with ⟨e1, _⟩ | ⟨g', cap', cur, hv, hgb, hh, hncap, _, hcs, htake⟩
  · cases e1
  · cases hv
    refine ⟨?_, by simp [World.frozen?, hh]⟩
    have e : (u8s l)[j]? = some (.int .u8 (x : Int)) := by rw [u8s_get, hx]; rfl
    rw [← htake, List.getElem?_take, if_pos (by omega)] at e
    simp only [World.cell?, hh]
    simpa using e
theorem own_set {w : World} {base g n c : Nat} {l : List Nat} (h : w.ownsRow base 5 1 (.slice (some ⟨g, 0, none⟩) n c) n (u8s l)) (j y : Nat) (hj : j < n) :
    (w.setCell ⟨g, j, none⟩ (.int .u8 (y : Int))).ownsRow base 5 1 (.slice (some ⟨g, 0, none⟩) n c) n (u8s (l.set j y)) := by
  rw [← u8s_set]; exact ownsRow_set h j hj _
theorem own_cap {w : World} {base g n c : Nat} {xs : List Value} (h : w.ownsRow base 5 1 (.slice (some ⟨g, 0, none⟩) n c) n xs) : n ≤ c ∧ c ≤ maxLen := by
  rcases h.2 with ⟨e1, _⟩ | ⟨g', cap', cur, hv, hgb, hh, hncap, hm, _⟩
  · cases e1
  · cases hv
    exact ⟨hncap, hm⟩
/-- A row that has just been made. -/
theorem own_new (w : World) (base : Nat) (Z : Array Value) (N : Nat) (l : List Nat) (hZ : Z.toList = u8s l) (hl : l.length = N) (hN : N ≤ 1000000) (hb : base ≤ w.heap.size) :
    (w.alloc (.cells Z 5)).ownsRow base 5 1 (.slice (some ⟨w.heap.size, 0, none⟩) N N) N (u8s l) := by
  have hs : Z.size = N := by have := congrArg List.length hZ; simpa [hl] using this
  refine ⟨by simp [hl], .inr ⟨w.heap.size, N, Z, rfl, hb, heap_alloc_new w _, Nat.le_refl _, by unfold maxLen; omega, by omega, ?_⟩⟩
  rw [hZ]; exact List.take_of_length_le (by simp [hl])
/-- A part of a row. -/
theorem own_part {w : World} {base g n c : Nat} {l : List Nat} (h : w.ownsRow base 5 1 (.slice (some ⟨g, 0, none⟩) n c) n (u8s l)) (i m c' : Nat) (him : i + m ≤ n) :
    SlAt w (.slice (some ⟨g, i, none⟩) m c') ((l.drop i).take m) := by
  have hl : l.length = n := by have := h.1; simpa using this
  refine ⟨some ⟨g, i, none⟩, c', by simp; omega, fun j x hx => ⟨g, i, rfl, ?_⟩⟩
  have hj : j < m := by have := (List.getElem?_eq_some_iff.1 hx).1; simp at this; omega
  rw [List.getElem?_take, if_pos hj, List.getElem?_drop] at hx
  exact (own_cell h hx).1
/-- The four bytes of a sum in new memory. -/
theorem four_at (w : World) (X : Nat) (hX : X < 4294967296) : SlAt (w.alloc (.cells #[.int .u8 ((X : Int) / 16777216), .int .u8 ((X : Int) / 65536 % 256), .int .u8 ((X : Int) / 256 % 256), .int .u8 ((X : Int) % 256)] 5)) (.slice (some ⟨w.heap.size, 0, none⟩) 4 4) (bytes4 X) := by
  refine ⟨some ⟨w.heap.size, 0, none⟩, 4, rfl, fun j x hx => ⟨w.heap.size, 0, rfl, ?_⟩⟩
  have h0 : ((X / 16777216 % 256 : Nat) : Int) = (X : Int) / 16777216 := by omega
  have h1 : ((X / 65536 % 256 : Nat) : Int) = (X : Int) / 65536 % 256 := by omega
  have h2 : ((X / 256 % 256 : Nat) : Int) = (X : Int) / 256 % 256 := by omega
  have h3 : ((X % 256 : Nat) : Int) = (X : Int) % 256 := by omega
  match j, hx with
  | 0, hx => simp [bytes4] at hx; subst hx; simp only [World.cell?, heap_alloc_new, h0]; rfl
  | 1, hx => simp [bytes4] at hx; subst hx; simp only [World.cell?, heap_alloc_new, h1]; rfl
  | 2, hx => simp [bytes4] at hx; subst hx; simp only [World.cell?, heap_alloc_new, h2]; rfl
  | 3, hx => simp [bytes4] at hx; subst hx; simp only [World.cell?, heap_alloc_new, h3]; rfl

/-- The four bytes of a sum behind a row of the call's own. -/
theorem wpList_append_four (w : World) {ops : Array Oper} {rest : List Oper} {o : Oper} {a : Act} {Q : Exit → Act → World → Prop}
    (hgd : o.guard = none) (s x : Operand) (ho : o.op = .call { callee := .builtin .append, args := #[s, x], argTypes := #[22, 22] })
    (base : Nat) (v : Value) (l : List Nat) (X : Nat) (hs : a.eval s = v) (hown : w.ownsRow base 5 1 v l.length (u8s l)) (hx : a.eval x = .slice (some ⟨w.heap.size, 0, none⟩) 4 4)
    (hX : X < 4294967296) (hl : l.length ≤ 1000) (hbase : base ≤ w.heap.size)
    (h : ∀ g cap w', Hid (w'.ownsRow base 5 1 (.slice (some ⟨g, 0, none⟩) (l.length + 4) cap) (l.length + 4) (u8s (l ++ bytes4 X))) → Hid (Kept (fun k => v.ownBlock = some k) w w') → Hid (base ≤ g ∧ g < w'.heap.size) →
      wpList Try.prog ops Q rest (a.put o.dst (.slice (some ⟨g, 0, none⟩) (l.length + 4) cap)) w') :
    wpList Try.prog ops Q (o :: rest) a (w.alloc (.cells #[.int .u8 ((X : Int) / 16777216), .int .u8 ((X : Int) / 65536 % 256), .int .u8 ((X : Int) / 256 % 256), .int .u8 ((X : Int) % 256)] 5)) := by
  obtain ⟨i0, hi, hz0, hz1, hz2⟩ := info_parts Try.info5
  have e4 : [Value.int .u8 ((X : Int) / 16777216), .int .u8 ((X : Int) / 65536 % 256), .int .u8 ((X : Int) / 256 % 256), .int .u8 ((X : Int) % 256)] = u8s (bytes4 X) := by
    have h0 : ((X / 16777216 % 256 : Nat) : Int) = (X : Int) / 16777216 := by omega
    have h1 : ((X / 65536 % 256 : Nat) : Int) = (X : Int) / 65536 % 256 := by omega
    have h2 : ((X / 256 % 256 : Nat) : Int) = (X : Int) / 256 % 256 := by omega
    have h3 : ((X % 256 : Nat) : Int) = (X : Int) % 256 := by omega
    simp only [u8s, bytes4, List.map_cons, List.map_nil, h0, h1, h2, h3]
  refine wpList_append_mine _ hgd s x 22 ho base 5 i0 (.int .u8 0) 1 1 Try.underlying22 hi hz0 hz1 hz2 rfl (by decide) v l.length (u8s l) hs (hown.alloc _) ⟨w.heap.size, 0, none⟩ 4 4 [.int .u8 ((X : Int) / 16777216), .int .u8 ((X : Int) / 65536 % 256), .int .u8 ((X : Int) / 256 % 256), .int .u8 ((X : Int) % 256)] hx rfl ?c1 ?c2 (by decide) ?b1 ?b2 ?b3 ?_
  case c1 =>
    intro j u hj
    match j, hj with
    | 0, hj => simp at hj; subst hj; simp [Addr.add]
    | 1, hj => simp at hj; subst hj; simp [Addr.add]
    | 2, hj => simp at hj; subst hj; simp [Addr.add]
    | 3, hj => simp at hj; subst hj; simp [Addr.add]
  case c2 => intro u hu; simp at hu; rcases hu with rfl | rfl | rfl | rfl <;> rfl
  case b1 => unfold maxLen; omega
  case b2 => omega
  case b3 => simp; omega
  intro g cap w' h1 h2 h3
  have h1' := h1.out
  rw [e4, ← u8s_append] at h1'
  refine h g cap w' h1' ?_ ⟨(h1'.lt g rfl).1, (h1'.lt g rfl).2⟩
  have hk := Kept.grown h2.out
  exact ⟨hk.os, hk.tape, hk.output, Nat.le_trans (by simp) hk.size, fun k hk' hf => (hk.block k (by simp; omega) hf).trans (Below.heap_alloc w _ k hk')⟩

end Go.Proofs.Ythcjgcfmodkiiaa
