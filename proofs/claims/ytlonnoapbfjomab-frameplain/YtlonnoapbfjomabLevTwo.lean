/- Two rows of numbers of one's own, apart from each other; appends to them. -/
import Derived.Test.YtlonnoapbfjomabLev5
import Derived.Maps.AppendAt
namespace Go.Proofs.Ytlonnoapbfjomab
set_option linter.unusedVariables false
set_option linter.unusedSimpArgs false
open Go.RowKit Dg

structure F2 (W wr : World) (va vb : Value) (la lb : List Int) : Prop where
  a : OwnInts wr W.heap.size va la
  b : OwnInts wr W.heap.size vb lb
  ab : ∀ k, va.ownBlock = some k → vb.ownBlock ≠ some k
  bel : Below W.heap.size W wr
theorem F2.rot {W wr : World} {va vb : Value} {la lb : List Int} (h : F2 W wr va vb la lb) : F2 W wr vb va lb la := ⟨h.b, h.a, fun k hk e => h.ab k e hk, h.bel⟩
theorem F2.drew {W wr : World} {va vb : Value} {la lb : List Int} (h : F2 W wr va vb la lb) : F2 W wr.drew va vb la lb := ⟨World.ownsRow.drew h.a, World.ownsRow.drew h.b, h.ab, h.bel.drew⟩
theorem F2.alloc {W wr : World} {va vb : Value} {la lb : List Int} (h : F2 W wr va vb la lb) (o : Obj) : F2 W (wr.alloc o) va vb la lb := ⟨World.ownsRow.alloc h.a _, World.ownsRow.alloc h.b _, h.ab, h.bel.alloc h.bel.size _⟩
theorem F2.grow {W w w' : World} {va vb v' : Value} {la lb : List Int} {y : Int} (hf : F2 W w va vb la lb) (h1 : OwnInts w' W.heap.size v' (la ++ [y])) (h2 : Kept (fun k => va.ownBlock = some k) w w') (h3 : ∀ k, v'.ownBlock = some k → va.ownBlock = some k ∨ w.heap.size ≤ k) : F2 W w' v' vb (la ++ [y]) lb := by
  refine ⟨h1, ownsRow_other hf.b h2 (fun k hk e => hf.ab k e hk), fun k hk e => ?_, h2.below_of hf.bel (fun k hk => (World.ownsRow.lt hf.a k hk).1) hf.bel.size⟩
  rcases h3 k hk with h4 | h4
  · exact hf.ab k h4 e
  · have := (World.ownsRow.lt hf.b k e).2; omega
theorem wpList_append_f2 {P : Program} (W w0 : World) {ops : Array Oper} {rest : List Oper} {o : Oper} {a : Act} {Q : Exit → Act → World → Prop}
    (hgd : o.guard = none) (s x : Operand) (t : TypeId) (ho : o.op = .call { callee := .builtin .append, args := #[s, x], argTypes := #[t, t] })
    (i : TypeInfo) (ht : P.underlying t = some (.slice 3)) (hi : P.info? 3 = some i) (hz : i.zero = some (.int .i64 0)) (hsize : i.size = 1) (hby : i.bytes = 8)
    (va vb : Value) (la lb : List Int) (hs : a.eval s = va) (hf : F2 W w0 va vb la lb) (y : Int) (hx : a.eval x = .slice (some ⟨w0.heap.size, 0, none⟩) 1 1)
    (hl : la.length ≤ 1000000)
    (h : ∀ v' w', Hid (F2 W w' v' vb (la ++ [y]) lb) → wpList P ops Q rest (a.put o.dst v') w') : wpList P ops Q (o :: rest) a (w0.alloc (.cells #[.int .i64 y] 3)) := by
  refine wpList_append_int_mine w0 hgd s x t ho W.heap.size i ht hi hz hsize hby va la hs hf.a y hx hl hf.bel.size ?_
  intro v' w' h1 h2 h3
  exact h v' w' (hf.grow h1 h2 h3)
/-- 'append(z, n)' of one number that lies in a row of its own, as one step of a region that draws its order. -/
theorem step_append_f2 {P : Program} {ops : Array Oper} {o : Oper} {a : Act} (W w : World) {K : Act → World → Prop} {Q : Exit → Act → World → Prop} {E : Prop}
    (hgd : o.guard = none) (s x : Operand) (t : TypeId) (ho : o.op = .call { callee := .builtin .append, args := #[s, x], argTypes := #[t, t] })
    (i : TypeInfo) (ht : P.underlying t = some (.slice 3)) (hi : P.info? 3 = some i) (hz : i.zero = some (.int .i64 0)) (hsize : i.size = 1) (hby : i.bytes = 8)
    (va vb : Value) (la lb : List Int) (hs : a.eval s = va) (hf : F2 W w va vb la lb) (y : Int) (g : Nat) (hx : a.eval x = .slice (some ⟨g, 0, none⟩) 1 1) (hc : w.cell? ⟨g, 0, none⟩ = some (.int .i64 y))
    (hl : la.length ≤ 1000000)
    (hK : ∀ v' w', Hid (F2 W w' v' vb (la ++ [y]) lb) → Hid (Kept (fun k => va.ownBlock = some k) w w') → K (a.put o.dst v') w') :
    if Region.wanted o (yielded ops a.tmps) = true then Oper.wp P o a w K Q else E := by
  have hw : Region.wanted o (yielded ops a.tmps) = true := by simp [Region.wanted, hgd]
  rw [if_pos hw]
  obtain ⟨v', w', hrun, r1, r2, r3, r4⟩ := run_append_own_at (P := P) w W.heap.size t o.type 3 i (.int .i64 0) 1 8 ht hi hz hsize hby rfl (by decide) va la.length (i64s la) hf.a ⟨g, 0, none⟩ 1 1 [.int .i64 y] rfl
    (by intro j u hj; match j, hj with | 0, hj => simp at hj; subst hj; simpa [Addr.add] using hc) (by intro u hu; simp at hu; subst hu; rfl) (by unfold maxLen; omega) (by omega) hf.bel.size
  unfold Oper.wp
  simp [execOp, ho, resolve, invoke, builtin, hs, hx, hrun, Result.andThen]
  refine hK v' w' ?_ (Kept.grown r2)
  refine hf.grow ?_ (Kept.grown r2) ?_
  · show World.ownsRow _ _ _ _ _ _ _
    simpa [i64s] using r1
  · intro k hk
    rcases r4 with h | h
    · rw [h] at hk; exact .inl hk
    · rw [h] at hk; cases hk; exact .inr (Nat.le_refl _)

end Go.Proofs.Ytlonnoapbfjomab
