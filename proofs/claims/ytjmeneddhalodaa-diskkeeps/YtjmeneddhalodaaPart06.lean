/- The texts IntsB, IntsC, Atom, DwMem, DwP1, DwP2, one behind the other. -/
import Derived.Test.YtjmeneddhalodaaPart05
import Derived.Deep.RegionLaw
import Derived.Test.YtjmeneddhalodaaPart01
import Derived.Laws.LoneSync
import Derived.Deep.MidRow
import Derived.Deep.WholeRow
import Derived.BigQuiet
import Derived.Great.Ranges

/- Numbers once more: Same at like numbers; appends to a row of numbers of the call's own, told more closely; parts of such rows. -/
namespace Go.Proofs.Ytjmeneddhalodaa
set_option linter.unusedVariables false
set_option linter.unusedSimpArgs false
open Go.RowKit Dg

theorem take_next (zs : List Int) (j : Nat) (y : Int) (h : zs[j]? = some y) : zs.take (j + 1) = zs.take j ++ [y] := by rw [List.take_add_one, h]; rfl
theorem OwnInts.at {w : World} {base n cap : Nat} {a : Option Addr} {l : List Int} (h : OwnInts w base (.slice a n cap) l) : IntsAt w a l := IntsAt.of_owns h
theorem own_lt {w : World} {base n cap : Nat} {a : Option Addr} {l : List Int} (h : OwnInts w base (.slice a n cap) l) : ∀ x, a = some x → x.block < w.heap.size := by
  intro x hx
  subst hx
  exact (World.ownsRow.lt h x.block rfl).2

/-- 'append(z, n)' of one number that was just built: all but its row is as it was. -/
theorem wpList_append_int_mine {P : Program} (w0 : World) {ops : Array Oper} {rest : List Oper} {o : Oper} {a : Act} {Q : Exit → Act → World → Prop}
    (hgd : o.guard = none) (s x : Operand) (t : TypeId) (ho : o.op = .call { callee := .builtin .append, args := #[s, x], argTypes := #[t, t] })
    (base : Nat) (i : TypeInfo) (ht : P.underlying t = some (.slice 3)) (hi : P.info? 3 = some i) (hz : i.zero = some (.int .i64 0)) (hsize : i.size = 1) (hby : i.bytes = 8)
    (v : Value) (l : List Int) (hs : a.eval s = v) (hown : OwnInts w0 base v l) (y : Int) (hx : a.eval x = .slice (some ⟨w0.heap.size, 0, none⟩) 1 1)
    (hl : l.length ≤ 1000000) (hbase : base ≤ w0.heap.size)
    (h : ∀ v' w', OwnInts w' base v' (l ++ [y]) → Kept (fun k => v.ownBlock = some k) w0 w' → (∀ k, v'.ownBlock = some k → v.ownBlock = some k ∨ w0.heap.size ≤ k) → wpList P ops Q rest (a.put o.dst v') w') : wpList P ops Q (o :: rest) a (w0.alloc (.cells #[.int .i64 y] 3)) := by
  refine wpList_append_mine _ hgd s x t ho base 3 i (.int .i64 0) 1 8 ht hi hz hsize hby rfl (by decide) v l.length (i64s l) hs (World.ownsRow.alloc hown _) ⟨w0.heap.size, 0, none⟩ 1 1 [.int .i64 y] hx rfl ?c1 ?c2 (by decide) ?b1 ?b2 ?b3 ?_
  case c1 => intro j u hj; match j, hj with | 0, hj => simp at hj; subst hj; simp [Addr.add]
  case c2 => intro u hu; simp at hu; subst hu; rfl
  case b1 => unfold maxLen; omega
  case b2 => omega
  case b3 => simp; omega
  intro g cap w' H1 HG HN
  refine h _ w' ?_ ((Kept.alloc _ w0 _).trans (Kept.grown HG.out)) ?_
  · show World.ownsRow _ _ _ _ _ _ _
    have := H1.out
    simpa [i64s] using this
  · intro k hk
    simp [Value.ownBlock] at hk
    subst hk
    rcases HN.out with h2 | h2
    · exact .inl h2
    · simp at h2
      exact .inr (by omega)

/-- 'append(z, n)' of one number that was just built, its outcome named. -/
theorem wpList_append_int_as {P : Program} (w0 : World) {ops : Array Oper} {rest : List Oper} {o : Oper} {a : Act} {Q : Exit → Act → World → Prop}
    (hgd : o.guard = none) (s x : Operand) (t : TypeId) (ho : o.op = .call { callee := .builtin .append, args := #[s, x], argTypes := #[t, t] })
    (base : Nat) (i : TypeInfo) (ht : P.underlying t = some (.slice 3)) (hi : P.info? 3 = some i) (hz : i.zero = some (.int .i64 0)) (hsize : i.size = 1) (hby : i.bytes = 8)
    (v : Value) (l us : List Int) (hs : a.eval s = v) (hown : OwnInts w0 base v l) (y : Int) (hus : us = l ++ [y]) (hx : a.eval x = .slice (some ⟨w0.heap.size, 0, none⟩) 1 1)
    (hl : l.length ≤ 1000000) (hbase : base ≤ w0.heap.size)
    (h : ∀ ya yc w', Hid (OwnInts w' base (.slice ya us.length yc) us) → Hid (IntsAt w' ya us) → Hid (Below base w0 w') → wpList P ops Q rest (a.put o.dst (.slice ya us.length yc)) w') : wpList P ops Q (o :: rest) a (w0.alloc (.cells #[.int .i64 y] 3)) := by
  refine wpList_append_int w0 hgd s x t ho base i ht hi hz hsize hby v l hs hown y hx hl hbase ?_
  intro v' w' h1 h2
  rw [← hus] at h1
  obtain ⟨ya, yc, rfl, hy, _⟩ := h1.out.slice
  exact h ya yc w' h1 hy h2

/-- Numbers that can be read, and their room. -/
structure Ns (w : World) (a : Option Addr) (cap : Nat) (l : List Int) : Prop where
  at_ : IntsAt w a l
  le : l.length ≤ cap
  nil : a = none → cap = 0
theorem IntsAt.mono {w w' : World} {a : Option Addr} {l : List Int} (h : IntsAt w a l) (hb : Below w.heap.size w w') : IntsAt w' a l := by
  intro j x hx
  obtain ⟨b, off, rfl, hc⟩ := h j x hx
  refine ⟨b, off, rfl, ?_⟩
  rw [hb.cell (p := ⟨b, off + j, none⟩) (World.block_lt_of_cell? w _ hc)]
  exact hc
theorem Ns.mono {w w' : World} {a : Option Addr} {cap : Nat} {l : List Int} (h : Ns w a cap l) (hb : Below w.heap.size w w') : Ns w' a cap l := ⟨h.at_.mono hb, h.le, h.nil⟩
theorem IntsAt.drewN {w : World} {a : Option Addr} {l : List Int} (h : IntsAt w a l) (n : Nat) : IntsAt (w.drewN n) a l := h
theorem Ns.drewN {w : World} {a : Option Addr} {cap : Nat} {l : List Int} (h : Ns w a cap l) (n : Nat) : Ns (w.drewN n) a cap l := ⟨h.at_.drewN n, h.le, h.nil⟩
theorem OwnInts.mono {w w' : World} {base : Nat} {v : Value} {l : List Int} (h : OwnInts w base v l) (hb : Below w.heap.size w w') : OwnInts w' base v l := h.below hb (fun k hk => (World.ownsRow.lt h k hk).2)
theorem OwnInts.base {w : World} {base base' : Nat} {v : Value} {l : List Int} (h : OwnInts w base v l) (hb : base' ≤ base) : OwnInts w base' v l := ownsRow_base h hb
theorem OwnInts.drewN {w : World} {base : Nat} {v : Value} {l : List Int} (h : OwnInts w base v l) (n : Nat) : OwnInts (w.drewN n) base v l := h
theorem OwnInts.ns {w : World} {base : Nat} {v : Value} {l : List Int} (h : OwnInts w base v l) : ∃ a cap, v = .slice a l.length cap ∧ Ns w a cap l ∧ (a = none ∧ l = [] ∧ cap = 0 ∨ ∃ g, a = some ⟨g, 0, none⟩) ∧ cap ≤ maxLen := by
  have h' := h
  rcases h.2 with ⟨rfl, hn⟩ | ⟨g, cap, cur, rfl, hb, hh, hn, hm, hcs, htake⟩
  · have : l = [] := List.eq_nil_of_length_eq_zero hn
    subst this
    exact ⟨none, 0, rfl, ⟨IntsAt.nil w _, Nat.le_refl _, fun _ => rfl⟩, .inl ⟨rfl, rfl, rfl⟩, by decide⟩
  · exact ⟨some ⟨g, 0, none⟩, cap, rfl, ⟨IntsAt.of_owns h, hn, fun e => by cases e⟩, .inr ⟨g, rfl⟩, hm⟩
/-- A row of numbers that was just built. -/
theorem OwnInts.lit (w : World) (base : Nat) (l : List Int) (n : Nat) (hn : l.length = n) (hb : base ≤ w.heap.size) (hl : n ≤ 1000000) (cs : Array Value) (hcs : cs.toList = i64s l) : OwnInts (w.alloc (.cells cs 3)) base (.slice (some ⟨w.heap.size, 0, none⟩) n n) l := by
  subst hn
  have hs : cs.size = l.length := by have := congrArg List.length hcs; simpa using this
  have := World.ownsRow_lit (e := 3) (size := 1) (base := base) w cs l.length hb (by unfold maxLen; omega) (by omega)
  show World.ownsRow _ _ _ _ _ _ _
  rw [← hcs]
  exact this
theorem slice_ints (a : Option Addr) (n cap k : Nat) (hk : k ≤ cap) (W : World) : (Instr.sliceAt 45 (.slice a n cap) none (some (.int .i64 (k : Int))) none).run Try.prog W = .ok (.slice a k cap) W := by
  obtain ⟨i0, hi, hz0, hz1, hz2⟩ := info_parts Try.info3
  simp [Instr.sliceAt, Instr.slice, Instr.sliceBounds, Instr.sliceBound, asIntOf, run_underlying Try.underlying45, sizeOf, typeInfo, hi, hk]
  cases a <;> simp [Addr.add]
theorem i64s_append (l m : List Int) : i64s (l ++ m) = i64s l ++ i64s m := by simp [i64s]
/-- 'append(s, x...)' of numbers to a row of the call's own. -/
theorem wpList_append_ints (w : World) {ops : Array Oper} {rest : List Oper} {o : Oper} {a : Act} {Q : Exit → Act → World → Prop}
    (hgd : o.guard = none) (s x : Operand) (ho : o.op = .call { callee := .builtin .append, args := #[s, x], argTypes := #[45, 45] })
    (base : Nat) (v : Value) (l : List Int) (hs : a.eval s = v) (hown : OwnInts w base v l) (xa : Option Addr) (xc : Nat) (m : List Int) (hx : a.eval x = .slice xa m.length xc) (hm : Ns w xa xc m)
    (hl : l.length + m.length ≤ 1000000) (hbase : base ≤ w.heap.size)
    (h : ∀ v' w', Hid (OwnInts w' base v' (l ++ m)) → Hid (Kept (fun k => v.ownBlock = some k) w w') → Hid (∀ k, v'.ownBlock = some k → v.ownBlock = some k ∨ w.heap.size ≤ k) → wpList Try.prog ops Q rest (a.put o.dst v') w') : wpList Try.prog ops Q (o :: rest) a w := by
  obtain ⟨i0, hi, hz0, hz1, hz2⟩ := info_parts Try.info3
  have hown' : w.ownsRow base 3 1 v l.length (i64s l) := hown
  cases xa with
  | none =>
    have hc := hm.nil rfl
    have hle := hm.le
    have hm0 : m = [] := List.eq_nil_of_length_eq_zero (by omega)
    subst hm0 hc
    refine wpList_append_own_none hgd s x 45 ho base 3 i0 1 Try.underlying45 hi v l.length (i64s l) hs hown' hx ?_
    refine h v w ?_ (Kept.refl _ _) (fun k hk => .inl hk)
    rw [List.append_nil]; exact hown
  | some ad =>
    have hcell : ∀ j u, (i64s m)[j]? = some u → w.cell? (ad.add j) = some u := by
      intro j u hu
      rw [i64s_get] at hu
      obtain ⟨y, hy, rfl⟩ := Option.map_eq_some_iff.1 hu
      obtain ⟨b, off, e, hc⟩ := hm.at_ j y hy
      cases e
      have hadd : (⟨b, off, none⟩ : Addr).add j = ⟨b, off + j, none⟩ := by simp [Addr.add]
      rw [hadd]
      exact hc
    have hone : ∀ u ∈ i64s m, u.oneCell' = true := by intro u hu; simp [i64s] at hu; obtain ⟨y, _, rfl⟩ := hu; rfl
    by_cases hne : m = []
    · subst hne
      rcases hown'.2 with ⟨hv, hn⟩ | ⟨g, cap, cur, hv, hb, hh, hn, hcm, hcs, htake⟩
      · refine wpList_append_own _ hgd s x 45 ho base 3 i0 (.int .i64 0) 1 8 Try.underlying45 hi hz0 hz1 hz2 rfl (by decide) v l.length (i64s l) hs hown' ad 0 xc [] hx rfl (fun j u hu => by simp at hu) (fun u hu => by simp at hu) (by unfold maxLen; omega) (by omega) hbase ?_
        intro v' w' h1 h2 h3
        have hv' : v' = .slice none 0 0 := h3.2 ⟨hv, rfl⟩
        refine h v' w' ?_ (Kept.grown h2) (fun k hk => by rw [hv'] at hk; cases hk)
        show World.ownsRow _ _ _ _ _ _ _
        simpa [i64s_append] using h1
      · refine wpList_append_fits w hgd s x 45 ho base 3 i0 1 Try.underlying45 hi hz1 g l.length cap (i64s l) (hs.trans hv) (hv ▸ hown') ad 0 xc [] hx rfl (fun j u hu => by simp at hu) (fun u hu => by simp at hu) (by omega) ?_
        intro w' h1 h2
        refine h _ w' ?_ ?_ (fun k hk => .inl ?_)
        · show World.ownsRow _ _ _ _ _ _ _
          simpa [i64s_append] using h1
        · have := Kept.grown h2
          rw [hv]; exact this
        · rw [hv]; exact hk
    · refine wpList_append_mine _ hgd s x 45 ho base 3 i0 (.int .i64 0) 1 8 Try.underlying45 hi hz0 hz1 hz2 rfl (by decide) v l.length (i64s l) hs hown' ad m.length xc (i64s m) hx (by simp) hcell hone (List.length_pos_iff.2 hne) (by unfold maxLen; omega) (by omega) hbase ?_
      intro g cap w' h1 h2 h3
      refine h _ w' ?_ (Kept.grown h2.out) (fun k hk => ?_)
      · show World.ownsRow _ _ _ _ _ _ _
        rw [i64s_append, List.length_append]; exact h1.out
      · simp [Value.ownBlock] at hk
        subst hk
        exact h3.out

/-- 'append(z, n)' of one number that was just built, as one step of a region that draws its order. -/
theorem step_append_int {P : Program} {ops : Array Oper} {o : Oper} {a : Act} (w0 : World) {K : Act → World → Prop} {Q : Exit → Act → World → Prop} {E : Prop}
    (hgd : o.guard = none) (s x : Operand) (t : TypeId) (ho : o.op = .call { callee := .builtin .append, args := #[s, x], argTypes := #[t, t] })
    (base : Nat) (i : TypeInfo) (ht : P.underlying t = some (.slice 3)) (hi : P.info? 3 = some i) (hz : i.zero = some (.int .i64 0)) (hsize : i.size = 1) (hby : i.bytes = 8)
    (v : Value) (l : List Int) (hs : a.eval s = v) (hown : OwnInts w0 base v l) (y : Int) (hx : a.eval x = .slice (some ⟨w0.heap.size, 0, none⟩) 1 1)
    (hl : l.length ≤ 1000000) (hbase : base ≤ w0.heap.size)
    (hK : ∀ v' w', Hid (OwnInts w' base v' (l ++ [y])) → Hid (Below base w0 w') → K (a.put o.dst v') w') :
    if Region.wanted o (yielded ops a.tmps) = true then Oper.wp P o a (w0.alloc (.cells #[.int .i64 y] 3)) K Q else E := by
  have hw : Region.wanted o (yielded ops a.tmps) = true := by simp [Region.wanted, hgd]
  rw [if_pos hw]
  obtain ⟨v', w', hrun, r1, r2, r3⟩ := run_append_own (P := P) (w0.alloc (.cells #[.int .i64 y] 3)) base t o.type 3 i (.int .i64 0) 1 8 ht hi hz hsize hby rfl (by decide) v l.length (i64s l) (World.ownsRow.alloc hown _) ⟨w0.heap.size, 0, none⟩ 1 1 [.int .i64 y] rfl
    (by intro j u hj; match j, hj with | 0, hj => simp at hj; subst hj; simp [Addr.add]) (by intro u hu; simp at hu; subst hu; rfl) (by unfold maxLen; omega) (by omega) (by simp; omega)
  unfold Oper.wp
  simp [execOp, ho, resolve, invoke, builtin, hs, hx, hrun, Result.andThen]
  refine hK v' w' ?_ ?_
  · show World.ownsRow _ _ _ _ _ _ _
    simpa [i64s] using r1
  · exact ((Below.refl base w0).alloc hbase _).grown r2 (by simp; omega) (fun k hk => (World.ownsRow.lt hown k hk).1)

end Go.Proofs.Ytjmeneddhalodaa

/- Numbers a third time: x[k:]; rows of noughts that were made. -/
namespace Go.Proofs.Ytjmeneddhalodaa
set_option linter.unusedVariables false
set_option linter.unusedSimpArgs false
open Go.RowKit Dg

/-- Where 'x[k:]' begins. -/
def lowI (a : Option Addr) (cap k : Nat) : Option Addr := if cap = k then a else a.map fun x => x.add k
theorem slice_ints_lo (a : Option Addr) (n cap k : Nat) (hk : k ≤ n) (W : World) : (Instr.sliceAt 45 (.slice a n cap) (some (.int .i64 (k : Int))) none none).run Try.prog W = .ok (.slice (lowI a cap k) (n - k) (cap - k)) W := by
  obtain ⟨i0, hi, hz0, hz1, hz2⟩ := info_parts Try.info3
  simp [Instr.sliceAt, Instr.slice, Instr.sliceBounds, Instr.sliceBound, asIntOf, run_underlying Try.underlying45, sizeOf, typeInfo, hi, hz1, hk, lowI]
theorem IntsAt.drop {w : World} {a : Option Addr} {cap : Nat} {l : List Int} (h : IntsAt w a l) (hc : l.length ≤ cap) (k : Nat) : IntsAt w (lowI a cap k) (l.drop k) := by
  intro j x hx
  rw [List.getElem?_drop] at hx
  have hj : k + j < l.length := (List.getElem?_eq_some_iff.1 hx).1
  obtain ⟨b, off, rfl, hcell⟩ := h (k + j) x hx
  refine ⟨b, off + k, ?_, ?_⟩
  · unfold lowI
    rw [if_neg (by omega)]
    simp [Addr.add]
  · rw [Nat.add_assoc]
    exact hcell
theorem madeI (n : Nat) : (madeCells (Value.int .i64 0).cells (n * 1)).toList = i64s (List.replicate n 0) := by
  apply List.ext_getElem?
  intro k
  by_cases hk : k < n
  · simp [madeCells, i64s, hk, Value.cells, Nat.mod_one]
  · rw [List.getElem?_eq_none (by simp [madeCells]; omega), List.getElem?_eq_none (by simp; omega)]
/-- A row of noughts that was just made. -/
theorem OwnInts.made {w : World} {base : Nat} {v : Value} {Z : List Int} (hZ : Z = List.replicate Z.length 0) (h : w.ownsRow base 3 1 v Z.length (madeCells (Value.int .i64 0).cells Z.length).toList) : OwnInts w base v Z := by
  show World.ownsRow _ _ _ _ _ _ _
  have e := madeI Z.length
  rw [← hZ, Nat.mul_one] at e
  rw [← e]; exact h

end Go.Proofs.Ytjmeneddhalodaa

/- Counts kept by sync/atomic. -/
namespace Go.Proofs.Ytjmeneddhalodaa
set_option linter.unusedVariables false
set_option linter.unusedSimpArgs false
open Go.RowKit

set_option maxRecDepth 100000 in
/-- '(*sync/atomic.Int64).Add', '.Load' of a count. -/
theorem aadd_any (a : Addr) (x y : Int) (w : World) (hc : w.cell? a = some (.int .i64 x)) (hz : w.frozen? a = false) (h1 : -1000000 ≤ x) (h2 : x ≤ 1000000) (h3 : -1000000 ≤ y) (h4 : y ≤ 1000000) :
    Calls Try.prog 38 #[.pointer (some a), .int .i64 y] w fun e w' => e = .returned (.int .i64 (x + y)) ∧ w' = w.setCell a (.int .i64 (x + y)) := by
  have hs : (Op.intArith .add .i64 x y).run Try.prog w = .ok (.int .i64 (x + y)) w := by
    have e : IntKind.i64.wrap (x + y) = x + y := Go.IntWalk.i64_in _ (by omega)
    simp [Op.intArith, e]
  have hl := run_call_add (P := Try.prog) Try.func59 (by kernel_rfl) (by kernel_rfl) (by kernel_rfl) .i64 (by kernel_rfl) hc hz hs
  go_enter Try.func38, Try.ntmps38
  go_wp2
  go_ret
  exact ⟨rfl, rfl⟩
set_option maxRecDepth 100000 in
theorem aload_any (a : Addr) (x : Int) (w : World) (hc : w.cell? a = some (.int .i64 x)) :
    Calls Try.prog 58 #[.pointer (some a)] w fun e w' => e = .returned (.int .i64 x) ∧ w = w' := by
  have hl := run_call_load (P := Try.prog) Try.func63 (by kernel_rfl) (by kernel_rfl) (by kernel_rfl) .i64 (by kernel_rfl) hc
  go_enter Try.func58, Try.ntmps58
  go_wp2
  go_ret
  exact ⟨rfl, rfl⟩

theorem aload_quiet (a : Addr) (x : Int) (w : World) (k : Nat) (hc : w.cell? a = some (.int .i64 x)) :
    Calls Try.prog 58 #[.pointer (some a)] (w.drewN k) fun e w'' => e = .returned (.int .i64 x) ∧ ∃ m, w'' = w.drewN m :=
  (aload_any a x (w.drewN k) hc).mono fun e w'' ⟨h1, h2⟩ => ⟨h1, k, h2.symm⟩

end Go.Proofs.Ytjmeneddhalodaa

/- The program's disk in memory: what is kept, what waits (bytes and all), and for each sector how many wait up to its last write. -/
namespace Go.Proofs.Ytjmeneddhalodaa
set_option linter.unusedVariables false
set_option linter.unusedSimpArgs false
open Go.RowKit Dg

/-- How many wait up to the last write of a sector, of the first j. -/
def lastN (W : List (Nat × List Nat)) (k : Nat) : Nat → Nat
  | 0 => 0
  | j + 1 => match W[j]? with
    | some p => if p.1 = k then j + 1 else lastN W k j
    | none => lastN W k j
theorem lastN_le (W : List (Nat × List Nat)) (k : Nat) : ∀ j, lastN W k j ≤ j
  | 0 => Nat.le_refl _
  | j + 1 => by
    unfold lastN
    have := lastN_le W k j
    split
    · split <;> omega
    · omega
theorem lastN_hit (W : List (Nat × List Nat)) (k : Nat) : ∀ j, j ≤ W.length → lastN W k j ≠ 0 → ∃ p, W[lastN W k j - 1]? = some p ∧ p.1 = k ∧ lastW W k j = some p.2
  | 0, _, h => absurd rfl h
  | j + 1, hj, h => by
    unfold lastN at h ⊢
    unfold lastW
    rw [List.getElem?_eq_getElem (by omega : j < W.length)] at h ⊢
    simp only at h ⊢
    by_cases e : (W[j]).1 = k
    · rw [if_pos e, if_pos e]
      exact ⟨W[j], by rw [Nat.add_sub_cancel, List.getElem?_eq_getElem], e, rfl⟩
    · rw [if_neg e] at h ⊢
      rw [if_neg e]
      exact lastN_hit W k j (by omega) h
theorem lastN_none (W : List (Nat × List Nat)) (k : Nat) : ∀ j, j ≤ W.length → lastN W k j = 0 → lastW W k j = none ∧ ∀ i, i < j → ∀ p, W[i]? = some p → p.1 ≠ k
  | 0, _, _ => ⟨rfl, fun i hi => absurd hi (Nat.not_lt_zero _)⟩
  | j + 1, hj, h => by
    unfold lastN at h
    unfold lastW
    rw [List.getElem?_eq_getElem (by omega : j < W.length)] at h ⊢
    simp only at h ⊢
    by_cases e : (W[j]).1 = k
    · rw [if_pos e] at h; omega
    · rw [if_neg e] at h
      rw [if_neg e]
      obtain ⟨h1, h2⟩ := lastN_none W k j (by omega) h
      refine ⟨h1, fun i hi p hp => ?_⟩
      rcases Nat.lt_or_ge i j with h3 | h3
      · exact h2 i h3 p hp
      · have e2 : i = j := by omega
        subst e2
        rw [List.getElem?_eq_getElem (by omega)] at hp
        cases hp
        exact e
theorem lastN_map (W : List (Nat × List Nat)) (f : Nat × List Nat → Nat × List Nat) (hf : ∀ p, (f p).1 = p.1) (k : Nat) : ∀ j, lastN (W.map f) k j = lastN W k j
  | 0 => rfl
  | j + 1 => by
    unfold lastN
    rw [List.getElem?_map]
    cases W[j]? with
    | none => exact lastN_map W f hf k j
    | some p =>
      show (if (f p).1 = k then _ else _) = _
      rw [hf, lastN_map W f hf k j]
theorem lastN_more (W V : List (Nat × List Nat)) (k : Nat) : ∀ j, j ≤ W.length → lastN (W ++ V) k j = lastN W k j
  | 0, _ => rfl
  | j + 1, h => by
    unfold lastN
    rw [List.getElem?_append_left (by omega), lastN_more W V k j (by omega)]
theorem lastN_push (W : List (Nat × List Nat)) (i : Nat) (b : List Nat) (k : Nat) : lastN (W ++ [(i, b)]) k (W.length + 1) = if i = k then W.length + 1 else lastN W k W.length := by
  conv => lhs; unfold lastN
  rw [List.getElem?_append_right (Nat.le_refl _), Nat.sub_self]
  show (if i = k then _ else _) = _
  rw [lastN_more W _ k _ (Nat.le_refl _)]
/-- For each sector. -/
def lastI (W : List (Nat × List Nat)) (n : Nat) : List Int := (List.range n).map fun k => ((lastN W k W.length : Nat) : Int)
theorem length_lastI (W : List (Nat × List Nat)) (n : Nat) : (lastI W n).length = n := by simp [lastI]
theorem lastI_get {W : List (Nat × List Nat)} {n k : Nat} (h : k < n) : (lastI W n)[k]? = some ((lastN W k W.length : Nat) : Int) := by
  unfold lastI
  rw [List.getElem?_map, List.getElem?_range h]
  rfl
theorem lastI_nil (n : Nat) : lastI [] n = List.replicate n 0 := by
  refine List.ext_getElem? fun k => ?_
  rcases Nat.lt_or_ge k n with h | h
  · rw [lastI_get h, List.getElem?_replicate, if_pos h]; rfl
  · rw [List.getElem?_eq_none (by rw [length_lastI]; exact h), List.getElem?_eq_none (by simp; exact h)]
theorem lastI_push {W : List (Nat × List Nat)} {n i : Nat} (b : List Nat) (h : i < n) : lastI (W ++ [(i, b)]) n = (lastI W n).set i ((W.length + 1 : Nat) : Int) := by
  refine List.ext_getElem? fun k => ?_
  rcases Nat.lt_or_ge k n with hk | hk
  · rw [lastI_get hk, List.length_append, List.getElem?_set]
    show some ((lastN (W ++ [(i, b)]) k (W.length + 1) : Nat) : Int) = _
    rw [lastN_push]
    by_cases e : i = k
    · rw [if_pos e, if_pos e, if_pos (by rw [length_lastI]; omega)]
    · rw [if_neg e, if_neg e, lastI_get hk]
  · rw [List.getElem?_eq_none (by rw [length_lastI]; exact hk), List.getElem?_eq_none (by simp [length_lastI]; exact hk)]
theorem lastI_map (W : List (Nat × List Nat)) (f : Nat × List Nat → Nat × List Nat) (hf : ∀ p, (f p).1 = p.1) (n : Nat) : lastI (W.map f) n = lastI W n := by
  unfold lastI
  rw [List.length_map]
  exact List.map_congr_left fun k _ => by rw [lastN_map W f hf]
/-- The sectors of the first j writes are forgotten. -/
def zeroTo (W : List (Nat × List Nat)) (L : List Int) : Nat → List Int
  | 0 => L
  | j + 1 => (zeroTo W L j).set (W.getD j (0, [])).1 0
theorem length_zeroTo (W : List (Nat × List Nat)) (L : List Int) : ∀ j, (zeroTo W L j).length = L.length
  | 0 => rfl
  | j + 1 => by unfold zeroTo; rw [List.length_set, length_zeroTo W L j]
theorem zeroTo_get (W : List (Nat × List Nat)) (L : List Int) (k : Nat) : ∀ j, j ≤ W.length → ((zeroTo W L j)[k]? = some 0 ∧ k < L.length) ∨ ((zeroTo W L j)[k]? = L[k]? ∧ ∀ i, i < j → ∀ p, W[i]? = some p → p.1 ≠ k) ∨ L.length ≤ k
  | 0, _ => .inr (.inl ⟨rfl, fun i hi => absurd hi (Nat.not_lt_zero _)⟩)
  | j + 1, hj => by
    have e0 : W.getD j (0, []) = W[j] := by rw [List.getD_eq_getElem?_getD, List.getElem?_eq_getElem (by omega)]; rfl
    unfold zeroTo
    rw [e0, List.getElem?_set, length_zeroTo]
    rcases Nat.lt_or_ge k L.length with hk | hk
    · by_cases e : (W[j]).1 = k
      · rw [if_pos e, if_pos (by omega)]; exact .inl ⟨rfl, hk⟩
      · rw [if_neg e]
        rcases zeroTo_get W L k j (by omega) with h | ⟨h, h2⟩ | h
        · exact .inl h
        · refine .inr (.inl ⟨h, fun i hi p hp => ?_⟩)
          rcases Nat.lt_or_ge i j with h3 | h3
          · exact h2 i h3 p hp
          · have e2 : i = j := by omega
            subst e2
            rw [List.getElem?_eq_getElem (by omega)] at hp
            cases hp
            exact e
        · exact .inr (.inr h)
    · exact .inr (.inr hk)
theorem zeroTo_end (W : List (Nat × List Nat)) (n : Nat) : zeroTo W (lastI W n) W.length = lastI [] n := by
  rw [lastI_nil]
  refine List.ext_getElem? fun k => ?_
  rw [List.getElem?_replicate]
  rcases zeroTo_get W (lastI W n) k W.length (Nat.le_refl _) with ⟨h1, h2⟩ | ⟨h1, h2⟩ | h1
  · rw [length_lastI] at h2; rw [if_pos h2]; exact h1
  · rw [h1]
    rcases Nat.lt_or_ge k n with hk | hk
    · rw [lastI_get hk, if_pos hk]
      by_cases h3 : lastN W k W.length = 0
      · rw [h3]; rfl
      · exfalso
        obtain ⟨p, h4, h5, -⟩ := lastN_hit W k W.length (Nat.le_refl _) h3
        exact h2 _ (by have := lastN_le W k W.length; omega) p h4 h5
    · rw [List.getElem?_eq_none (by rw [length_lastI]; exact hk), if_neg (by omega)]
  · rw [length_lastI] at h1
    rw [List.getElem?_eq_none (by rw [length_zeroTo, length_lastI]; exact h1), if_neg (by omega)]

/-- A write as cells. -/
def cellsP (p : Nat × List Nat) : List Value := .int .i64 (p.1 : Int) :: u8s p.2
def cellsV (W : List (Nat × List Nat)) : List Value := W.flatMap cellsP
theorem length_cellsP {p : Nat × List Nat} (h : p.2.length = 128) : (cellsP p).length = 129 := by simp [cellsP, u8s, h]
theorem length_cellsV : ∀ {W : List (Nat × List Nat)}, (∀ p ∈ W, p.2.length = 128) → (cellsV W).length = W.length * 129
  | [], _ => rfl
  | p :: W, h => by
    have h1 := length_cellsV (W := W) fun q hq => h q (List.mem_cons_of_mem _ hq)
    have h2 := length_cellsP (h p (List.mem_cons_self ..))
    unfold cellsV at h1 ⊢
    rw [List.flatMap_cons, List.length_append, h1, h2, List.length_cons]
    omega
theorem cellsV_append (W V : List (Nat × List Nat)) : cellsV (W ++ V) = cellsV W ++ cellsV V := by simp [cellsV]
theorem cellsV_one (p : Nat × List Nat) : cellsV [p] = cellsP p := by simp [cellsV]
theorem cellsV_get : ∀ {W : List (Nat × List Nat)}, (∀ p ∈ W, p.2.length = 128) → ∀ (j : Nat) (p : Nat × List Nat), W[j]? = some p → ∀ i, i < 129 → (cellsV W)[j * 129 + i]? = (cellsP p)[i]?
  | [], _, j, p, h, _, _ => by simp at h
  | q :: W, hW, 0, p, h, i, hi => by
    simp at h
    subst h
    unfold cellsV
    rw [List.flatMap_cons, Nat.zero_mul, Nat.zero_add, List.getElem?_append_left (by rw [length_cellsP (hW _ (List.mem_cons_self ..))]; exact hi)]
  | q :: W, hW, j + 1, p, h, i, hi => by
    have h1 := cellsV_get (W := W) (fun q hq => hW q (List.mem_cons_of_mem _ hq)) j p (by simpa using h) i hi
    have h2 := length_cellsP (hW q (List.mem_cons_self ..))
    unfold cellsV at h1 ⊢
    rw [List.flatMap_cons, List.getElem?_append_right (by rw [h2]; omega), h2, show (j + 1) * 129 + i - 129 = j * 129 + i by omega, h1]
theorem cellsP_one (p : Nat × List Nat) : ∀ u ∈ cellsP p, u.oneCell' = true := by
  intro u hu
  rcases List.mem_cons.1 hu with rfl | hu
  · rfl
  · obtain ⟨x, -, rfl⟩ := List.mem_map.1 hu; rfl
theorem cellsV_cell (W : List (Nat × List Nat)) : ∀ u ∈ cellsV W, u.oneCell' = true := by
  intro u hu
  obtain ⟨p, -, h⟩ := List.mem_flatMap.1 hu
  exact cellsP_one p u h

/-- The blocks of a disk. -/
structure DwB where
  gK : Nat
  cK : Nat
  vW : Value
  gL : Nat
  cL : Nat
  left : Int
/-- A disk of the program: its fields, its bytes, its writes, its list L. -/
structure DwIs (w : World) (b : Nat) (x : DwB) (L : List Int) (s : Sk) : Prop where
  box : w.heap[b]? = some (.cells #[.slice (some ⟨x.gK, 0, none⟩) s.B.length x.cK, x.vW, .slice (some ⟨x.gL, 0, none⟩) (s.B.length / 128) x.cL, .bool s.stop.isSome, .int .i64 x.left, .bool s.dead, .int .i64 (s.reads : Int), .int .i64 (s.writes : Int), .int .i64 (s.flushes : Int)] 72 (0, 0))
  bs : OwnBytes w 0 (.slice (some ⟨x.gK, 0, none⟩) s.B.length x.cK) s.B
  ls : OwnInts w 0 (.slice (some ⟨x.gL, 0, none⟩) (s.B.length / 128) x.cL) L
  ws : w.ownsRow 0 75 129 x.vW s.W.length (cellsV s.W)
  at1 : ∀ k : Nat, s.stop = some k → x.left = (k : Int)
  at2 : 0 ≤ x.left ∧ x.left ≤ 9223372036854775807
  fine : s.Fine
  ne1 : b ≠ x.gK ∧ b ≠ x.gL ∧ x.gK ≠ x.gL
  ne2 : x.vW.ownBlock ≠ some b ∧ x.vW.ownBlock ≠ some x.gK ∧ x.vW.ownBlock ≠ some x.gL
/-- Its blocks. -/
def DwB.own (x : DwB) (b k : Nat) : Prop := k = b ∨ k = x.gK ∨ k = x.gL ∨ x.vW.ownBlock = some k
def DwAt (w : World) (b : Nat) (F G : Nat → Prop) (s : Sk) : Prop := ∃ x : DwB, DwIs w b x (lastI s.W (s.B.length / 128)) s ∧ (∀ k, x.own b k → F k) ∧ (∀ k, F k → G k) ∧ ∀ k, G k → k < w.heap.size
theorem DwIs.kept {w w' : World} {b : Nat} {x : DwB} {L : List Int} {s : Sk} {X : Nat → Prop} (h : DwIs w b x L s) (hk : Kept X w w') (hX : ∀ k, x.own b k → ¬ X k) : DwIs w' b x L s :=
  { h with
    box := by rw [hk.block b (Array.getElem?_eq_some_iff.1 h.box).1 (hX b (.inl rfl))]; exact h.box
    bs := ownsRow_other h.bs hk (fun k e => by cases e; exact hX _ (.inr (.inl rfl)))
    ls := ownsRow_other h.ls hk (fun k e => by cases e; exact hX _ (.inr (.inr (.inl rfl))))
    ws := ownsRow_other h.ws hk (fun k e => hX k (.inr (.inr (.inr e)))) }
theorem DwAt.keep {w w' : World} {b : Nat} {F G : Nat → Prop} {s : Sk} {X : Nat → Prop} (h : DwAt w b F G s) (hk : Kept X w w') (hX : ∀ k, G k → ¬ X k) : DwAt w' b F G s := by
  obtain ⟨x, h0, h1, h2, h3⟩ := h
  exact ⟨x, h0.kept hk (fun k e => hX k (h2 k (h1 k e))), h1, h2, fun k e => Nat.lt_of_lt_of_le (h3 k e) hk.size⟩
theorem DwAt.arms {w : World} {b : Nat} {F G : Nat → Prop} {s : Sk} (h : DwAt w b F G s) : s.Fine ∧ (∀ k, F k → G k) ∧ ∀ k, G k → k < w.heap.size := by
  obtain ⟨x, h0, h1, h2, h3⟩ := h
  exact ⟨h0.fine, h2, h3⟩
theorem DwIs.cell {w : World} {b : Nat} {x : DwB} {L : List Int} {s : Sk} (h : DwIs w b x L s) : w.cell? ⟨b, 0, none⟩ = some (.slice (some ⟨x.gK, 0, none⟩) s.B.length x.cK) ∧ w.cell? ⟨b, 1, none⟩ = some x.vW ∧ w.cell? ⟨b, 2, none⟩ = some (.slice (some ⟨x.gL, 0, none⟩) (s.B.length / 128) x.cL) ∧ w.cell? ⟨b, 3, none⟩ = some (.bool s.stop.isSome) ∧ w.cell? ⟨b, 4, none⟩ = some (.int .i64 x.left) ∧ w.cell? ⟨b, 5, none⟩ = some (.bool s.dead) ∧ w.cell? ⟨b, 6, none⟩ = some (.int .i64 (s.reads : Int)) ∧ w.cell? ⟨b, 7, none⟩ = some (.int .i64 (s.writes : Int)) ∧ w.cell? ⟨b, 8, none⟩ = some (.int .i64 (s.flushes : Int)) := by
  simp [World.cell?, h.box]
theorem DwIs.froz {w : World} {b : Nat} {x : DwB} {L : List Int} {s : Sk} (h : DwIs w b x L s) (o : Nat) : w.frozen? ⟨b, o, none⟩ = false := by simp [World.frozen?, h.box]
theorem DwIs.form {w : World} {b : Nat} {x : DwB} {L : List Int} {s : Sk} (h : DwIs w b x L s) : ∃ a c, x.vW = .slice a s.W.length c ∧ ((s.W.length = 0 ∧ a = none ∧ c = 0) ∨ ∃ g, a = some ⟨g, 0, none⟩) := by
  rcases h.ws.2 with ⟨e, hn⟩ | ⟨g, cap, cur, e, r⟩
  · exact ⟨none, 0, by rw [hn]; exact e, .inl ⟨hn, rfl, rfl⟩⟩
  · exact ⟨_, _, e, .inr ⟨g, rfl⟩⟩
/-- The fields alone turned. -/
theorem DwIs.put {w w' : World} {b : Nat} {x x' : DwB} {L : List Int} {s s' : Sk} (h : DwIs w b x L s) (hk : Kept (fun k => k = b) w w') (hB : s'.B = s.B) (hW : s'.W = s.W) (hx : x' = { x with left := x'.left })
    (hbox : w'.heap[b]? = some (.cells #[.slice (some ⟨x.gK, 0, none⟩) s.B.length x.cK, x.vW, .slice (some ⟨x.gL, 0, none⟩) (s.B.length / 128) x.cL, .bool s'.stop.isSome, .int .i64 x'.left, .bool s'.dead, .int .i64 (s'.reads : Int), .int .i64 (s'.writes : Int), .int .i64 (s'.flushes : Int)] 72 (0, 0)))
    (h1 : ∀ k : Nat, s'.stop = some k → x'.left = (k : Int)) (h2 : 0 ≤ x'.left ∧ x'.left ≤ 9223372036854775807) : DwIs w' b x' L s' := by
  have e1 : x'.gK = x.gK := by rw [hx]
  have e2 : x'.cK = x.cK := by rw [hx]
  have e3 : x'.vW = x.vW := by rw [hx]
  have e4 : x'.gL = x.gL := by rw [hx]
  have e5 : x'.cL = x.cL := by rw [hx]
  refine ⟨by rw [hB, e1, e2, e3, e4, e5]; exact hbox, ?_, ?_, ?_, h1, h2, ?_, by rw [e1, e4]; exact h.ne1, by rw [e1, e3, e4]; exact h.ne2⟩
  · rw [hB, e1, e2]; exact ownsRow_other h.bs hk (fun k e => by cases e; exact fun e => h.ne1.1 e.symm)
  · rw [hB, e4, e5]; exact ownsRow_other h.ls hk (fun k e => by cases e; exact fun e => h.ne1.2.1 e.symm)
  · rw [hW, e3]; exact ownsRow_other h.ws hk (fun k e e2 => h.ne2.1 (by rw [e, e2]))
  · exact ⟨by rw [hB]; exact h.fine.n, by rw [hB]; exact h.fine.b256, by rw [hB, hW]; exact h.fine.w⟩

end Go.Proofs.Ytjmeneddhalodaa

/- The program's disk: Len, has, Waiting, Dead, sector, stops, Stop, Counts, Image. -/
namespace Go.Proofs.Ytjmeneddhalodaa
set_option linter.unusedVariables false
set_option linter.unusedSimpArgs false
open Go.RowKit Dg

set_option maxRecDepth 100000 in
set_option maxHeartbeats 1000000 in
theorem dwlen_is (w : World) (b : Nat) (x : DwB) (L : List Int) (s : Sk) (h : DwIs w b x L s) (n : Nat) (hn : n = s.B.length / 128) :
    Calls Try.prog 53 #[.pointer (some ⟨b, 0, none⟩)] w fun e w' => e = .returned (.int .i64 (n : Int)) ∧ w = w' := by
  obtain ⟨c0, c1, c2, -⟩ := h.cell
  rw [← hn] at c2
  clear h hn
  go_enter Try.func53, Try.ntmps53
  go_wp2
  go_ret
  exact ⟨rfl, rfl⟩
set_option maxRecDepth 100000 in
set_option maxHeartbeats 1000000 in
theorem dwhas_is (w : World) (b : Nat) (x : DwB) (L : List Int) (s : Sk) (h : DwIs w b x L s) (i : Int) (hi : I64 i) (R : Bool) (hR : R = decide (s.fits i)) :
    Calls Try.prog 36 #[.pointer (some ⟨b, 0, none⟩), .int .i64 i] w fun e w' => e = .returned (.bool R) ∧ w = w' := by
  obtain ⟨n, hn⟩ : ∃ n, n = s.B.length / 128 := ⟨_, rfl⟩
  have HL := hid_of (dwlen_is w b x L s h n hn)
  obtain ⟨hi1, hi2⟩ := hi
  have hnl : n ≤ 4096 := by have := h.fine.le; omega
  rcases (by omega : i < 0 ∨ (0 ≤ i ∧ i < (n : Int)) ∨ (0 ≤ i ∧ (n : Int) ≤ i)) with h1 | ⟨h1, h2⟩ | ⟨h1, h2⟩
  · have hR' : R = false := by rw [hR]; exact decide_eq_false (fun e => by have := e.1; omega)
    subst hR'
    clear h hn hR
    go_enter Try.func36, Try.ntmps36
    go_wp2_with fail
    go_ret
    exact ⟨rfl, rfl⟩
  · have hR' : R = true := by rw [hR]; exact decide_eq_true ⟨h1, by rw [← hn]; exact h2⟩
    subst hR'
    clear h hn hR
    go_enter Try.func36, Try.ntmps36
    go_wp2_with fail
    refine HL.out.mono ?_
    rintro e w1 ⟨rfl, rfl⟩
    go_wp2_with fail
    go_ret
    exact ⟨rfl, rfl⟩
  · have hR' : R = false := by rw [hR]; exact decide_eq_false (fun e => by have := e.2; rw [← hn] at this; omega)
    subst hR'
    have hb : decide (i < (n : Int)) = false := decide_eq_false (by omega)
    clear h hn hR
    go_enter Try.func36, Try.ntmps36
    go_wp2_with fail
    refine HL.out.mono ?_
    rintro e w1 ⟨rfl, rfl⟩
    go_wp2_with fail
    go_ret
    exact ⟨rfl, rfl⟩
set_option maxRecDepth 100000 in
set_option maxHeartbeats 1000000 in
theorem dwwait_is (w : World) (b : Nat) (x : DwB) (L : List Int) (s : Sk) (h : DwIs w b x L s) (n : Nat) (hn : n = s.W.length) :
    Calls Try.prog 17 #[.pointer (some ⟨b, 0, none⟩)] w fun e w' => e = .returned (.int .i64 (n : Int)) ∧ w = w' := by
  obtain ⟨c0, c1, -⟩ := h.cell
  obtain ⟨a, c, hv, -⟩ := h.form
  rw [hv, ← hn] at c1
  clear h hn hv
  go_enter Try.func17, Try.ntmps17
  go_wp2
  go_ret
  exact ⟨rfl, rfl⟩
set_option maxRecDepth 100000 in
set_option maxHeartbeats 1000000 in
theorem dwdead_is (w : World) (b : Nat) (x : DwB) (L : List Int) (s : Sk) (h : DwIs w b x L s) (q : Bool) (hq : q = s.dead) :
    Calls Try.prog 14 #[.pointer (some ⟨b, 0, none⟩)] w fun e w' => e = .returned (.bool q) ∧ w = w' := by
  obtain ⟨c0, c1, c2, c3, c4, c5, -⟩ := h.cell
  rw [← hq] at c5
  clear h hq
  go_enter Try.func14, Try.ntmps14
  go_wp2
  go_ret
  exact ⟨rfl, rfl⟩
theorem DwIs.cap {w : World} {b : Nat} {x : DwB} {L : List Int} {s : Sk} (h : DwIs w b x L s) : s.B.length ≤ x.cK ∧ s.B.length / 128 ≤ x.cL ∧ L.length = s.B.length / 128 := by
  refine ⟨(own_cap h.bs).1, ?_⟩
  rcases h.ls.2 with ⟨e, _⟩ | ⟨g, cap, cur, e, _, _, hn, -⟩
  · cases e
  · simp only [Value.slice.injEq, Option.some.injEq] at e
    obtain ⟨-, e2, e3⟩ := e
    exact ⟨by rw [e2, e3]; exact hn, e2.symm⟩
set_option maxRecDepth 100000 in
set_option maxHeartbeats 1000000 in
theorem dwsector_is (w : World) (b : Nat) (x : DwB) (L : List Int) (s : Sk) (h : DwIs w b x L s) (k : Nat) (hk : k * 128 + 128 ≤ s.B.length) (lo cc : Nat) (hlo : lo = k * 128) (hcc : cc = x.cK - lo) :
    Calls Try.prog 40 #[.pointer (some ⟨b, 0, none⟩), .int .i64 (k : Int)] w fun e w' => e = .returned (.slice (some ⟨x.gK, lo, none⟩) 128 cc) ∧ w = w' := by
  obtain ⟨c0, -⟩ := h.cell
  have hcap := h.cap.1
  have hle := h.fine.le
  obtain ⟨N, hN⟩ : ∃ N, N = s.B.length := ⟨_, rfl⟩
  rw [← hN] at c0 hk hcap hle
  have hkl : k ≤ 4096 := by omega
  have hlo' : (k : Int) * 128 = (lo : Int) := by omega
  have h1 : ∀ W : World, (Instr.sliceAt 30 (.slice (some ⟨x.gK, 0, none⟩) N x.cK) (some (.int .i64 (lo : Int))) none none).run Try.prog W = .ok (.slice (some ⟨x.gK, lo, none⟩) (N - lo) cc) W := fun W => by
    have e := slice_lo (some ⟨x.gK, 0, none⟩) N x.cK lo (by omega) W
    unfold lowA at e
    rw [if_neg (by omega)] at e
    have e2 : (some (⟨x.gK, 0, none⟩ : Addr)).map (·.add lo) = some ⟨x.gK, lo, none⟩ := by simp [Addr.add]; exact fun e => e.symm
    rw [e2, ← hcc] at e
    exact e
  have h2 : ∀ W : World, (Instr.sliceAt 30 (.slice (some ⟨x.gK, lo, none⟩) (N - lo) cc) none (some (.int .i64 128)) none).run Try.prog W = .ok (.slice (some ⟨x.gK, lo, none⟩) 128 cc) W := fun W => slice_hi _ _ _ 128 (by omega) W
  clear h hN hlo hcc
  go_enter Try.func40, Try.ntmps40
  go_wp2_with fail
  go_ret
  exact ⟨rfl, rfl⟩
set_option maxRecDepth 100000 in
set_option maxHeartbeats 1000000 in
theorem dwstops_is (w : World) (b : Nat) (x : DwB) (L : List Int) (s : Sk) (h : DwIs w b x L s) :
    Calls Try.prog 37 #[.pointer (some ⟨b, 0, none⟩)] w fun e w' => e = .returned (.bool s.arm.dead) ∧ DwIs w' b x L s.arm ∧ Kept (fun k => k = b) w w' := by
  obtain ⟨c0, c1, c2, c3, c4, c5, -⟩ := h.cell
  have f5 := h.froz 5
  have H := hid_of h
  rcases hst : s.stop with _ | k
  · have e : s.arm = s := by unfold Sk.arm; rw [hst]; rfl
    rw [e]
    rw [hst] at c3
    change _ = some (Value.bool false) at c3
    clear h hst e
    go_enter Try.func37, Try.ntmps37
    go_wp2
    go_ret
    exact ⟨rfl, H.out, Kept.refl _ _⟩
  · have ha := h.at1 k hst
    rw [hst] at c3
    change _ = some (Value.bool true) at c3
    by_cases hk : k = 0
    · subst hk
      have e : s.arm = { s with dead := true } := by unfold Sk.arm; rw [hst]; rfl
      rw [e]
      rw [ha] at c4
      change _ = some (Value.int .i64 0) at c4
      have H1 : Hid (DwIs (w.setCell ⟨b, 5, none⟩ (.bool true)) b x L { s with dead := true }) := by
        refine h.put (s' := { s with dead := true }) (Kept.setCell _ _ _ rfl) rfl rfl rfl ?_ h.at1 h.at2
        rw [heap_setCell_of h.box]
        rfl
      clear h hst e ha
      go_enter Try.func37, Try.ntmps37
      go_wp2
      go_ret
      exact ⟨rfl, H1.out, Kept.setCell _ _ _ rfl⟩
    · have e : s.arm = s := by unfold Sk.arm; rw [hst, if_neg (by simpa using hk)]
      rw [e]
      have hne : (x.left == 0) = false := beq_eq_false_iff_ne.2 (by rw [ha]; omega)
      clear h hst e ha
      go_enter Try.func37, Try.ntmps37
      go_wp2
      go_ret
      exact ⟨rfl, H.out, Kept.refl _ _⟩
set_option maxRecDepth 100000 in
set_option maxHeartbeats 1000000 in
theorem dwstop_is (w : World) (b : Nat) (x : DwB) (L : List Int) (s : Sk) (h : DwIs w b x L s) (a : Int) (ha : I64 a) :
    Calls Try.prog 11 #[.pointer (some ⟨b, 0, none⟩), .int .i64 a] w fun e w' => e = .returned (.tuple #[]) ∧ (∃ m, DwIs w' b { x with left := m } L (s.stopS a)) ∧ Kept (fun k => k = b) w w' := by
  have f3 := h.froz 3
  have f4 := h.froz 4
  obtain ⟨c0, c1, c2, c3, c4, -⟩ := h.cell
  obtain ⟨ha1, ha2⟩ := ha
  have HK : Hid (∀ m : Value, Kept (fun k => k = b) w ((w.setCell ⟨b, 3, none⟩ (.bool true)).setCell ⟨b, 4, none⟩ m)) := fun m => (Kept.setCell (F := fun k => k = b) _ _ _ rfl).trans (Kept.setCell _ _ _ rfl)
  have H1 : Hid (∀ m : Int, m = (a.toNat : Int) → DwIs ((w.setCell ⟨b, 3, none⟩ (.bool true)).setCell ⟨b, 4, none⟩ (.int .i64 m)) b { x with left := m } L (s.stopS a)) := fun m hm => by
    refine h.put (s' := s.stopS a) (x' := { x with left := m }) (HK.out _) rfl rfl rfl ?_ (fun k hk => ?_) ?_
    · rw [heap_setCell_of (heap_setCell_of h.box _)]
      rfl
    · have e : a.toNat = k := by simpa [Sk.stopS] using hk
      show m = _
      rw [hm, e]
    · show 0 ≤ m ∧ m ≤ _
      omega
  clear h
  rcases (by omega : a < 0 ∨ 0 ≤ a) with hneg | hpos
  · go_enter Try.func11, Try.ntmps11
    go_wp2
    go_end0
    first | exact ⟨rfl, ⟨0, H1.out 0 (by omega)⟩, HK.out _⟩ | exact ⟨rfl, ⟨max a 0, H1.out (max a 0) (by omega)⟩, HK.out _⟩
  · go_enter Try.func11, Try.ntmps11
    go_wp2
    go_end0
    first | exact ⟨rfl, ⟨a, H1.out a (by omega)⟩, HK.out _⟩ | exact ⟨rfl, ⟨max a 0, H1.out (max a 0) (by omega)⟩, HK.out _⟩
set_option maxRecDepth 100000 in
set_option maxHeartbeats 1000000 in
theorem dwcounts_is (w : World) (b : Nat) (x : DwB) (L : List Int) (s : Sk) (h : DwIs w b x L s) :
    Calls Try.prog 52 #[.pointer (some ⟨b, 0, none⟩)] w fun e w' => e = .returned (.tuple #[.int .i64 (s.reads : Int), .int .i64 (s.writes : Int), .int .i64 (s.flushes : Int)]) ∧ ∃ d, w' = w.drewN d := by
  obtain ⟨-, -, -, -, -, -, c6, c7, c8⟩ := h.cell
  clear h
  go_enter Try.func52, Try.ntmps52
  go_wp2_with fail
  go_quiet (first
    | (go_at_call_of 58 (Value.pointer (some ⟨b, 6, none⟩)); exact aload_quiet _ _ _ _ c6)
    | (go_at_call_of 58 (Value.pointer (some ⟨b, 7, none⟩)); exact aload_quiet _ _ _ _ c7)
    | (go_at_call_of 58 (Value.pointer (some ⟨b, 8, none⟩)); exact aload_quiet _ _ _ _ c8))
  go_wp2_with fail
  go_ret3
  exact ⟨rfl, nq, rfl⟩

end Go.Proofs.Ytjmeneddhalodaa

/- The program's disk: Image, New, From. -/
namespace Go.Proofs.Ytjmeneddhalodaa
set_option linter.unusedVariables false
set_option linter.unusedSimpArgs false
open Go.RowKit Dg

/-- 'append([]byte{}, x...)' of some bytes, the whole row told. -/
theorem wpList_append_whole0 (w : World) {ops : Array Oper} {rest : List Oper} {o : Oper} {a : Act} {Q : Exit → Act → World → Prop}
    (hgd : o.guard = none) (s x : Operand) (ho : o.op = .call { callee := .builtin .append, args := #[s, x], argTypes := #[30, 30] })
    (g0 : Nat) (hs : a.eval s = .slice (some ⟨g0, 0, none⟩) 0 0) (xa : Option Addr) (xc n : Nat) (m : List Nat) (hn : m.length = n) (hx : a.eval x = .slice xa n xc) (hm : Bs w xa xc m) (h0 : 0 < n) (hl : n ≤ 1000000)
    (h : ∀ g c w', Hid (WholeB w' w.heap.size (.slice (some ⟨g, 0, none⟩) n c) m) → Hid (Kept (fun _ => False) w w') → wpList Try.prog ops Q rest (a.put o.dst (.slice (some ⟨g, 0, none⟩) n c)) w') : wpList Try.prog ops Q (o :: rest) a w := by
  subst hn
  obtain ⟨i0, hi, hz0, hz1, hz2⟩ := info_parts Try.info5
  obtain ⟨b, off, rfl, -⟩ := sl_cell hm.at_ (List.getElem?_eq_getElem h0)
  have hcell : ∀ j u, (u8s m)[j]? = some u → w.cell? ((⟨b, off, none⟩ : Addr).add j) = some u := by
    intro j u hu
    rw [u8s_get] at hu
    obtain ⟨y, hy, rfl⟩ := Option.map_eq_some_iff.1 hu
    obtain ⟨b', off', e, hc⟩ := sl_cell hm.at_ hy
    cases e
    have hadd : (⟨b, off, none⟩ : Addr).add j = ⟨b, off + j, none⟩ := by simp [Addr.add]
    rw [hadd]
    exact hc
  have hrun := run_append_grow (P := Try.prog) w 30 o.type 5 i0 (.int .u8 0) Try.underlying30 hi hz0 ⟨g0, 0, none⟩ 0 0 [] (by simp) (fun j v e => by simp at e) ⟨b, off, none⟩ m.length xc (u8s m) (by rw [hz1]; simp) hcell (by omega) (by omega) (by rw [hz2, Nat.zero_add, nextslicecap_zero h0]; omega)
  rw [Nat.zero_add] at hrun
  have hge := grownCap_ge w m.length 0 5
  have hle := grownCap_le_maxLen w m.length 0 5 (by unfold maxLen; omega)
  refine wpList_plain hgd fun K hK => ?_
  unfold Oper.wp
  simp [execOp, ho, resolve, invoke, builtin, hs, hx, hrun, Result.andThen]
  refine hK _ _ (h w.heap.size (grownCap w m.length 0 5) _ (.inr ⟨w.heap.size, m ++ List.replicate (grownCap w m.length 0 5 - m.length) 0, ?_, Nat.le_refl _, ?_, ?_, ?_, ?_⟩) ?_)
  · simp; omega
  · show _ = _
    have e : (u8s (m ++ List.replicate (grownCap w m.length 0 5 - m.length) 0)).toArray = (u8s m).toArray ++ Builtin.zeroCells (Value.int .u8 0).cells (grownCap w m.length 0 5 - m.length) := by
      apply Array.ext'
      rw [u8s_append, Array.toList_append, zeros_u8]
    rw [e]
    exact heap_alloc_new w.drew _
  · simp
  · simp
  · simp; omega
  · exact ⟨rfl, rfl, rfl, by simp, fun k hk _ => Below.heap_alloc w.drew _ k hk⟩
set_option maxHeartbeats 1000000 in
set_option maxRecDepth 100000 in
/-- 'bytes.Clone' of some bytes, the whole row told. -/
theorem bclone_whole (w : World) (a : Option Addr) (n c : Nat) (l : List Nat) (hn : l.length = n) (h0 : 0 < n) (hl : n ≤ 1000000) (h : Bs w a c l) :
    Calls Try.prog 39 #[.slice a n c] w fun e w' => ∃ g cap, e = .returned (.slice (some ⟨g, 0, none⟩) n cap) ∧ WholeB w' w.heap.size (.slice (some ⟨g, 0, none⟩) n cap) l ∧ Kept (fun _ => False) w w' := by
  subst hn
  obtain ⟨b, off, rfl, -⟩ := sl_cell h.at_ (List.getElem?_eq_getElem h0)
  have HBS : Hid (Bs w (some ⟨b, off, none⟩) c l) := h
  have qT : ∀ (w : World) (a : Option Addr) (n c n' c' : Nat), (binOp .eql 30 (.slice a n c) (.slice none n' c')).run Try.prog w = .ok (.bool a.isNone) w := fun w a n c n' c' => Lib.run_eql_slice_nil w _ _ a n c n' c' Try.underlying30
  have hk1 : Kept (fun _ => False) w (w.alloc (.cells #[] 5)) := Kept.alloc _ _ _
  have HK1 := hid_of hk1
  obtain ⟨N, hN⟩ : ∃ N, N = l.length := ⟨_, rfl⟩
  rw [← hN] at h0 hl
  have HN := hid_of hN
  have HB1 : Hid (Bs (w.alloc (.cells #[] 5)) (some ⟨b, off, none⟩) c l) := HBS.out.kept hk1 (fun _ _ _ h => h)
  rw [← hN]
  clear h hk1 hN
  go_enter Try.func39, Try.ntmps39
  go_wp2_with (at_builtin; go_must (refine wpList_append_whole0 _ rfl (.tmp 5) (.tmp 6) rfl w.heap.size rfl (some ⟨b, off, none⟩) c N l HN.out.symm rfl HB1.out h0 hl ?_))
  intro g cap w2 ho2 hk2
  have HO2 := ho2
  have HK2 : Hid (Kept (fun _ => False) w w2) := HK1.out.trans hk2.out
  have HW : Hid (WholeB w2 w.heap.size (.slice (some ⟨g, 0, none⟩) N cap) l) := ho2.out.base (Nat.le_succ _)
  clear ho2 hk2
  go_wp2_with fail
  go_ret
  exact ⟨g, cap, rfl, HW.out, HK2.out⟩
set_option maxRecDepth 100000 in
set_option maxHeartbeats 1000000 in
theorem dwimage_is (w : World) (b : Nat) (x : DwB) (L : List Int) (s : Sk) (h : DwIs w b x L s) :
    Calls Try.prog 25 #[.pointer (some ⟨b, 0, none⟩)] w fun e w' => ∃ v, e = .returned v ∧ OwnBytes w' w.heap.size v s.B ∧ Kept (fun _ => False) w w' := by
  obtain ⟨c0, -⟩ := h.cell
  have HB : Hid (Bs w (some ⟨x.gK, 0, none⟩) x.cK s.B) := Bs.own h.bs
  have h1 := h.fine.le
  have h2 := h.fine.pos
  obtain ⟨N, hN⟩ : ∃ N, N = s.B.length := ⟨_, rfl⟩
  rw [← hN] at c0 h1 h2
  have HC := hid_of (bclone_whole w (some ⟨x.gK, 0, none⟩) N x.cK s.B hN.symm (by omega) (by omega) HB.out)
  clear h hN
  go_enter Try.func25, Try.ntmps25
  go_wp2_with fail
  refine HC.out.mono ?_
  rintro e w2 ⟨g, cap, rfl, ho, hk⟩
  have HO := hid_of ho
  have HK := hid_of hk
  clear ho hk
  go_wp2_with fail
  go_ret
  exact ⟨_, rfl, HO.out.own, HK.out⟩
set_option maxRecDepth 100000 in
set_option maxHeartbeats 1000000 in
theorem dwhold_any (w : World) (g c n N base : Nat) (B : List Nat) (hN : N = n * 128) (h1 : 1 ≤ n) (h2 : n ≤ 4096) (hB : B.length = N) (hO : w.ownsRow base 5 1 (.slice (some ⟨g, 0, none⟩) N c) N (u8s B)) (h256 : ∀ x ∈ B, x < 256) :
    Calls Try.prog 35 #[.slice (some ⟨g, 0, none⟩) N c] w fun e w' => ∃ (b : Nat) (F G : Nat → Prop), e = .returned (.pointer (some ⟨b, 0, none⟩)) ∧ DwAt w' b F G (fromS B) ∧ (∀ k, G k → base ≤ k ∨ w.heap.size ≤ k) ∧ Below w.heap.size w w' := by
  obtain ⟨i0, hi, hz0, hz1, hz2⟩ := info_parts Try.info3
  have hNl : N ≤ 1000000 := by omega
  have hq : (N : Int) / 128 = (n : Int) := by omega
  have HO := hid_of hO
  have HB := hid_of hB
  have H256 := hid_of h256
  have HN := hid_of hN
  clear hO hB h256 hN
  go_enter Try.func35, Try.ntmps35
  go_wp2_with (at_make; refine wpList_make_full _ rfl _ _ 45 rfl w.heap.size 3 i0 (.int .i64 0) 1 Try.underlying45 hi hz0 hz1 _ _ _ _ n rfl rfl rfl rfl (by rw [hz2]; omega) (by unfold maxLen; omega) (Nat.le_refl _) ?_)
  intro w2 hown hgr
  have HB2 : Hid (Below w.heap.size w w2) := (Below.refl _ _).grown hgr (Nat.le_refl _) (fun k hk => by cases hk)
  have HL : Hid (w2.ownsRow w.heap.size 3 1 (.slice (some ⟨w.heap.size, 0, none⟩) n n) n (i64s (List.replicate n 0))) := by have e := madeI n; rw [Nat.mul_one] at e; rw [← e]; exact hown
  clear hown hgr
  go_wp2_with fail
  go_ret
  have hs2 : w.heap.size < w2.heap.size := (World.ownsRow.lt HL.out _ rfl).2
  have hg : base ≤ g ∧ g < w.heap.size := World.ownsRow.lt HO.out g rfl
  obtain ⟨w3, hw3⟩ : ∃ w3, w3 = w2.alloc (.cells #[.slice (some ⟨g, 0, none⟩) N c, .slice none 0 0, .slice (some ⟨w.heap.size, 0, none⟩) n n, .bool false, .int .i64 0, .bool false, .int .i64 0, .int .i64 0, .int .i64 0] 72) := ⟨_, rfl⟩
  have hk3 : Kept (fun _ => False) w2 w3 := by rw [hw3]; exact Kept.alloc _ _ _
  have hk2 : Kept (fun _ => False) w w2 := Kept.of_below HB2.out
  have hb3 : w3.heap[w2.heap.size]? = some (.cells #[.slice (some ⟨g, 0, none⟩) N c, .slice none 0 0, .slice (some ⟨w.heap.size, 0, none⟩) n n, .bool false, .int .i64 0, .bool false, .int .i64 0, .int .i64 0, .int .i64 0] 72 (0, 0)) := by rw [hw3]; exact heap_alloc_new w2 _
  have hs3 : w3.heap.size = w2.heap.size + 1 := by rw [hw3]; simp
  have hdiv : (fromS B).B.length / 128 = n := by show B.length / 128 = n; rw [HB.out, HN.out]; omega
  have hBl : (fromS B).B.length = N := HB.out
  refine ⟨w2.heap.size, fun k => k = w2.heap.size ∨ k = g ∨ k = w.heap.size, fun k => k = w2.heap.size ∨ k = g ∨ k = w.heap.size, rfl, ⟨⟨g, c, .slice none 0 0, w.heap.size, n, 0⟩, ?_, fun k e => ?_, fun _ h => h, fun k e => ?_⟩, fun k e => ?_, HB2.out.alloc (by omega) _⟩
  · rw [hw3] at hb3 hk3
    refine ⟨?_, ?_, ?_, World.ownsRow_nil _ _ _ _, (fun k e => by cases e), (by show (0 : Int) ≤ 0 ∧ (0 : Int) ≤ 9223372036854775807; decide), ⟨⟨n, h1, h2, by show B.length = _; rw [HB.out, HN.out]⟩, H256.out, (fun p hp => by cases hp)⟩, ⟨by show w2.heap.size ≠ g; omega, by show w2.heap.size ≠ w.heap.size; omega, by show g ≠ w.heap.size; omega⟩, ⟨by simp [Value.ownBlock], by simp [Value.ownBlock], by simp [Value.ownBlock]⟩⟩
    · rw [hdiv, hBl]; exact hb3
    · unfold OwnBytes
      rw [hBl]
      exact ownsRow_other (ownsRow_other (own0 HO.out) hk2 (fun _ _ h => h)) hk3 (fun _ _ h => h)
    · show OwnInts _ _ (.slice _ ((fromS B).B.length / 128) _) (lastI [] ((fromS B).B.length / 128))
      rw [hdiv, lastI_nil]
      show World.ownsRow _ _ _ _ _ _ _
      have e : (List.replicate n (0 : Int)).length = n := by simp
      rw [e]
      exact ownsRow_other (own0 HL.out) hk3 (fun _ _ h => h)
  · rcases e with e | e | e | e
    · exact .inl e
    · exact .inr (.inl e)
    · exact .inr (.inr e)
    · cases e
  · rw [← hw3, hs3]
    omega
  · omega
set_option maxRecDepth 100000 in
set_option maxHeartbeats 1000000 in
theorem dwsize_any (w : World) (n : Int) (R : Bool) (hR : R = decide (1 ≤ n ∧ n ≤ 4096)) :
    Calls Try.prog 34 #[.int .i64 n] w fun e w' => e = .returned (.bool R) ∧ w = w' := by
  rcases (by omega : n < 1 ∨ (1 ≤ n ∧ 4096 < n) ∨ (1 ≤ n ∧ n ≤ 4096)) with h1 | ⟨h1, h2⟩ | ⟨h1, h2⟩
  · have hR' : R = false := by rw [hR]; exact decide_eq_false (by omega)
    subst hR'
    have hb : decide (1 ≤ n) = false := decide_eq_false (by omega)
    clear hR
    go_enter Try.func34, Try.ntmps34
    go_wp2_with fail
    go_ret
    exact ⟨rfl, rfl⟩
  · have hR' : R = false := by rw [hR]; exact decide_eq_false (by omega)
    subst hR'
    have hb : decide (1 ≤ n) = true := decide_eq_true (by omega)
    have hb2 : decide (n ≤ 4096) = false := decide_eq_false (by omega)
    clear hR
    go_enter Try.func34, Try.ntmps34
    go_wp2_with fail
    go_ret
    exact ⟨rfl, rfl⟩
  · have hR' : R = true := by rw [hR]; exact decide_eq_true (by omega)
    subst hR'
    have hb : decide (1 ≤ n) = true := decide_eq_true (by omega)
    have hb2 : decide (n ≤ 4096) = true := decide_eq_true (by omega)
    clear hR
    go_enter Try.func34, Try.ntmps34
    go_wp2_with fail
    go_ret
    exact ⟨rfl, rfl⟩
set_option maxRecDepth 100000 in
set_option maxHeartbeats 1000000 in
theorem dwnew_any (w : World) (n : Nat) (h1 : 1 ≤ n) (h2 : n ≤ 4096) : Calls Try.prog 10 #[.int .i64 (n : Int)] w fun e w' => ∃ (b : Nat) (F G : Nat → Prop), e = .returned (.tuple #[.pointer (some ⟨b, 0, none⟩), .int .i64 0]) ∧ DwAt w' b F G (newS n) ∧ (∀ k, G k → w.heap.size ≤ k) ∧ Below w.heap.size w w' := by
  obtain ⟨i0, hi, hz0, hz1, hz2⟩ := info_parts Try.info5
  obtain ⟨N, hN⟩ : ∃ N, N = n * 128 := ⟨_, rfl⟩
  have hNN : (n : Int) * 128 = (N : Int) := by omega
  have hNl : N ≤ 1000000 := by omega
  have HNN := hid_of hN
  have HS := hid_of (dwsize_any w (n : Int) true (decide_eq_true (by omega)).symm)
  clear hN
  go_enter Try.func10, Try.ntmps10
  go_wp2_with fail
  refine HS.out.mono ?_
  rintro e w1 ⟨rfl, rfl⟩
  go_wp2_with (at_make; refine wpList_make_full _ rfl _ _ 30 rfl w.heap.size 5 i0 (.int .u8 0) 1 Try.underlying30 hi hz0 hz1 _ _ _ _ N rfl rfl rfl rfl (by rw [hz2]; omega) (by unfold maxLen; omega) (Nat.le_refl _) ?_)
  intro w2 hown hgr
  have HB2 : Hid (Below w.heap.size w w2) := (Below.refl _ _).grown hgr (Nat.le_refl _) (fun k hk => by cases hk)
  have HO : Hid (w2.ownsRow w.heap.size 5 1 (.slice (some ⟨w.heap.size, 0, none⟩) N N) N (u8s (List.replicate N 0))) := by have e := made_zeros N; rw [Nat.mul_one] at e; rw [← e]; exact hown
  clear hown hgr
  have HC := hid_of (dwhold_any w2 w.heap.size N n N w.heap.size (List.replicate N 0) HNN.out h1 h2 (by simp) HO.out (fun x hx => by have := (List.mem_replicate.1 hx).2; omega))
  go_wp2_with fail
  refine HC.out.mono ?_
  rintro e w3 ⟨b, F, G, rfl, hd, hG, hb⟩
  have HD : Hid (DwAt w3 b F G (newS n)) := by
    have e : newS n = fromS (List.replicate N 0) := by rw [HNN.out]; rfl
    rw [e]; exact hd
  have HB3 : Hid (Below w.heap.size w w3) := HB2.out.trans (hb.mono HB2.out.size)
  have HG : Hid (∀ k, G k → w.heap.size ≤ k) := fun k e => by
    rcases hG k e with h | h
    · exact h
    · exact Nat.le_trans HB2.out.size h
  clear hd hG hb HC
  go_wp2_with fail
  go_ret2
  exact ⟨b, F, G, rfl, HD.out, HG.out, HB3.out⟩
set_option maxRecDepth 100000 in
set_option maxHeartbeats 1000000 in
theorem dwnew_no (w : World) (n : Int) (h : ¬ (1 ≤ n ∧ n ≤ 4096)) (hi : I64 n) : Calls Try.prog 10 #[.int .i64 n] w fun e w' => e = .returned (.tuple #[.pointer none, .int .i64 1]) ∧ Kept (fun _ => False) w w' := by
  have HS := hid_of (dwsize_any w n false (decide_eq_false h).symm)
  clear h
  go_enter Try.func10, Try.ntmps10
  go_wp2_with fail
  refine HS.out.mono ?_
  rintro e w1 ⟨rfl, rfl⟩
  go_wp2_with fail
  go_ret2
  exact ⟨rfl, Kept.refl _ _⟩
set_option maxRecDepth 100000 in
set_option maxHeartbeats 1000000 in
theorem dwfrom_any (w : World) (a : Option Addr) (n cap : Nat) (l : List Nat) (hl : l.length = n) (hb : Bs w a cap l) (h256 : ∀ x ∈ l, x < 256) (hd : diskLen n) : Calls Try.prog 31 #[.slice a n cap] w fun e w' => ∃ (b : Nat) (F G : Nat → Prop), e = .returned (.tuple #[.pointer (some ⟨b, 0, none⟩), .int .i64 0]) ∧ DwAt w' b F G (fromS l) ∧ (∀ k, G k → w.heap.size ≤ k) ∧ Below w.heap.size w w' := by
  obtain ⟨h1, h2, h3⟩ := hd
  obtain ⟨m, hm⟩ : ∃ m, m = n / 128 := ⟨_, rfl⟩
  have hq : (n : Int) / 128 = (m : Int) := by omega
  have hr : (n : Int) % 128 = 0 := by omega
  have HL := hid_of hl
  have HB := hid_of hb
  have H256 := hid_of h256
  have HM : Hid (n = m * 128) := by show _ = _; omega
  have HS := hid_of (dwsize_any w (m : Int) true (decide_eq_true (by omega)).symm)
  have HC := hid_of (bclone_whole w a n cap l hl (by omega) (by omega) hb)
  have hm1 : 1 ≤ m := by omega
  have hm2 : m ≤ 4096 := by omega
  clear hl hb h256 hm h1
  go_enter Try.func31, Try.ntmps31
  go_wp2_with fail
  refine HS.out.mono ?_
  rintro e w1 ⟨rfl, rfl⟩
  go_wp2_with fail
  refine HC.out.mono ?_
  rintro e w2 ⟨g, c, rfl, ho, hk⟩
  have HK := hid_of hk
  have HO : Hid (w2.ownsRow w.heap.size 5 1 (.slice (some ⟨g, 0, none⟩) n c) n (u8s l)) := by
    have e := ho.own
    unfold OwnBytes at e
    rw [HL.out] at e
    exact e
  have HCH := hid_of (dwhold_any w2 g c m n w.heap.size l HM.out hm1 hm2 HL.out HO.out H256.out)
  clear hk ho HC
  go_wp2_with fail
  refine HCH.out.mono ?_
  rintro e w3 ⟨b, F, G, rfl, hd, hG, hb⟩
  have HD := hid_of hd
  have HB3 : Hid (Below w.heap.size w w3) := ((HK.out.below_of (Below.refl _ _) (fun _ h => h.elim) (Nat.le_refl _))).trans (hb.mono HK.out.size)
  have HG : Hid (∀ k, G k → w.heap.size ≤ k) := fun k e => by
    rcases hG k e with h | h
    · exact h
    · exact Nat.le_trans HK.out.size h
  clear hd hG hb HCH
  go_wp2_with fail
  go_ret2
  exact ⟨b, F, G, rfl, HD.out, HG.out, HB3.out⟩
set_option maxRecDepth 100000 in
set_option maxHeartbeats 1000000 in
theorem dwfrom_no (w : World) (a : Option Addr) (n cap : Nat) (l : List Nat) (hl : l.length = n) (hb : Bs w a cap l) (hn : n ≤ 100000000) (hd : ¬ diskLen n) : Calls Try.prog 31 #[.slice a n cap] w fun e w' => e = .returned (.tuple #[.pointer none, .int .i64 1]) ∧ Kept (fun _ => False) w w' := by
  obtain ⟨m, hm⟩ : ∃ m, m = n / 128 := ⟨_, rfl⟩
  have hq : (n : Int) / 128 = (m : Int) := by omega
  by_cases h1 : n % 128 = 0
  · have hr : (n : Int) % 128 = 0 := by omega
    have HS := hid_of (dwsize_any w (m : Int) false (decide_eq_false (fun e => hd ⟨h1, by omega, by omega⟩)).symm)
    clear hl hb hd hm h1
    go_enter Try.func31, Try.ntmps31
    go_wp2_with fail
    refine HS.out.mono ?_
    rintro e w1 ⟨rfl, rfl⟩
    go_wp2_with fail
    go_ret2
    exact ⟨rfl, Kept.refl _ _⟩
  · have hr : ((n : Int) % 128 != 0) = true := by simp; omega
    clear hl hb hd hm h1
    go_enter Try.func31, Try.ntmps31
    go_wp2_with fail
    go_ret2
    exact ⟨rfl, Kept.refl _ _⟩

end Go.Proofs.Ytjmeneddhalodaa
