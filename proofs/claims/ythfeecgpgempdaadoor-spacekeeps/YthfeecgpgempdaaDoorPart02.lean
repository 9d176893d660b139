/- The texts IntsB, RfMath, SpMath, Ref1, Ref2, Ref3, Ref4, Ref5, Own, one behind the other. -/
import Derived.Test.YthfeecgpgempdaaDoorPart01
import Derived.Deep.RegionLaw
import Derived.Laws.AppendOwnNone
import Derived.Laws.IdiomStrings
import Derived.Lib.AppendZeros

/- Numbers once more: Same at like numbers; appends to a row of numbers of the call's own, told more closely; parts of such rows. -/
namespace Go.Proofs.YthfeecgpgempdaaDoor
set_option linter.unusedVariables false
set_option linter.unusedSimpArgs false
open Go.RowKit Dg

theorem take_next (zs : List Int) (j : Nat) (y : Int) (h : zs[j]? = some y) : zs.take (j + 1) = zs.take j ++ [y] := by rw [List.take_add_one, h]; rfl
theorem OwnInts.at {w : World} {base n cap : Nat} {a : Option Addr} {l : List Int} (h : OwnInts w base (.slice a n cap) l) : IntsAt w a l := IntsAt.of_owns h
theorem own_lt {w : World} {base n cap : Nat} {a : Option Addr} {l : List Int} (h : OwnInts w base (.slice a n cap) l) : ∀ x, a = some x → x.block < w.heap.size := by
  intro x hx
  subst hx
  exact (World.ownsRow.lt h x.block rfl).2

set_option maxHeartbeats 1000000 in
theorem sameInt_any (w : World) (a1 a2 : Option Addr) (c1 c2 : Nat) (l : List Int) (h1 : IntsAt w a1 l) (h2 : IntsAt w a2 l) (hl : l.length ≤ 1000000) :
    Calls Tryd.prog 15 #[.slice a1 l.length c1, .slice a2 l.length c2] w fun e w' => e = .returned (.bool true) ∧ ∃ n, w' = w.drewN n := by
  have H1 : Hid (IntsAt w a1 l) := h1
  have H2 : Hid (IntsAt w a2 l) := h2
  clear h1 h2
  go_enter Tryd.func15, Tryd.ntmps15
  go_wp2
  go_loopw [5] (fun i wr => ∃ k m : Nat, k ≤ l.length ∧ i = .int .i64 k ∧ wr = w.drewN m) (fun i _ => l.length - (intOf i).toNat)
  case atStart => exact ⟨0, 0, Nat.zero_le _, rfl, rfl⟩
  case round =>
    obtain ⟨k, m, hk, rfl, rfl⟩ := hrel
    by_cases hkn : k < l.length
    · obtain ⟨b1, o1, rfl, e1⟩ := H1.out k l[k] (by simp [hkn])
      obtain ⟨b2, o2, rfl, e2⟩ := H2.out k l[k] (by simp [hkn])
      obtain ⟨x, hx⟩ : ∃ x : Int, x = l[k] := ⟨_, rfl⟩
      rw [← hx] at e1 e2
      clear hx H1 H2
      go_wp2
      go_region
      all_goals go_wp2
      all_goals go_roundw
      case rel => exact ⟨k + 1, m + 1, by omega, by go_num, rfl⟩
      case measure => simp [intOf]; omega
    · go_wp2
      go_ret
      exact ⟨rfl, m, rfl⟩
/-- 'append(z, n)' of one number that was just built: all but its row is as it was. -/
theorem wpList_append_int_mine {P : Program} (w0 : World) {ops : Array Oper} {rest : List Oper} {o : Oper} {a : Act} {Q : Exit → Act → World → Prop}
    (hgd : o.guard = none) (s x : Operand) (t : TypeId) (ho : o.op = .call { callee := .builtin .append, args := #[s, x], argTypes := #[t, t] })
    (base : Nat) (i : TypeInfo) (ht : P.underlying t = some (.slice 3)) (hi : P.info? 3 = some i) (hz : i.zero = some (.int .i64 0)) (hsize : i.size = 1) (hby : i.bytes = 8)
    (v : Value) (l : List Int) (hs : a.eval s = v) (hown : OwnInts w0 base v l) (y : Int) (hx : a.eval x = .slice (some ⟨w0.heap.size, 0, none⟩) 1 1)
    (hl : l.length ≤ 1000000) (hbase : base ≤ w0.heap.size)
    (h : ∀ v' w', OwnInts w' base v' (l ++ [y]) → Kept (fun k => v.ownBlock = some k) w0 w' → (∀ k, v'.ownBlock = some k → v.ownBlock = some k ∨ w0.heap.size ≤ k) → wpList P ops Q rest (a.put o.dst v') w') : wpList P ops Q (o :: rest) a (w0.alloc (.cells #[.int .i64 y] 3)) := by
  refine wpList_append_mine _ hgd s x t ho base 3 i (.int .i64 0) 1 8 ht hi hz hsize hby rfl (by decide) v l.length (i64s l) hs (World.ownsRow.alloc hown _) ⟨w0.heap.size, 0, none⟩ 1 1 [.int .i64 y] hx rfl ?c1 ?c2 (by decide) ?b1 ?b2 ?b3 ?_
  case c1 => intro j u hj; match j, hj with | 0, hj => simp at hj; subst hj; simp [Addr.add]
  case c2 => intro u hu; simp at hu; subst hu; rfl
  case b1 => unfold maxLen; omega
  case b2 => omega
  case b3 => simp; omega
  intro g cap w' H1 HG HN
  refine h _ w' ?_ ((Kept.alloc _ w0 _).trans (Kept.grown HG.out)) ?_
  · show World.ownsRow _ _ _ _ _ _ _
    have := H1.out
    simpa [i64s] using this
  · intro k hk
    simp [Value.ownBlock] at hk
    subst hk
    rcases HN.out with h2 | h2
    · exact .inl h2
    · simp at h2
      exact .inr (by omega)

/-- 'append(z, n)' of one number that was just built, its outcome named. -/
theorem wpList_append_int_as {P : Program} (w0 : World) {ops : Array Oper} {rest : List Oper} {o : Oper} {a : Act} {Q : Exit → Act → World → Prop}
    (hgd : o.guard = none) (s x : Operand) (t : TypeId) (ho : o.op = .call { callee := .builtin .append, args := #[s, x], argTypes := #[t, t] })
    (base : Nat) (i : TypeInfo) (ht : P.underlying t = some (.slice 3)) (hi : P.info? 3 = some i) (hz : i.zero = some (.int .i64 0)) (hsize : i.size = 1) (hby : i.bytes = 8)
    (v : Value) (l us : List Int) (hs : a.eval s = v) (hown : OwnInts w0 base v l) (y : Int) (hus : us = l ++ [y]) (hx : a.eval x = .slice (some ⟨w0.heap.size, 0, none⟩) 1 1)
    (hl : l.length ≤ 1000000) (hbase : base ≤ w0.heap.size)
    (h : ∀ ya yc w', Hid (OwnInts w' base (.slice ya us.length yc) us) → Hid (IntsAt w' ya us) → Hid (Below base w0 w') → wpList P ops Q rest (a.put o.dst (.slice ya us.length yc)) w') : wpList P ops Q (o :: rest) a (w0.alloc (.cells #[.int .i64 y] 3)) := by
  refine wpList_append_int w0 hgd s x t ho base i ht hi hz hsize hby v l hs hown y hx hl hbase ?_
  intro v' w' h1 h2
  rw [← hus] at h1
  obtain ⟨ya, yc, rfl, hy, _⟩ := h1.out.slice
  exact h ya yc w' h1 hy h2

/-- Numbers that can be read, and their room. -/
structure Ns (w : World) (a : Option Addr) (cap : Nat) (l : List Int) : Prop where
  at_ : IntsAt w a l
  le : l.length ≤ cap
  nil : a = none → cap = 0
theorem IntsAt.mono {w w' : World} {a : Option Addr} {l : List Int} (h : IntsAt w a l) (hb : Below w.heap.size w w') : IntsAt w' a l := by
  intro j x hx
  obtain ⟨b, off, rfl, hc⟩ := h j x hx
  refine ⟨b, off, rfl, ?_⟩
  rw [hb.cell (p := ⟨b, off + j, none⟩) (World.block_lt_of_cell? w _ hc)]
  exact hc
theorem Ns.mono {w w' : World} {a : Option Addr} {cap : Nat} {l : List Int} (h : Ns w a cap l) (hb : Below w.heap.size w w') : Ns w' a cap l := ⟨h.at_.mono hb, h.le, h.nil⟩
theorem IntsAt.drewN {w : World} {a : Option Addr} {l : List Int} (h : IntsAt w a l) (n : Nat) : IntsAt (w.drewN n) a l := h
theorem Ns.drewN {w : World} {a : Option Addr} {cap : Nat} {l : List Int} (h : Ns w a cap l) (n : Nat) : Ns (w.drewN n) a cap l := ⟨h.at_.drewN n, h.le, h.nil⟩
theorem OwnInts.mono {w w' : World} {base : Nat} {v : Value} {l : List Int} (h : OwnInts w base v l) (hb : Below w.heap.size w w') : OwnInts w' base v l := h.below hb (fun k hk => (World.ownsRow.lt h k hk).2)
theorem OwnInts.base {w : World} {base base' : Nat} {v : Value} {l : List Int} (h : OwnInts w base v l) (hb : base' ≤ base) : OwnInts w base' v l := ownsRow_base h hb
theorem OwnInts.drewN {w : World} {base : Nat} {v : Value} {l : List Int} (h : OwnInts w base v l) (n : Nat) : OwnInts (w.drewN n) base v l := h
theorem OwnInts.ns {w : World} {base : Nat} {v : Value} {l : List Int} (h : OwnInts w base v l) : ∃ a cap, v = .slice a l.length cap ∧ Ns w a cap l ∧ (a = none ∧ l = [] ∧ cap = 0 ∨ ∃ g, a = some ⟨g, 0, none⟩) ∧ cap ≤ maxLen := by
  have h' := h
  rcases h.2 with ⟨rfl, hn⟩ | ⟨g, cap, cur, rfl, hb, hh, hn, hm, hcs, htake⟩
  · have : l = [] := List.eq_nil_of_length_eq_zero hn
    subst this
    exact ⟨none, 0, rfl, ⟨IntsAt.nil w _, Nat.le_refl _, fun _ => rfl⟩, .inl ⟨rfl, rfl, rfl⟩, by decide⟩
  · exact ⟨some ⟨g, 0, none⟩, cap, rfl, ⟨IntsAt.of_owns h, hn, fun e => by cases e⟩, .inr ⟨g, rfl⟩, hm⟩
/-- A row of numbers that was just built. -/
theorem OwnInts.lit (w : World) (base : Nat) (l : List Int) (n : Nat) (hn : l.length = n) (hb : base ≤ w.heap.size) (hl : n ≤ 1000000) (cs : Array Value) (hcs : cs.toList = i64s l) : OwnInts (w.alloc (.cells cs 3)) base (.slice (some ⟨w.heap.size, 0, none⟩) n n) l := by
  subst hn
  have hs : cs.size = l.length := by have := congrArg List.length hcs; simpa using this
  have := World.ownsRow_lit (e := 3) (size := 1) (base := base) w cs l.length hb (by unfold maxLen; omega) (by omega)
  show World.ownsRow _ _ _ _ _ _ _
  rw [← hcs]
  exact this
theorem slice_ints (a : Option Addr) (n cap k : Nat) (hk : k ≤ cap) (W : World) : (Instr.sliceAt 30 (.slice a n cap) none (some (.int .i64 (k : Int))) none).run Tryd.prog W = .ok (.slice a k cap) W := by
  obtain ⟨i0, hi, hz0, hz1, hz2⟩ := info_parts Tryd.info3
  simp [Instr.sliceAt, Instr.slice, Instr.sliceBounds, Instr.sliceBound, asIntOf, run_underlying Tryd.underlying30, sizeOf, typeInfo, hi, hk]
  cases a <;> simp [Addr.add]
theorem i64s_append (l m : List Int) : i64s (l ++ m) = i64s l ++ i64s m := by simp [i64s]
/-- 'append(s, x...)' of numbers to a row of the call's own. -/
theorem wpList_append_ints (w : World) {ops : Array Oper} {rest : List Oper} {o : Oper} {a : Act} {Q : Exit → Act → World → Prop}
    (hgd : o.guard = none) (s x : Operand) (ho : o.op = .call { callee := .builtin .append, args := #[s, x], argTypes := #[30, 30] })
    (base : Nat) (v : Value) (l : List Int) (hs : a.eval s = v) (hown : OwnInts w base v l) (xa : Option Addr) (xc : Nat) (m : List Int) (hx : a.eval x = .slice xa m.length xc) (hm : Ns w xa xc m)
    (hl : l.length + m.length ≤ 1000000) (hbase : base ≤ w.heap.size)
    (h : ∀ v' w', Hid (OwnInts w' base v' (l ++ m)) → Hid (Kept (fun k => v.ownBlock = some k) w w') → Hid (∀ k, v'.ownBlock = some k → v.ownBlock = some k ∨ w.heap.size ≤ k) → wpList Tryd.prog ops Q rest (a.put o.dst v') w') : wpList Tryd.prog ops Q (o :: rest) a w := by
  obtain ⟨i0, hi, hz0, hz1, hz2⟩ := info_parts Tryd.info3
  have hown' : w.ownsRow base 3 1 v l.length (i64s l) := hown
  cases xa with
  | none =>
    have hc := hm.nil rfl
    have hle := hm.le
    have hm0 : m = [] := List.eq_nil_of_length_eq_zero (by omega)
    subst hm0 hc
    refine wpList_append_own_none hgd s x 30 ho base 3 i0 1 Tryd.underlying30 hi v l.length (i64s l) hs hown' hx ?_
    refine h v w ?_ (Kept.refl _ _) (fun k hk => .inl hk)
    rw [List.append_nil]; exact hown
  | some ad =>
    have hcell : ∀ j u, (i64s m)[j]? = some u → w.cell? (ad.add j) = some u := by
      intro j u hu
      rw [i64s_get] at hu
      obtain ⟨y, hy, rfl⟩ := Option.map_eq_some_iff.1 hu
      obtain ⟨b, off, e, hc⟩ := hm.at_ j y hy
      cases e
      have hadd : (⟨b, off, none⟩ : Addr).add j = ⟨b, off + j, none⟩ := by simp [Addr.add]
      rw [hadd]
      exact hc
    have hone : ∀ u ∈ i64s m, u.oneCell' = true := by intro u hu; simp [i64s] at hu; obtain ⟨y, _, rfl⟩ := hu; rfl
    by_cases hne : m = []
    · subst hne
      rcases hown'.2 with ⟨hv, hn⟩ | ⟨g, cap, cur, hv, hb, hh, hn, hcm, hcs, htake⟩
      · refine wpList_append_own _ hgd s x 30 ho base 3 i0 (.int .i64 0) 1 8 Tryd.underlying30 hi hz0 hz1 hz2 rfl (by decide) v l.length (i64s l) hs hown' ad 0 xc [] hx rfl (fun j u hu => by simp at hu) (fun u hu => by simp at hu) (by unfold maxLen; omega) (by omega) hbase ?_
        intro v' w' h1 h2 h3
        have hv' : v' = .slice none 0 0 := h3.2 ⟨hv, rfl⟩
        refine h v' w' ?_ (Kept.grown h2) (fun k hk => by rw [hv'] at hk; cases hk)
        show World.ownsRow _ _ _ _ _ _ _
        simpa [i64s_append] using h1
      · refine wpList_append_fits w hgd s x 30 ho base 3 i0 1 Tryd.underlying30 hi hz1 g l.length cap (i64s l) (hs.trans hv) (hv ▸ hown') ad 0 xc [] hx rfl (fun j u hu => by simp at hu) (fun u hu => by simp at hu) (by omega) ?_
        intro w' h1 h2
        refine h _ w' ?_ ?_ (fun k hk => .inl ?_)
        · show World.ownsRow _ _ _ _ _ _ _
          simpa [i64s_append] using h1
        · have := Kept.grown h2
          rw [hv]; exact this
        · rw [hv]; exact hk
    · refine wpList_append_mine _ hgd s x 30 ho base 3 i0 (.int .i64 0) 1 8 Tryd.underlying30 hi hz0 hz1 hz2 rfl (by decide) v l.length (i64s l) hs hown' ad m.length xc (i64s m) hx (by simp) hcell hone (List.length_pos_iff.2 hne) (by unfold maxLen; omega) (by omega) hbase ?_
      intro g cap w' h1 h2 h3
      refine h _ w' ?_ (Kept.grown h2.out) (fun k hk => ?_)
      · show World.ownsRow _ _ _ _ _ _ _
        rw [i64s_append, List.length_append]; exact h1.out
      · simp [Value.ownBlock] at hk
        subst hk
        exact h3.out

/-- 'append(z, n)' of one number that was just built, as one step of a region that draws its order. -/
theorem step_append_int {P : Program} {ops : Array Oper} {o : Oper} {a : Act} (w0 : World) {K : Act → World → Prop} {Q : Exit → Act → World → Prop} {E : Prop}
    (hgd : o.guard = none) (s x : Operand) (t : TypeId) (ho : o.op = .call { callee := .builtin .append, args := #[s, x], argTypes := #[t, t] })
    (base : Nat) (i : TypeInfo) (ht : P.underlying t = some (.slice 3)) (hi : P.info? 3 = some i) (hz : i.zero = some (.int .i64 0)) (hsize : i.size = 1) (hby : i.bytes = 8)
    (v : Value) (l : List Int) (hs : a.eval s = v) (hown : OwnInts w0 base v l) (y : Int) (hx : a.eval x = .slice (some ⟨w0.heap.size, 0, none⟩) 1 1)
    (hl : l.length ≤ 1000000) (hbase : base ≤ w0.heap.size)
    (hK : ∀ v' w', Hid (OwnInts w' base v' (l ++ [y])) → Hid (Below base w0 w') → K (a.put o.dst v') w') :
    if Region.wanted o (yielded ops a.tmps) = true then Oper.wp P o a (w0.alloc (.cells #[.int .i64 y] 3)) K Q else E := by
  have hw : Region.wanted o (yielded ops a.tmps) = true := by simp [Region.wanted, hgd]
  rw [if_pos hw]
  obtain ⟨v', w', hrun, r1, r2, r3⟩ := run_append_own (P := P) (w0.alloc (.cells #[.int .i64 y] 3)) base t o.type 3 i (.int .i64 0) 1 8 ht hi hz hsize hby rfl (by decide) v l.length (i64s l) (World.ownsRow.alloc hown _) ⟨w0.heap.size, 0, none⟩ 1 1 [.int .i64 y] rfl
    (by intro j u hj; match j, hj with | 0, hj => simp at hj; subst hj; simp [Addr.add]) (by intro u hu; simp at hu; subst hu; rfl) (by unfold maxLen; omega) (by omega) (by simp; omega)
  unfold Oper.wp
  simp [execOp, ho, resolve, invoke, builtin, hs, hx, hrun, Result.andThen]
  refine hK v' w' ?_ ?_
  · show World.ownsRow _ _ _ _ _ _ _
    simpa [i64s] using r1
  · exact ((Below.refl base w0).alloc hbase _).grown r2 (by simp; omega) (fun k hk => (World.ownsRow.lt hown k hk).1)

end Go.Proofs.YthfeecgpgempdaaDoor

/- Counts of sectors as plain data: added, dropped, all together, those that have one; no program. -/
namespace Go.Proofs.YthfeecgpgempdaaDoor
set_option linter.unusedVariables false
set_option linter.unusedSimpArgs false
open Go.RowKit Dg

/-- Is it a sector? -/
def isSec (C : List Nat) (x : Int) : Prop := 0 ≤ x ∧ x < (C.length : Int)
instance (C : List Nat) (x : Int) : Decidable (isSec C x) := inferInstanceAs (Decidable (_ ∧ _))
/-- One more of each. -/
def addZ (C : List Nat) (l : List Int) : List Nat := l.foldl (fun C x => C.set x.toNat (C.getD x.toNat 0 + 1)) C
def okZ (C : List Nat) (l : List Int) : Bool := l.all fun x => decide (isSec C x)
/-- What Add leaves. -/
def addS (C : List Nat) (l : List Int) : List Nat := if okZ C l then addZ C l else C
theorem addZ_nil (C : List Nat) : addZ C [] = C := rfl
theorem addZ_cons (C : List Nat) (x : Int) (l : List Int) : addZ C (x :: l) = addZ (C.set x.toNat (C.getD x.toNat 0 + 1)) l := rfl
theorem addZ_append (C : List Nat) (l m : List Int) : addZ C (l ++ m) = addZ (addZ C l) m := by simp [addZ]
theorem addZ_snoc (C : List Nat) (l : List Int) (x : Int) : addZ C (l ++ [x]) = (addZ C l).set x.toNat ((addZ C l).getD x.toNat 0 + 1) := by rw [addZ_append]; rfl
theorem length_addZ : ∀ (l : List Int) (C : List Nat), (addZ C l).length = C.length
  | [], C => rfl
  | x :: l, C => by rw [addZ_cons, length_addZ l, List.length_set]
theorem length_addS (C : List Nat) (l : List Int) : (addS C l).length = C.length := by
  unfold addS
  split
  · exact length_addZ l C
  · rfl
theorem okZ_iff (C : List Nat) (l : List Int) : okZ C l = true ↔ ∀ x ∈ l, isSec C x := by
  unfold okZ
  rw [List.all_eq_true]
  exact ⟨fun h x hx => of_decide_eq_true (h x hx), fun h x hx => decide_eq_true (h x hx)⟩
theorem addZ_get : ∀ (l : List Int) (C : List Nat), (∀ x ∈ l, isSec C x) → ∀ k : Nat, k < C.length → (addZ C l).getD k 0 = C.getD k 0 + l.count (k : Int)
  | [], C, _, k, _ => rfl
  | x :: l, C, h, k, hk => by
    have hx := h x (List.mem_cons_self ..)
    have h2 : ∀ y ∈ l, isSec (C.set x.toNat (C.getD x.toNat 0 + 1)) y := fun y hy => by
      unfold isSec
      rw [List.length_set]
      exact h y (List.mem_cons_of_mem _ hy)
    rw [addZ_cons, addZ_get l _ h2 k (by rw [List.length_set]; exact hk), List.count_cons]
    have e : (C.set x.toNat (C.getD x.toNat 0 + 1)).getD k 0 = if x.toNat = k then C.getD x.toNat 0 + 1 else C.getD k 0 := by
      rw [List.getD_eq_getElem?_getD, List.getElem?_set]
      by_cases e : x.toNat = k
      · rw [if_pos e, if_pos e, if_pos (by omega)]; rfl
      · rw [if_neg e, if_neg e, List.getD_eq_getElem?_getD]
    rw [e]
    by_cases e2 : x.toNat = k
    · have e3 : x = (k : Int) := by have := hx.1; omega
      rw [if_pos e2, e2, e3]
      simp
      omega
    · have e3 : ¬ x = (k : Int) := by omega
      rw [if_neg e2]
      simp [e3]
theorem eq_of_getD {C D : List Nat} (hl : C.length = D.length) (h : ∀ k, k < C.length → C.getD k 0 = D.getD k 0) : C = D := by
  refine List.ext_getElem? fun k => ?_
  by_cases hk : k < C.length
  · have e := h k hk
    rw [List.getD_eq_getElem?_getD, List.getD_eq_getElem?_getD, List.getElem?_eq_getElem hk, List.getElem?_eq_getElem (by omega)] at e
    rw [List.getElem?_eq_getElem hk, List.getElem?_eq_getElem (by omega)]
    exact congrArg some e
  · rw [List.getElem?_eq_none (by omega), List.getElem?_eq_none (by omega)]
/-- The order is nothing. -/
theorem addZ_perm {C : List Nat} {l m : List Int} (h : ∀ x ∈ l, isSec C x) (hp : ∀ x, l.count x = m.count x) (hm : ∀ x ∈ m, isSec C x) : addZ C l = addZ C m := by
  refine eq_of_getD (by rw [length_addZ, length_addZ]) fun k hk => ?_
  rw [length_addZ] at hk
  rw [addZ_get l C h k hk, addZ_get m C hm k hk, hp]
/-- All together, of the first j. -/
def sumTo (C : List Nat) : Nat → Nat
  | 0 => 0
  | j + 1 => sumTo C j + C.getD j 0
def sumC (C : List Nat) : Nat := sumTo C C.length
theorem sumTo_set (C : List Nat) (i y : Nat) : ∀ j, i < C.length → sumTo (C.set i y) j + (if i < j then C.getD i 0 else 0) = sumTo C j + (if i < j then y else 0)
  | 0, _ => by simp [sumTo]
  | j + 1, hi => by
    have h := sumTo_set C i y j hi
    unfold sumTo
    have e : (C.set i y).getD j 0 = if i = j then y else C.getD j 0 := by
      rw [List.getD_eq_getElem?_getD, List.getElem?_set]
      by_cases e : i = j
      · rw [if_pos e, if_pos e, if_pos hi]; rfl
      · rw [if_neg e, if_neg e, List.getD_eq_getElem?_getD]
    rw [e]
    by_cases e : i = j
    · subst e
      simp at h ⊢
      omega
    · by_cases e2 : i < j
      · rw [if_pos e2, if_pos e2] at h
        rw [if_neg e, if_pos (by omega), if_pos (by omega)]
        omega
      · rw [if_neg e2, if_neg e2] at h
        rw [if_neg e, if_neg (by omega), if_neg (by omega)]
        omega
theorem sumC_set {C : List Nat} {i : Nat} (y : Nat) (hi : i < C.length) : sumC (C.set i y) + C.getD i 0 = sumC C + y := by
  have h := sumTo_set C i y C.length hi
  rw [if_pos hi, if_pos hi] at h
  unfold sumC
  rw [List.length_set]
  exact h
theorem sumC_add : ∀ (l : List Int) (C : List Nat), (∀ x ∈ l, isSec C x) → sumC (addZ C l) = sumC C + l.length
  | [], C, _ => rfl
  | x :: l, C, h => by
    have hx := h x (List.mem_cons_self ..)
    have hi : x.toNat < C.length := by have := hx.1; have := hx.2; omega
    have h2 : ∀ y ∈ l, isSec (C.set x.toNat (C.getD x.toNat 0 + 1)) y := fun y hy => by
      unfold isSec
      rw [List.length_set]
      exact h y (List.mem_cons_of_mem _ hy)
    have h3 := sumC_set (C.getD x.toNat 0 + 1) hi
    rw [addZ_cons, sumC_add l _ h2, List.length_cons]
    omega
theorem sumTo_nought (n : Nat) : ∀ j, sumTo (List.replicate n 0) j = 0
  | 0 => rfl
  | j + 1 => by
    unfold sumTo
    rw [sumTo_nought n j, List.getD_eq_getElem?_getD, List.getElem?_replicate]
    split <;> rfl
theorem getD_le_sum (C : List Nat) (k : Nat) : ∀ j, k < j → C.getD k 0 ≤ sumTo C j
  | 0, h => absurd h (Nat.not_lt_zero _)
  | j + 1, h => by
    unfold sumTo
    by_cases e : k = j
    · rw [e]; omega
    · have := getD_le_sum C k j (by omega); omega
theorem getD_le_sumC {C : List Nat} (k : Nat) : C.getD k 0 ≤ sumC C := by
  by_cases h : k < C.length
  · exact getD_le_sum C k _ h
  · rw [List.getD_eq_getElem?_getD, List.getElem?_eq_none (by omega)]
    exact Nat.zero_le _
/-- Those that have a count, of the first j. -/
def ownTo (C : List Nat) : Nat → List Int
  | 0 => []
  | j + 1 => if 0 < C.getD j 0 then ownTo C j ++ [(j : Int)] else ownTo C j
theorem length_ownTo (C : List Nat) : ∀ j, (ownTo C j).length ≤ j
  | 0 => Nat.le_refl _
  | j + 1 => by
    unfold ownTo
    have := length_ownTo C j
    split
    · rw [List.length_append]; simp; omega
    · omega
/-- What Drop answers, and leaves. -/
def dropR (C : List Nat) (i : Int) : Nat × Bool := if isSec C i ∧ 0 < C.getD i.toNat 0 then (C.getD i.toNat 0 - 1, true) else (0, false)
def dropS (C : List Nat) (i : Int) : List Nat := if isSec C i ∧ 0 < C.getD i.toNat 0 then C.set i.toNat (C.getD i.toNat 0 - 1) else C
theorem length_dropS (C : List Nat) (i : Int) : (dropS C i).length = C.length := by
  unfold dropS
  split
  · rw [List.length_set]
  · rfl
def ofR (C : List Nat) (i : Int) : Nat := if isSec C i then C.getD i.toNat 0 else 0
theorem drop_yes {C : List Nat} {k c : Nat} (h : C[k]? = some c) (hc : 0 < c) : dropR C (k : Int) = (c - 1, true) ∧ dropS C (k : Int) = C.set k (c - 1) := by
  have hk := (List.getElem?_eq_some_iff.1 h).1
  have e : C.getD (k : Int).toNat 0 = c := by rw [Int.toNat_natCast, List.getD_eq_getElem?_getD, h]; rfl
  unfold dropR dropS
  rw [e, if_pos ⟨⟨by omega, by omega⟩, hc⟩, if_pos ⟨⟨by omega, by omega⟩, hc⟩, Int.toNat_natCast]
  exact ⟨rfl, rfl⟩
theorem drop_no {C : List Nat} {i : Int} (h : ¬ (isSec C i ∧ 0 < C.getD i.toNat 0)) : dropR C i = (0, false) ∧ dropS C i = C := by
  unfold dropR dropS
  rw [if_neg h, if_neg h]
  exact ⟨rfl, rfl⟩
/-- What was added last is dropped. -/
theorem drop_last {C : List Nat} {l : List Int} {x : Int} (hx : isSec C x) : dropR (addZ C (l ++ [x])) x = ((addZ C l).getD x.toNat 0, true) ∧ dropS (addZ C (l ++ [x])) x = addZ C l := by
  obtain ⟨k, rfl⟩ : ∃ k : Nat, x = (k : Int) := ⟨x.toNat, by have := hx.1; omega⟩
  have hk : k < (addZ C l).length := by rw [length_addZ]; have := hx.2; omega
  have e : (addZ C (l ++ [(k : Int)]))[k]? = some ((addZ C l).getD k 0 + 1) := by
    rw [addZ_snoc, Int.toNat_natCast, List.getElem?_set, if_pos rfl, if_pos hk]
  obtain ⟨h1, h2⟩ := drop_yes e (by omega)
  rw [h1, h2]
  refine ⟨rfl, ?_⟩
  rw [addZ_snoc, Int.toNat_natCast, List.set_set, Nat.add_sub_cancel, List.getD_eq_getElem?_getD, List.getElem?_eq_getElem hk]
  exact List.set_getElem_self hk

end Go.Proofs.YthfeecgpgempdaaDoor

/- What is taken, what waits, what is free, as plain data; no program. -/
namespace Go.Proofs.YthfeecgpgempdaaDoor
set_option linter.unusedVariables false
set_option linter.unusedSimpArgs false
open Go.RowKit Dg

/-- So many sectors, the first so many fixed; the counts; which wait. -/
structure Sd where
  N : Nat
  fx : Nat
  C : List Nat
  V : List Bool
def newSd (n fx : Nat) : Sd := ⟨n, fx, List.replicate n 0, List.replicate n false⟩
structure Sd.Fine (s : Sd) : Prop where
  c : s.C.length = s.N
  v : s.V.length = s.N
  pos : 1 ≤ s.N
  le : s.N ≤ 4096
  fx : s.fx ≤ s.N
  low : ∀ i, i < s.fx → s.C.getD i 0 = 0 ∧ s.V.getD i false = false
  wait : ∀ i, s.V.getD i false = true → s.C.getD i 0 = 0
theorem getD_rep0 (n i : Nat) : (List.replicate n 0).getD i 0 = 0 := by
  rw [List.getD_eq_getElem?_getD, List.getElem?_replicate]
  split <;> rfl
theorem getD_repF (n i : Nat) : (List.replicate n false).getD i false = false := by
  rw [List.getD_eq_getElem?_getD, List.getElem?_replicate]
  split <;> rfl
theorem getD_setN (l : List Nat) (i j x : Nat) (hi : i < l.length) : (l.set i x).getD j 0 = if i = j then x else l.getD j 0 := by
  rw [List.getD_eq_getElem?_getD, List.getElem?_set]
  by_cases e : i = j
  · rw [if_pos e, if_pos e, if_pos hi]; rfl
  · rw [if_neg e, if_neg e, List.getD_eq_getElem?_getD]
theorem getD_setB (l : List Bool) (i j : Nat) (x : Bool) (hi : i < l.length) : (l.set i x).getD j false = if i = j then x else l.getD j false := by
  rw [List.getD_eq_getElem?_getD, List.getElem?_set]
  by_cases e : i = j
  · rw [if_pos e, if_pos e, if_pos hi]; rfl
  · rw [if_neg e, if_neg e, List.getD_eq_getElem?_getD]
theorem newSd_fine {n fx : Nat} (h1 : 1 ≤ n) (h2 : n ≤ 4096) (h3 : fx ≤ n) : (newSd n fx).Fine :=
  ⟨by simp [newSd], by simp [newSd], h1, h2, h3, fun i _ => ⟨getD_rep0 _ _, getD_repF _ _⟩, fun i _ => getD_rep0 _ _⟩
/-- Is it used? -/
def Sd.u (s : Sd) (i : Nat) : Bool := decide (i < s.fx) || decide (0 < s.C.getD i 0) || s.V.getD i false
def Sd.uZ (s : Sd) (i : Int) : Bool := if 0 ≤ i ∧ i < (s.N : Int) then s.u i.toNat else true
theorem Sd.uZ_nat (s : Sd) {k : Nat} (h : k < s.N) : s.uZ (k : Int) = s.u k := by unfold Sd.uZ; rw [if_pos ⟨by omega, by omega⟩, Int.toNat_natCast]
theorem Sd.uZ_no (s : Sd) {i : Int} (h : ¬ (0 ≤ i ∧ i < (s.N : Int))) : s.uZ i = true := by unfold Sd.uZ; rw [if_neg h]
theorem Sd.u_false {s : Sd} {i : Nat} : s.u i = false ↔ s.fx ≤ i ∧ s.C.getD i 0 = 0 ∧ s.V.getD i false = false := by
  unfold Sd.u
  rw [Bool.or_eq_false_iff, Bool.or_eq_false_iff, decide_eq_false_iff_not, decide_eq_false_iff_not]
  constructor
  · rintro ⟨⟨h1, h2⟩, h3⟩; exact ⟨by omega, by omega, h3⟩
  · rintro ⟨h1, h2, h3⟩; exact ⟨⟨by omega, by omega⟩, h3⟩
/-- A sector's count. -/
def Sd.of (s : Sd) (i : Int) : Nat := ofR s.C i
theorem Sd.of_nat (s : Sd) {k : Nat} (h : k < s.C.length) : s.of (k : Int) = s.C.getD k 0 := by
  unfold Sd.of ofR
  rw [if_pos ⟨by omega, by omega⟩, Int.toNat_natCast]
theorem Sd.of_no (s : Sd) {i : Int} (h : ¬ (0 ≤ i ∧ i < (s.C.length : Int))) : s.of i = 0 := by
  unfold Sd.of ofR
  exact if_neg h
theorem Sd.of_pos {s : Sd} {i : Int} (h : 0 < s.of i) : ∃ k : Nat, i = (k : Int) ∧ k < s.C.length ∧ s.C.getD k 0 = s.of i := by
  by_cases e : 0 ≤ i ∧ i < (s.C.length : Int)
  · obtain ⟨k, rfl⟩ : ∃ k : Nat, i = (k : Int) := ⟨i.toNat, by omega⟩
    exact ⟨k, rfl, by omega, (s.of_nat (by omega)).symm⟩
  · rw [s.of_no e] at h; omega
theorem Sd.of_le (s : Sd) (i : Int) : s.of i ≤ sumC s.C := by
  unfold Sd.of ofR
  split
  · exact getD_le_sumC _
  · exact Nat.zero_le _
/-- The least free one that is not below i, of f. -/
def leastU (u : Nat → Bool) : Nat → Nat → Option Nat
  | _, 0 => none
  | i, f + 1 => if u i then leastU u (i + 1) f else some i
theorem leastU_some (u : Nat → Bool) : ∀ (f i k : Nat), leastU u i f = some k → i ≤ k ∧ k < i + f ∧ u k = false ∧ ∀ j, i ≤ j → j < k → u j = true
  | 0, i, k, h => by cases h
  | f + 1, i, k, h => by
    unfold leastU at h
    split at h
    · rename_i hu
      obtain ⟨h1, h2, h3, h4⟩ := leastU_some u f (i + 1) k h
      refine ⟨by omega, by omega, h3, fun j e1 e2 => ?_⟩
      by_cases e : j = i
      · rw [e]; exact hu
      · exact h4 j (by omega) e2
    · rename_i hu
      cases h
      exact ⟨Nat.le_refl _, by omega, by simpa using hu, fun j e1 e2 => by omega⟩
theorem leastU_none (u : Nat → Bool) : ∀ (f i : Nat), leastU u i f = none → ∀ j, i ≤ j → j < i + f → u j = true
  | 0, i, h, j, h1, h2 => by omega
  | f + 1, i, h, j, h1, h2 => by
    unfold leastU at h
    split at h
    · rename_i hu
      by_cases e : j = i
      · rw [e]; exact hu
      · exact leastU_none u f (i + 1) h j (by omega) (by omega)
    · cases h
def Sd.least (s : Sd) : Option Nat := leastU s.u 0 s.N
theorem Sd.least_some {s : Sd} {k : Nat} (h : s.least = some k) : k < s.N ∧ s.u k = false ∧ ∀ j, j < k → s.u j = true := by
  obtain ⟨-, h2, h3, h4⟩ := leastU_some _ _ _ _ h
  exact ⟨by omega, h3, fun j e => h4 j (Nat.zero_le _) e⟩
theorem Sd.least_none {s : Sd} (h : s.least = none) : ∀ j, j < s.N → s.u j = true := fun j e => leastU_none _ _ _ h j (Nat.zero_le _) (by omega)
theorem Sd.least_of {s : Sd} {k : Nat} (h1 : k < s.N) (h2 : s.u k = false) (h3 : ∀ j, j < k → s.u j = true) : s.least = some k := by
  cases e : s.least with
  | none => rw [Sd.least_none e k h1] at h2; cases h2
  | some j =>
    obtain ⟨e1, e2, e3⟩ := Sd.least_some e
    have a1 : ¬ j < k := fun h => by rw [h3 j h] at e2; cases e2
    have a2 : ¬ k < j := fun h => by rw [e3 k h] at h2; cases h2
    rw [show j = k by omega]
theorem Sd.least_full {s : Sd} (h : ∀ j, j < s.N → s.u j = true) : s.least = none := by
  cases e : s.least with
  | none => rfl
  | some j =>
    obtain ⟨e1, e2, -⟩ := Sd.least_some e
    rw [h j e1] at e2; cases e2
/-- What Take answers, and leaves. -/
def Sd.takeR (s : Sd) : Int × Int := match s.least with | some k => ((k : Int), 0) | none => (0, 3)
def Sd.takeS (s : Sd) : Sd := match s.least with | some k => { s with C := s.C.set k 1 } | none => s
theorem Sd.take_yes {s : Sd} {k : Nat} (h : s.least = some k) : s.takeR = ((k : Int), 0) ∧ s.takeS = { s with C := s.C.set k 1 } := by
  unfold Sd.takeR Sd.takeS
  rw [h]
  exact ⟨rfl, rfl⟩
theorem Sd.take_no {s : Sd} (h : s.least = none) : s.takeR = (0, 3) ∧ s.takeS = s := by
  unfold Sd.takeR Sd.takeS
  rw [h]
  exact ⟨rfl, rfl⟩
theorem Sd.Fine.taken {s : Sd} (h : s.Fine) : s.takeS.Fine := by
  cases e : s.least with
  | none => rw [(Sd.take_no e).2]; exact h
  | some k =>
    rw [(Sd.take_yes e).2]
    obtain ⟨h1, h2, -⟩ := Sd.least_some e
    obtain ⟨u1, u2, u3⟩ := Sd.u_false.1 h2
    have hk : k < s.C.length := by rw [h.c]; exact h1
    refine ⟨by simpa using h.c, h.v, h.pos, h.le, h.fx, fun i hi => ⟨?_, (h.low i hi).2⟩, fun i hi => ?_⟩
    · show (s.C.set k 1).getD i 0 = 0
      have hi2 : i < s.fx := hi
      rw [getD_setN _ _ _ _ hk, if_neg (by omega)]
      exact (h.low i hi).1
    · show (s.C.set k 1).getD i 0 = 0
      have hi2 : s.V.getD i false = true := hi
      rw [getD_setN _ _ _ _ hk, if_neg (fun e => by subst e; rw [u3] at hi2; cases hi2)]
      exact h.wait i hi
/-- What Share, Drop leave. -/
def Sd.shareS (s : Sd) (i : Int) : Sd := if 0 < s.of i then { s with C := s.C.set i.toNat (s.of i + 1) } else s
def Sd.lessS (s : Sd) (i : Int) : Sd := if 0 < s.of i then { s with C := s.C.set i.toNat (s.of i - 1), V := s.V.set i.toNat (decide (s.of i - 1 = 0)) } else s
theorem Sd.Fine.high {s : Sd} (h : s.Fine) {k : Nat} (hk : 0 < s.C.getD k 0) : s.fx ≤ k ∧ s.V.getD k false = false := by
  refine ⟨Nat.le_of_not_lt fun e => ?_, ?_⟩
  · have := (h.low k e).1; omega
  · cases e : s.V.getD k false with
    | false => rfl
    | true => have := h.wait k e; omega
theorem Sd.Fine.shared {s : Sd} (h : s.Fine) (i : Int) : (s.shareS i).Fine := by
  unfold Sd.shareS
  split
  · rename_i hp
    obtain ⟨k, rfl, hk, hg⟩ := Sd.of_pos hp
    rw [Int.toNat_natCast, ← hg]
    rw [← hg] at hp
    obtain ⟨e1, e2⟩ := h.high hp
    refine ⟨by simpa using h.c, h.v, h.pos, h.le, h.fx, fun i hi => ⟨?_, (h.low i hi).2⟩, fun i hi => ?_⟩
    · show (s.C.set k _).getD i 0 = 0
      have hi2 : i < s.fx := hi
      rw [getD_setN _ _ _ _ hk, if_neg (by omega)]
      exact (h.low i hi).1
    · show (s.C.set k _).getD i 0 = 0
      have hi2 : s.V.getD i false = true := hi
      rw [getD_setN _ _ _ _ hk, if_neg (fun e => by subst e; rw [e2] at hi2; cases hi2)]
      exact h.wait i hi
  · exact h
theorem Sd.Fine.lessened {s : Sd} (h : s.Fine) (i : Int) : (s.lessS i).Fine := by
  unfold Sd.lessS
  split
  · rename_i hp
    obtain ⟨k, rfl, hk, hg⟩ := Sd.of_pos hp
    rw [Int.toNat_natCast, ← hg]
    rw [← hg] at hp
    obtain ⟨e1, e2⟩ := h.high hp
    have hkv : k < s.V.length := by rw [h.v, ← h.c]; exact hk
    refine ⟨by simpa using h.c, by simpa using h.v, h.pos, h.le, h.fx, fun i hi => ⟨?_, ?_⟩, fun i hi => ?_⟩
    · show (s.C.set k _).getD i 0 = 0
      have hi2 : i < s.fx := hi
      rw [getD_setN _ _ _ _ hk, if_neg (by omega)]
      exact (h.low i hi).1
    · show (s.V.set k _).getD i false = false
      have hi2 : i < s.fx := hi
      rw [getD_setB _ _ _ _ hkv, if_neg (by omega)]
      exact (h.low i hi).2
    · show (s.C.set k _).getD i 0 = 0
      have hi2 : (s.V.set k (decide (s.C.getD k 0 - 1 = 0))).getD i false = true := hi
      rw [getD_setB _ _ _ _ hkv] at hi2
      rw [getD_setN _ _ _ _ hk]
      by_cases e : k = i
      · rw [if_pos e] at hi2 ⊢
        exact of_decide_eq_true hi2
      · rw [if_neg e] at hi2 ⊢
        exact h.wait i hi2
  · exact h
/-- Those that wait, of the first j. -/
def waitTo (V : List Bool) : Nat → List Int
  | 0 => []
  | j + 1 => if V.getD j false then waitTo V j ++ [(j : Int)] else waitTo V j
theorem length_waitTo (V : List Bool) : ∀ j, (waitTo V j).length ≤ j
  | 0 => Nat.le_refl _
  | j + 1 => by
    unfold waitTo
    have := length_waitTo V j
    split
    · rw [List.length_append]; simp; omega
    · omega
theorem waitTo_none (n : Nat) : ∀ j, waitTo (List.replicate n false) j = []
  | 0 => rfl
  | j + 1 => by
    unfold waitTo
    rw [getD_repF, waitTo_none n j]
    rfl
def Sd.waits (s : Sd) : List Int := waitTo s.V s.N
/-- What Commit leaves. -/
def Sd.commitS (s : Sd) : Sd := { s with V := List.replicate s.N false }
theorem Sd.Fine.committed {s : Sd} (h : s.Fine) : s.commitS.Fine :=
  ⟨h.c, by simp [Sd.commitS], h.pos, h.le, h.fx, fun i hi => ⟨(h.low i hi).1, getD_repF _ _⟩, fun i hi => by
    have hi2 : (List.replicate s.N false).getD i false = true := hi
    rw [getD_repF] at hi2; cases hi2⟩
/-- May these be kept; what Keep leaves. -/
def Sd.keepOk (s : Sd) (l : List Int) : Bool := l.all fun x => decide ((s.fx : Int) ≤ x ∧ x < (s.N : Int))
def Sd.keepS (s : Sd) (l : List Int) : Sd := if s.keepOk l then ⟨s.N, s.fx, addZ (List.replicate s.N 0) l, List.replicate s.N false⟩ else s
theorem Sd.keepOk_iff {s : Sd} {l : List Int} : s.keepOk l = true ↔ ∀ x ∈ l, (s.fx : Int) ≤ x ∧ x < (s.N : Int) := by
  unfold Sd.keepOk
  rw [List.all_eq_true]
  exact ⟨fun h x hx => of_decide_eq_true (h x hx), fun h x hx => decide_eq_true (h x hx)⟩
theorem addZ_nought_get {n : Nat} {l : List Int} (h : ∀ x ∈ l, 0 ≤ x ∧ x < (n : Int)) (k : Nat) (hk : k < n) : (addZ (List.replicate n 0) l).getD k 0 = l.count (k : Int) := by
  rw [addZ_get l _ (fun x hx => by unfold isSec; rw [List.length_replicate]; exact h x hx) k (by rw [List.length_replicate]; exact hk), getD_rep0, Nat.zero_add]
theorem Sd.Fine.keptS {s : Sd} (h : s.Fine) (l : List Int) : (s.keepS l).Fine := by
  unfold Sd.keepS
  split
  · rename_i hk
    have hk := Sd.keepOk_iff.1 hk
    refine ⟨by simp [length_addZ], by simp, h.pos, h.le, h.fx, fun i hi => ⟨?_, getD_repF _ _⟩, fun i hi => ?_⟩
    · show (addZ (List.replicate s.N 0) l).getD i 0 = 0
      have hi2 : i < s.fx := hi
      have hfx := h.fx
      rw [addZ_nought_get (fun x hx => ⟨by have := (hk x hx).1; omega, (hk x hx).2⟩) i (by omega), List.count_eq_zero]
      intro hm
      have := (hk _ hm).1
      omega
    · have hi2 : (List.replicate s.N false).getD i false = true := hi
      rw [getD_repF] at hi2; cases hi2
  · exact h
/-- How many are free, of the first j. -/
def Sd.freeTo (s : Sd) : Nat → Nat
  | 0 => 0
  | j + 1 => s.freeTo j + (if s.u j then 0 else 1)
theorem Sd.freeTo_le (s : Sd) : ∀ j, s.freeTo j ≤ j
  | 0 => Nat.le_refl _
  | j + 1 => by
    unfold Sd.freeTo
    have := s.freeTo_le j
    split <;> omega
def Sd.free (s : Sd) : Nat := s.freeTo s.N
/-- The counts grow slowly. -/
theorem Sd.sum_take {s : Sd} (h : s.Fine) : sumC s.takeS.C ≤ sumC s.C + 1 := by
  cases e : s.least with
  | none => rw [(Sd.take_no e).2]; omega
  | some k =>
    rw [(Sd.take_yes e).2]
    obtain ⟨h1, -, -⟩ := Sd.least_some e
    have := sumC_set (C := s.C) 1 (i := k) (by rw [h.c]; exact h1)
    show sumC (s.C.set k 1) ≤ _
    omega
theorem Sd.sum_share (s : Sd) (i : Int) : sumC (s.shareS i).C ≤ sumC s.C + 1 := by
  unfold Sd.shareS
  split
  · rename_i hp
    obtain ⟨k, rfl, hk, hg⟩ := Sd.of_pos hp
    have := sumC_set (C := s.C) (s.of (k : Int) + 1) hk
    show sumC (s.C.set (k : Int).toNat _) ≤ _
    rw [Int.toNat_natCast]
    omega
  · omega
theorem Sd.sum_less (s : Sd) (i : Int) : sumC (s.lessS i).C ≤ sumC s.C := by
  unfold Sd.lessS
  split
  · rename_i hp
    obtain ⟨k, rfl, hk, hg⟩ := Sd.of_pos hp
    have := sumC_set (C := s.C) (s.of (k : Int) - 1) hk
    show sumC (s.C.set (k : Int).toNat _) ≤ _
    rw [Int.toNat_natCast]
    omega
  · exact Nat.le_refl _
theorem sumC_nought (n : Nat) : sumC (List.replicate n 0) = 0 := sumTo_nought n _
theorem Sd.sum_keep (s : Sd) (l : List Int) : sumC (s.keepS l).C ≤ sumC s.C + l.length := by
  unfold Sd.keepS
  split
  · rename_i hk
    have hk := Sd.keepOk_iff.1 hk
    show sumC (addZ (List.replicate s.N 0) l) ≤ _
    rw [sumC_add l _ (fun x hx => by unfold isSec; rw [List.length_replicate]; exact ⟨by have := (hk x hx).1; omega, (hk x hx).2⟩), sumC_nought]
    omega
  · omega

end Go.Proofs.YthfeecgpgempdaaDoor

/- The document's own answers, by their contracts: digits as bytes: Get, TakeOnes, Rest. -/
namespace Go.Proofs.YthfeecgpgempdaaDoor
set_option linter.unusedVariables false
set_option linter.unusedSimpArgs false
open Go.RowKit Dg

/-- Digits, a byte each, that can be read. -/
def BtAt (w : World) (v : Value) (ds : List Bool) : Prop :=
  (v = .slice none 0 0 ∧ ds = []) ∨
  ∃ b off cap, v = .slice (some ⟨b, off, none⟩) ds.length cap ∧ b < w.heap.size ∧ ds.length ≤ cap ∧ cap ≤ maxLen ∧ ∀ j d, ds[j]? = some d → w.cell? ⟨b, off + j, none⟩ = some (.int .u8 (d.toNat : Int))

theorem BtAt.kept {w w' : World} {v : Value} {ds : List Bool} {F : Nat → Prop} (h : BtAt w v ds) (hk : Kept F w w') (hF : ∀ k, v.ownBlock = some k → ¬ F k) : BtAt w' v ds := by
  rcases h with h | ⟨b, off, cap, rfl, hb, hl, hm, hc⟩
  · exact Or.inl h
  · refine Or.inr ⟨b, off, cap, rfl, Nat.lt_of_lt_of_le hb hk.size, hl, hm, fun j d hd => ?_⟩
    rw [hk.cell hb (hF b rfl)]
    exact hc j d hd
theorem BtAt.below {w w' : World} {v : Value} {ds : List Bool} (h : BtAt w v ds) (hb : Below w.heap.size w w') : BtAt w' v ds :=
  h.kept (F := fun _ => False) (Kept.of_below hb) (fun _ _ h => h)
theorem BtAt.drew {w : World} {v : Value} {ds : List Bool} (h : BtAt w v ds) : BtAt w.drew v ds := h
theorem BtAt.drewN {w : World} {v : Value} {ds : List Bool} (n : Nat) (h : BtAt w v ds) : BtAt (w.drewN n) v ds := h
theorem BtAt.lt {w : World} {v : Value} {ds : List Bool} (h : BtAt w v ds) : ∀ k, v.ownBlock = some k → k < w.heap.size := by
  rcases h with ⟨rfl, _⟩ | ⟨b, off, cap, rfl, hb, _⟩
  · intro k hk; simp [Value.ownBlock] at hk
  · intro k hk; simp [Value.ownBlock] at hk; omega

/-- What is behind the first n digits. -/
theorem BtAt.drop {w : World} {b off cap o n : Nat} {ds : List Bool} (hb : b < w.heap.size) (hn : n ≤ ds.length) (hl : ds.length ≤ cap) (hm : cap ≤ maxLen) (hc : ∀ j d, ds[j]? = some d → w.cell? ⟨b, off + j, none⟩ = some (.int .u8 (d.toNat : Int))) (ho : cap ≠ n → o = off + n) :
    BtAt w (.slice (some ⟨b, o, none⟩) (ds.length - n) (cap - n)) (ds.drop n) := by
  refine Or.inr ⟨b, o, cap - n, by simp, hb, by simp; omega, by omega, fun j d hd => ?_⟩
  have hj : n + j < ds.length := by
    have := (List.getElem?_eq_some_iff.1 hd).1
    simp at this; omega
  rw [ho (by omega)]
  rw [List.getElem?_drop] at hd
  have := hc (n + j) d hd
  rw [Nat.add_assoc]
  exact this

/-- Get: what comes, how many are taken, whether it may be. -/
def getOut (ds : List Bool) (n : Int) : Nat × Nat × Bool :=
  if 0 ≤ n ∧ n ≤ 62 ∧ n ≤ ds.length then (num (ds.take n.toNat), n.toNat, true) else (0, 0, false)

end Go.Proofs.YthfeecgpgempdaaDoor

/- The document's own answers, by their contracts: TakeOnes, Rest. -/
namespace Go.Proofs.YthfeecgpgempdaaDoor
set_option linter.unusedVariables false
set_option linter.unusedSimpArgs false
open Go.RowKit Dg

/-- How many ones are ahead, m at most. -/
def lead : List Bool → Nat → Nat
  | [], _ => 0
  | _ :: _, 0 => 0
  | true :: ds, m + 1 => lead ds m + 1
  | false :: _, _ + 1 => 0
theorem lead_le (ds : List Bool) : ∀ m, lead ds m ≤ m := by
  induction ds with
  | nil => intro m; simp [lead]
  | cons d ds ih =>
    intro m
    cases m with
    | zero => simp [lead]
    | succ m => cases d with
      | true => have := ih m; simp [lead]; omega
      | false => simp [lead]
theorem lead_le_length (ds : List Bool) : ∀ m, lead ds m ≤ ds.length := by
  induction ds with
  | nil => intro m; simp [lead]
  | cons d ds ih =>
    intro m
    cases m with
    | zero => simp [lead]
    | succ m => cases d with
      | true => have := ih m; simp [lead]; omega
      | false => simp [lead]
theorem lead_true (ds : List Bool) : ∀ m i, i < lead ds m → ds[i]? = some true := by
  induction ds with
  | nil => intro m i h; simp [lead] at h
  | cons d ds ih =>
    intro m i h
    cases m with
    | zero => simp [lead] at h
    | succ m => cases d with
      | true =>
        simp only [lead] at h
        cases i with
        | zero => rfl
        | succ i => rw [List.getElem?_cons_succ]; exact ih m i (by omega)
      | false => simp [lead] at h
theorem lead_false (ds : List Bool) : ∀ m, lead ds m < m → lead ds m < ds.length → ds[lead ds m]? = some false := by
  induction ds with
  | nil => intro m _ h; simp at h
  | cons d ds ih =>
    intro m h1 h2
    cases m with
    | zero => omega
    | succ m => cases d with
      | true =>
        simp only [lead, List.length_cons] at h1 h2 ⊢
        rw [List.getElem?_cons_succ]
        exact ih m (by omega) (by omega)
      | false => simp [lead]

/-- Ones: what comes, how many are taken, whether it may be. -/
def onesOut (ds : List Bool) (most : Int) : Nat × Nat × Bool :=
  if 0 ≤ most ∧ most ≤ 1024 then
    if lead ds most.toNat = most.toNat then (most.toNat, most.toNat, true)
    else if lead ds most.toNat = ds.length then (0, 0, false)
    else (lead ds most.toNat, lead ds most.toNat + 1, true)
  else (0, 0, false)

end Go.Proofs.YthfeecgpgempdaaDoor

/- A reader and the document's own digits side by side: each call by one contract for all arguments. -/
namespace Go.Proofs.YthfeecgpgempdaaDoor
set_option linter.unusedVariables false
set_option linter.unusedSimpArgs false
open Go.RowKit Dg

theorem cell_one {w : World} {b off : Nat} {ds : List Bool} (hc : ∀ j d, ds[j]? = some d → w.cell? ⟨b, off + j, none⟩ = some (.int .u8 (d.toNat : Int))) {i : Nat} (h : ds[i]? = some true) : w.cell? ⟨b, off + i, none⟩ = some (.int .u8 1) := hc i true h
theorem cell_nought {w : World} {b off : Nat} {ds : List Bool} (hc : ∀ j d, ds[j]? = some d → w.cell? ⟨b, off + j, none⟩ = some (.int .u8 (d.toNat : Int))) {i : Nat} (h : ds[i]? = some false) : w.cell? ⟨b, off + i, none⟩ = some (.int .u8 0) := hc i false h

/-- What a reader has left. -/
def left (l : List Nat) (k : Nat) : List Bool := (unpack l).drop k
theorem left_get (l : List Nat) (k i : Nat) : (left l k)[i]? = (unpack l)[k + i]? := by simp [left]
theorem left_len (l : List Nat) (k : Nat) : (left l k).length = 8 * l.length - k := by simp [left]
theorem left_drop (l : List Nat) (k n : Nat) : left l (k + n) = (left l k).drop n := by simp [left]

/-- Are all noughts? -/
def noOnes (ds : List Bool) : Bool := !ds.any id
theorem noOnes_cons (d : Bool) (ds : List Bool) : noOnes (d :: ds) = (!d && noOnes ds) := by simp [noOnes]
theorem noOnes_split (ds : List Bool) : (noOnes ds = true ∧ ∀ i, i < ds.length → ds[i]? = some false) ∨ (noOnes ds = false ∧ ∃ c : Nat, ds[c]? = some true ∧ ∀ i : Nat, i < c → ds[i]? = some false) := by
  induction ds with
  | nil => exact Or.inl ⟨rfl, fun i h => by simp at h⟩
  | cons d ds ih =>
    cases d with
    | true => exact Or.inr ⟨by simp [noOnes], 0, rfl, fun i h => by omega⟩
    | false =>
      rw [noOnes_cons]
      rcases ih with ⟨h1, h2⟩ | ⟨h1, c, h2, h3⟩
      · refine Or.inl ⟨by simpa using h1, fun i h => ?_⟩
        cases i with
        | zero => rfl
        | succ i => rw [List.getElem?_cons_succ]; exact h2 i (by simpa using h)
      · refine Or.inr ⟨by simpa using h1, c + 1, by rw [List.getElem?_cons_succ]; exact h2, fun i h => ?_⟩
        cases i with
        | zero => rfl
        | succ i => rw [List.getElem?_cons_succ]; exact h3 i (by omega)

end Go.Proofs.YthfeecgpgempdaaDoor

/- The document's own answers: Of. -/
namespace Go.Proofs.YthfeecgpgempdaaDoor
set_option linter.unusedVariables false
set_option linter.unusedSimpArgs false
open Go.RowKit Dg

/-- Digits as bytes. -/
def bn (ds : List Bool) : List Nat := ds.map Bool.toNat
@[simp] theorem length_bn (ds : List Bool) : (bn ds).length = ds.length := by simp [bn]
theorem bn_snoc (ds : List Bool) (d : Bool) : u8s (bn (ds ++ [d])) = u8s (bn ds) ++ [.int .u8 (d.toNat : Int)] := by simp [u8s, bn]
theorem bn_get (ds : List Bool) (j : Nat) : (u8s (bn ds))[j]? = ds[j]?.map fun d => Value.int .u8 (d.toNat : Int) := by simp [u8s, bn]; rfl

theorem BtAt.of_owns {w : World} {base : Nat} {v : Value} {ds : List Bool} (h : w.ownsRow base 5 1 v ds.length (u8s (bn ds))) : BtAt w v ds := by
  rcases h.2 with ⟨rfl, hn⟩ | ⟨g, cap, cur, rfl, hb, hh, hn, hm, hcs, htake⟩
  · exact Or.inl ⟨rfl, List.eq_nil_of_length_eq_zero hn⟩
  · refine Or.inr ⟨g, 0, cap, rfl, (Array.getElem?_eq_some_iff.1 hh).1, hn, hm, fun j d hd => ?_⟩
    have hj : j < ds.length := (List.getElem?_eq_some_iff.1 hd).1
    have e : (u8s (bn ds))[j]? = some (.int .u8 (d.toNat : Int)) := by rw [bn_get, hd]; rfl
    rw [← htake, List.getElem?_take, if_pos (by omega)] at e
    simp only [World.cell?, hh]
    simpa using e

theorem bit_k (x k : Nat) (d : Bool) (hx : x < 256) (hd : d = ((x : Int) / 2 ^ k % 2 == 1)) : bits BinOp.and IntKind.u8 ((x : Int) / 2 ^ k) 1 = (d.toNat : Int) := by
  have e : (x : Int) / 2 ^ k = ((x / 2 ^ k : Nat) : Int) := by push_cast; rfl
  have hlt : x / 2 ^ k < 256 := Nat.lt_of_le_of_lt (Nat.div_le_self _ _) hx
  rw [e] at hd ⊢
  have e1 : (1 : Int) = ((1 : Nat) : Int) := rfl
  rw [e1, u8_and_nat _ _ hlt (by decide), nat_mask1, hd]
  have h2 : x / 2 ^ k % 2 = 0 ∨ x / 2 ^ k % 2 = 1 := by omega
  have e3 : ((x / 2 ^ k : Nat) : Int) % 2 = ((x / 2 ^ k % 2 : Nat) : Int) := by push_cast; rfl
  rw [e3]
  rcases h2 with h | h <;> rw [h] <;> rfl

theorem dig8 (x : Nat) : dig (x : Int) 8 = (List.range 8).map (digitOf x) := by
  have h : ∀ k j : Nat, 7 - j = k → ((x : Int) / 2 ^ k % 2 == 1) = digitOf x j := by
    intro k j hk
    unfold digitOf
    rw [hk]
    have e : (x : Int) / 2 ^ k % 2 = ((x / 2 ^ k % 2 : Nat) : Int) := by push_cast; rfl
    rw [e]
    have h2 : x / 2 ^ k % 2 = 0 ∨ x / 2 ^ k % 2 = 1 := by omega
    rcases h2 with h | h <;> rw [h] <;> rfl
  have e : List.range 8 = [0, 1, 2, 3, 4, 5, 6, 7] := by decide
  rw [e]
  simp only [dig, List.map_cons, List.map_nil]
  rw [h 7 0 rfl, h 6 1 rfl, h 5 2 rfl, h 4 3 rfl, h 3 4 rfl, h 2 5 rfl, h 1 6 rfl, h 0 7 rfl]

theorem unpack_snoc (l : List Nat) (x : Nat) : unpack (l ++ [x]) = unpack l ++ dig (x : Int) 8 := by rw [dig8]; simp [unpack]

/-- What of bytes a loop has laid as digits. -/
def OfAt (w wr : World) (v : Value) (ds : List Bool) : Prop := wr.ownsRow w.heap.size 5 1 v ds.length (u8s (bn ds)) ∧ Below w.heap.size w wr

end Go.Proofs.YthfeecgpgempdaaDoor

/- Lend and Intact. -/
namespace Go.Proofs.YthfeecgpgempdaaDoor
set_option linter.unusedVariables false
set_option linter.unusedSimpArgs false
open Go.RowKit Dg

/-- 'make([]T, n, c)': a new row of c zero elements. -/
theorem wpList_make_cap {P : Program} (w : World) {ops : Array Oper} {rest : List Oper} {o : Oper} {a : Act} {Q : Exit → Act → World → Prop}
    (hg : o.guard = none) (l c : Operand) (t : TypeId) (hop : o.op = Op.makeSlice t l c)
    (e : TypeId) (i : TypeInfo) (z : Value) (h1 : P.underlying t = some (.slice e)) (h2 : P.info? e = some i) (h3 : i.zero = some z)
    (kl kc : IntKind) (L C : Int) (n m : Nat) (hl : a.eval l = .int kl L) (hc : a.eval c = .int kc C) (hL : L = (n : Int)) (hC : C = (m : Int)) (hnm : n ≤ m) (b2 : i.bytes * m ≤ 281474976710656) (b3 : m ≤ maxLen)
    (hK : ∀ cur : Array Value, cur.size = m * i.size → wpList P ops Q rest (a.put o.dst (.slice (some ⟨w.heap.size, 0, none⟩) n m)) (w.alloc (.cells cur e))) :
    wpList P ops Q (o :: rest) a w := by
  refine wpList_plain hg fun K hK' => ?_
  have b3' : (m : Int) ≤ 9223372036854775807 := by unfold maxLen at b3; omega
  have b2' : (i.bytes : Int) * (m : Int) ≤ 281474976710656 := by
    have h : ((i.bytes * m : Nat) : Int) ≤ 281474976710656 := by omega
    rwa [Int.natCast_mul] at h
  have hrun := run_make (P := P) w t e i z h1 h2 h3 kl kc n m (by omega) (by omega) b2' b3'
  simp only [Int.toNat_natCast] at hrun
  subst hL
  subst hC
  unfold Oper.wp
  simp [execOp, hop, hl, hc, hrun, Result.andThen]
  exact hK' _ _ (hK _ (size_madeCells _ _))

/-- A row's cells, all of them. -/
def RowIs (w : World) (g : Nat) (X : List Value) : Prop := w.heap[g]? = some (.cells X.toArray 5 (0, 0))
theorem RowIs.cell {w : World} {g : Nat} {X : List Value} (h : RowIs w g X) {j : Nat} {u : Value} (hu : X[j]? = some u) : w.cell? ⟨g, j, none⟩ = some u := by
  have h' : w.heap[g]? = some (.cells X.toArray 5 (0, 0)) := h
  simp only [World.cell?, h']
  simpa using hu
theorem RowIs.frozen {w : World} {g : Nat} {X : List Value} (h : RowIs w g X) (j : Nat) : w.frozen? ⟨g, j, none⟩ = false := by
  have h' : w.heap[g]? = some (.cells X.toArray 5 (0, 0)) := h
  simp [World.frozen?, h']
theorem RowIs.set {w : World} {g : Nat} {X : List Value} (h : RowIs w g X) (j : Nat) (u : Value) : RowIs (w.setCell ⟨g, j, none⟩ u) g (X.set j u) := by
  have := heap_setCell_of (o := j) (show w.heap[g]? = some (.cells X.toArray 5 (0, 0)) from h) u
  unfold RowIs
  rw [this]
  simp
theorem RowIs.kept {w w' : World} {g : Nat} {X : List Value} {F : Nat → Prop} (h : RowIs w g X) (hk : Kept F w w') (hF : ¬ F g) : RowIs w' g X := by
  have h' : w.heap[g]? = some (.cells X.toArray 5 (0, 0)) := h
  unfold RowIs
  rw [hk.block g (Array.getElem?_eq_some_iff.1 h').1 hF]
  exact h'
theorem RowIs.below {w w' : World} {g : Nat} {X : List Value} (h : RowIs w g X) (hb : Below w.heap.size w w') : RowIs w' g X := h.kept (F := fun _ => False) (Kept.of_below hb) (fun h => h)
theorem RowIs.lt {w : World} {g : Nat} {X : List Value} (h : RowIs w g X) : g < w.heap.size := by
  have h' : w.heap[g]? = some (.cells X.toArray 5 (0, 0)) := h
  exact (Array.getElem?_eq_some_iff.1 h').1

end Go.Proofs.YthfeecgpgempdaaDoor

/- Rows of bytes of the call's own: cells, parts, copies; a cut slice of bytes. -/
namespace Go.Proofs.YthfeecgpgempdaaDoor
set_option linter.unusedVariables false
set_option linter.unusedSimpArgs false
open Go.RowKit Dg

/-- What a cut slice of bytes is. -/
theorem cut_row {w : World} {a : Option Addr} {len cap n : Nat} {zs : List Int} (hr : IsRow .u8 w a len cap zs) :
    ∃ l : List Nat, l.length = min len n ∧ (∀ x ∈ l, x < 256) ∧ SlAt w (.slice a (min len n) cap) l ∧ len ≤ cap ∧ cap ≤ maxLen ∧ (a = none → len = 0 ∧ cap = 0) := by
  obtain ⟨l0, hl0, hl256, hsl⟩ := hr.bytes
  have hcut : len ≤ cap ∧ cap ≤ maxLen ∧ (a = none → len = 0 ∧ cap = 0) := by
    rcases hr with ⟨rfl, rfl, rfl, rfl⟩ | ⟨x, rfl, hle, hm, hz, hc, hwf⟩
    · exact ⟨Nat.le_refl _, by decide, fun _ => ⟨rfl, rfl⟩⟩
    · exact ⟨hle, hm, fun h => by cases h⟩
  exact ⟨l0.take (min len n), by simp; omega, fun x hx => hl256 x (List.mem_of_mem_take hx), hsl _ (by omega), hcut⟩
theorem SlAt.lt {w : World} {v : Value} {l : List Nat} (h : SlAt w v l) (hne : l ≠ []) : ∀ k, v.ownBlock = some k → k < w.heap.size := by
  obtain ⟨a1, c1, rfl, hc1⟩ := h
  have hpos : 0 < l.length := List.length_pos_iff.2 hne
  obtain ⟨b1, o1, rfl, e⟩ := hc1 0 l[0] (by simp)
  intro k hk
  cases hk
  exact World.block_lt_of_cell? w _ e
theorem SlAt.kept' {w w' : World} {v : Value} {l : List Nat} {F : Nat → Prop} (h : SlAt w v l) (hk : Kept F w w') (hF : l ≠ [] → ∀ k, v.ownBlock = some k → ¬ F k) : SlAt w' v l := by
  by_cases hne : l = []
  · subst hne
    obtain ⟨a1, c1, rfl, _⟩ := h
    exact ⟨a1, c1, rfl, fun j x hx => by simp at hx⟩
  · exact h.kept hk (hF hne)
theorem SlAt.drewN {w : World} {v : Value} {l : List Nat} (h : SlAt w v l) (n : Nat) : SlAt (w.drewN n) v l := h
theorem SlAt.of_row {w : World} {g : Nat} {l r : List Nat} {c : Nat} (h : RowIs w g (u8s (l ++ r))) : SlAt w (.slice (some ⟨g, 0, none⟩) l.length c) l := by
  refine ⟨some ⟨g, 0, none⟩, c, rfl, fun j x hx => ⟨g, 0, rfl, ?_⟩⟩
  have hj : j < l.length := (List.getElem?_eq_some_iff.1 hx).1
  rw [Nat.zero_add]
  exact h.cell (by rw [u8s_get, List.getElem?_append_left hj, hx]; rfl)
/-- A row of bytes of the call's own. -/
def OwnBytes (w : World) (base : Nat) (v : Value) (l : List Nat) : Prop := w.ownsRow base 5 1 v l.length (u8s l)
/-- An append whose run is known, also a guarded one. -/
theorem wpList_append_go {P : Program} (w : World) {ops : Array Oper} {rest : List Oper} {o : Oper} {a : Act} {Q : Exit → Act → World → Prop} (hw : Region.wanted o (yielded ops a.tmps) = true) (s x : Operand) (t tn : TypeId)
    (ho : o.op = .call { callee := .builtin .append, args := #[s, x], argTypes := #[t, tn] }) (vs vx : Value) (hs : a.eval s = vs) (hx : a.eval x = vx)
    (v' : Value) (w' : World) (hr : (Builtin.append_ #[t, tn] o.type #[vs, vx]).run P w = .ok v' w') (h : wpList P ops Q rest (a.put o.dst v') w') : wpList P ops Q (o :: rest) a w :=
  BigFrame.wpList_want hw fun K hK => Lib.wp_append_run w s x t tn ho vs vx hs hx v' w' hr (hK _ _ h)
theorem zeros_u8 (m : Nat) : (Builtin.zeroCells (Value.int .u8 0).cells m).toList = u8s (List.replicate m 0) := by
  apply List.ext_getElem?
  intro k
  by_cases hk : k < m
  · simp [Builtin.zeroCells, u8s, hk, Value.cells, Nat.mod_one]
  · rw [List.getElem?_eq_none (by simp [Builtin.zeroCells, Value.cells]; omega), List.getElem?_eq_none (by simp; omega)]
theorem made_zeros (n : Nat) : (madeCells (Value.int .u8 0).cells (n * 1)).toList = u8s (List.replicate n 0) := by
  apply List.ext_getElem?
  intro k
  by_cases hk : k < n
  · simp [madeCells, u8s, hk, Value.cells, Nat.mod_one]
  · rw [List.getElem?_eq_none (by simp [madeCells]; omega), List.getElem?_eq_none (by simp; omega)]
theorem u8s_append (l m : List Nat) : u8s (l ++ m) = u8s l ++ u8s m := by simp [u8s]
theorem own_cell {w : World} {base g n c : Nat} {l : List Nat} {j x : Nat} (h : w.ownsRow base 5 1 (.slice (some ⟨g, 0, none⟩) n c) n (u8s l)) (hx : l[j]? = some x) :
    w.cell? ⟨g, j, none⟩ = some (.int .u8 (x : Int)) ∧ w.frozen? ⟨g, j, none⟩ = false := by
  have hl : l.length = n := by have := h.1; simpa using this
  have hj : j < l.length := (List.getElem?_eq_some_iff.1 hx).1
  rcases h.2 with ⟨e1, _⟩ | ⟨g', cap', cur, hv, hgb, hh, hncap, _, hcs, htake⟩
  · cases e1
  · cases hv
    refine ⟨?_, by simp [World.frozen?, hh]⟩
    have e : (u8s l)[j]? = some (.int .u8 (x : Int)) := by rw [u8s_get, hx]; rfl
    rw [← htake, List.getElem?_take, if_pos (by omega)] at e
    simp only [World.cell?, hh]
    simpa using e
theorem own_set {w : World} {base g n c : Nat} {l : List Nat} (h : w.ownsRow base 5 1 (.slice (some ⟨g, 0, none⟩) n c) n (u8s l)) (j y : Nat) (hj : j < n) :
    (w.setCell ⟨g, j, none⟩ (.int .u8 (y : Int))).ownsRow base 5 1 (.slice (some ⟨g, 0, none⟩) n c) n (u8s (l.set j y)) := by
  rw [← u8s_set]; exact ownsRow_set h j hj _
theorem own_cap {w : World} {base g n c : Nat} {xs : List Value} (h : w.ownsRow base 5 1 (.slice (some ⟨g, 0, none⟩) n c) n xs) : n ≤ c ∧ c ≤ maxLen := by
  rcases h.2 with ⟨e1, _⟩ | ⟨g', cap', cur, hv, hgb, hh, hncap, hm, _⟩
  · cases e1
  · cases hv
    exact ⟨hncap, hm⟩
/-- A row that has just been made. -/
theorem own_new (w : World) (base : Nat) (Z : Array Value) (N : Nat) (l : List Nat) (hZ : Z.toList = u8s l) (hl : l.length = N) (hN : N ≤ 1000000) (hb : base ≤ w.heap.size) :
    (w.alloc (.cells Z 5)).ownsRow base 5 1 (.slice (some ⟨w.heap.size, 0, none⟩) N N) N (u8s l) := by
  have hs : Z.size = N := by have := congrArg List.length hZ; simpa [hl] using this
  refine ⟨by simp [hl], .inr ⟨w.heap.size, N, Z, rfl, hb, heap_alloc_new w _, Nat.le_refl _, by unfold maxLen; omega, by omega, ?_⟩⟩
  rw [hZ]; exact List.take_of_length_le (by simp [hl])
/-- A part of a row. -/
theorem own_part {w : World} {base g n c : Nat} {l : List Nat} (h : w.ownsRow base 5 1 (.slice (some ⟨g, 0, none⟩) n c) n (u8s l)) (i m c' : Nat) (him : i + m ≤ n) :
    SlAt w (.slice (some ⟨g, i, none⟩) m c') ((l.drop i).take m) := by
  have hl : l.length = n := by have := h.1; simpa using this
  refine ⟨some ⟨g, i, none⟩, c', by simp; omega, fun j x hx => ⟨g, i, rfl, ?_⟩⟩
  have hj : j < m := by have := (List.getElem?_eq_some_iff.1 hx).1; simp at this; omega
  rw [List.getElem?_take, if_pos hj, List.getElem?_drop] at hx
  exact (own_cell h hx).1
theorem sl_cell {w : World} {a : Option Addr} {n cap : Nat} {l : List Nat} {j x : Nat} (h : SlAt w (.slice a n cap) l) (hx : l[j]? = some x) :
    ∃ b off, a = some ⟨b, off, none⟩ ∧ w.cell? ⟨b, off + j, none⟩ = some (.int .u8 ((x : Nat) : Int)) := by
  obtain ⟨a1, c1, e, hc⟩ := h
  cases e
  exact hc j x hx
theorem SlAt.take {w : World} {a : Option Addr} {n cap : Nat} {l : List Nat} (h : SlAt w (.slice a n cap) l) (k : Nat) (hk : k ≤ n) (hl : l.length = n) : SlAt w (.slice a k cap) (l.take k) := by
  refine ⟨a, cap, by simp; omega, fun j x hx => ?_⟩
  rw [List.getElem?_take] at hx
  split at hx
  · exact sl_cell h hx
  · cases hx
theorem SlAt.none_of (w : World) (a : Option Addr) (c : Nat) {n : Nat} (hn : n = 0) : SlAt w (.slice a n c) [] := ⟨a, c, by rw [hn]; rfl, fun j x hx => by simp at hx⟩
theorem SlAt.addr {w : World} {a : Option Addr} {n cap : Nat} {l : List Nat} (h : SlAt w (.slice a n cap) l) (hne : l ≠ []) : ∃ b off, a = some ⟨b, off, none⟩ := by
  have hpos : 0 < l.length := List.length_pos_iff.2 hne
  obtain ⟨b, off, e, _⟩ := sl_cell h (show l[0]? = some l[0] by simp)
  exact ⟨b, off, e⟩
theorem SlAt.drop {w : World} {x : Addr} {n cap c : Nat} {l : List Nat} (h : SlAt w (.slice (some x) n cap) l) (k : Nat) (hk : k ≤ n) (hl : l.length = n) : SlAt w (.slice (some (x.add k)) (n - k) c) (l.drop k) := by
  refine ⟨some (x.add k), c, by simp [hl], fun j y hy => ?_⟩
  rw [List.getElem?_drop] at hy
  obtain ⟨b, off, e, hc⟩ := sl_cell h hy
  cases e
  exact ⟨b, off + k, by simp [Addr.add], by rw [Nat.add_assoc]; exact hc⟩

end Go.Proofs.YthfeecgpgempdaaDoor
