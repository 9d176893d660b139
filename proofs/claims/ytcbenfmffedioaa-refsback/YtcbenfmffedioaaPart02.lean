/- The texts IntsB, RfMath, RfC, IntsC, RfIn, RfP1, one behind the other. -/
import Derived.Test.YtcbenfmffedioaaPart01
import Derived.Deep.RegionLaw

/- Numbers once more: Same at like numbers; appends to a row of numbers of the call's own, told more closely; parts of such rows. -/
namespace Go.Proofs.Ytcbenfmffedioaa
set_option linter.unusedVariables false
set_option linter.unusedSimpArgs false
open Go.RowKit Dg

theorem take_next (zs : List Int) (j : Nat) (y : Int) (h : zs[j]? = some y) : zs.take (j + 1) = zs.take j ++ [y] := by rw [List.take_add_one, h]; rfl
theorem OwnInts.at {w : World} {base n cap : Nat} {a : Option Addr} {l : List Int} (h : OwnInts w base (.slice a n cap) l) : IntsAt w a l := IntsAt.of_owns h
theorem own_lt {w : World} {base n cap : Nat} {a : Option Addr} {l : List Int} (h : OwnInts w base (.slice a n cap) l) : ∀ x, a = some x → x.block < w.heap.size := by
  intro x hx
  subst hx
  exact (World.ownsRow.lt h x.block rfl).2

set_option maxHeartbeats 1000000 in
theorem sameInt_any (w : World) (a1 a2 : Option Addr) (c1 c2 : Nat) (l : List Int) (h1 : IntsAt w a1 l) (h2 : IntsAt w a2 l) (hl : l.length ≤ 1000000) :
    Calls Try.prog 18 #[.slice a1 l.length c1, .slice a2 l.length c2] w fun e w' => e = .returned (.bool true) ∧ ∃ n, w' = w.drewN n := by
  have H1 : Hid (IntsAt w a1 l) := h1
  have H2 : Hid (IntsAt w a2 l) := h2
  clear h1 h2
  go_enter Try.func18, Try.ntmps18
  go_wp2
  go_loopw [5] (fun i wr => ∃ k m : Nat, k ≤ l.length ∧ i = .int .i64 k ∧ wr = w.drewN m) (fun i _ => l.length - (intOf i).toNat)
  case atStart => exact ⟨0, 0, Nat.zero_le _, rfl, rfl⟩
  case round =>
    obtain ⟨k, m, hk, rfl, rfl⟩ := hrel
    by_cases hkn : k < l.length
    · obtain ⟨b1, o1, rfl, e1⟩ := H1.out k l[k] (by simp [hkn])
      obtain ⟨b2, o2, rfl, e2⟩ := H2.out k l[k] (by simp [hkn])
      obtain ⟨x, hx⟩ : ∃ x : Int, x = l[k] := ⟨_, rfl⟩
      rw [← hx] at e1 e2
      clear hx H1 H2
      go_wp2
      go_region
      all_goals go_wp2
      all_goals go_roundw
      case rel => exact ⟨k + 1, m + 1, by omega, by go_num, rfl⟩
      case measure => simp [intOf]; omega
    · go_wp2
      go_ret
      exact ⟨rfl, m, rfl⟩
/-- 'append(z, n)' of one number that was just built: all but its row is as it was. -/
theorem wpList_append_int_mine {P : Program} (w0 : World) {ops : Array Oper} {rest : List Oper} {o : Oper} {a : Act} {Q : Exit → Act → World → Prop}
    (hgd : o.guard = none) (s x : Operand) (t : TypeId) (ho : o.op = .call { callee := .builtin .append, args := #[s, x], argTypes := #[t, t] })
    (base : Nat) (i : TypeInfo) (ht : P.underlying t = some (.slice 3)) (hi : P.info? 3 = some i) (hz : i.zero = some (.int .i64 0)) (hsize : i.size = 1) (hby : i.bytes = 8)
    (v : Value) (l : List Int) (hs : a.eval s = v) (hown : OwnInts w0 base v l) (y : Int) (hx : a.eval x = .slice (some ⟨w0.heap.size, 0, none⟩) 1 1)
    (hl : l.length ≤ 1000000) (hbase : base ≤ w0.heap.size)
    (h : ∀ v' w', OwnInts w' base v' (l ++ [y]) → Kept (fun k => v.ownBlock = some k) w0 w' → (∀ k, v'.ownBlock = some k → v.ownBlock = some k ∨ w0.heap.size ≤ k) → wpList P ops Q rest (a.put o.dst v') w') : wpList P ops Q (o :: rest) a (w0.alloc (.cells #[.int .i64 y] 3)) := by
  refine wpList_append_mine _ hgd s x t ho base 3 i (.int .i64 0) 1 8 ht hi hz hsize hby rfl (by decide) v l.length (i64s l) hs (World.ownsRow.alloc hown _) ⟨w0.heap.size, 0, none⟩ 1 1 [.int .i64 y] hx rfl ?c1 ?c2 (by decide) ?b1 ?b2 ?b3 ?_
  case c1 => intro j u hj; match j, hj with | 0, hj => simp at hj; subst hj; simp [Addr.add]
  case c2 => intro u hu; simp at hu; subst hu; rfl
  case b1 => unfold maxLen; omega
  case b2 => omega
  case b3 => simp; omega
  intro g cap w' H1 HG HN
  refine h _ w' ?_ ((Kept.alloc _ w0 _).trans (Kept.grown HG.out)) ?_
  · show World.ownsRow _ _ _ _ _ _ _
    have := H1.out
    simpa [i64s] using this
  · intro k hk
    simp [Value.ownBlock] at hk
    subst hk
    rcases HN.out with h2 | h2
    · exact .inl h2
    · simp at h2
      exact .inr (by omega)

/-- 'append(z, n)' of one number that was just built, its outcome named. -/
theorem wpList_append_int_as {P : Program} (w0 : World) {ops : Array Oper} {rest : List Oper} {o : Oper} {a : Act} {Q : Exit → Act → World → Prop}
    (hgd : o.guard = none) (s x : Operand) (t : TypeId) (ho : o.op = .call { callee := .builtin .append, args := #[s, x], argTypes := #[t, t] })
    (base : Nat) (i : TypeInfo) (ht : P.underlying t = some (.slice 3)) (hi : P.info? 3 = some i) (hz : i.zero = some (.int .i64 0)) (hsize : i.size = 1) (hby : i.bytes = 8)
    (v : Value) (l us : List Int) (hs : a.eval s = v) (hown : OwnInts w0 base v l) (y : Int) (hus : us = l ++ [y]) (hx : a.eval x = .slice (some ⟨w0.heap.size, 0, none⟩) 1 1)
    (hl : l.length ≤ 1000000) (hbase : base ≤ w0.heap.size)
    (h : ∀ ya yc w', Hid (OwnInts w' base (.slice ya us.length yc) us) → Hid (IntsAt w' ya us) → Hid (Below base w0 w') → wpList P ops Q rest (a.put o.dst (.slice ya us.length yc)) w') : wpList P ops Q (o :: rest) a (w0.alloc (.cells #[.int .i64 y] 3)) := by
  refine wpList_append_int w0 hgd s x t ho base i ht hi hz hsize hby v l hs hown y hx hl hbase ?_
  intro v' w' h1 h2
  rw [← hus] at h1
  obtain ⟨ya, yc, rfl, hy, _⟩ := h1.out.slice
  exact h ya yc w' h1 hy h2

/-- Numbers that can be read, and their room. -/
structure Ns (w : World) (a : Option Addr) (cap : Nat) (l : List Int) : Prop where
  at_ : IntsAt w a l
  le : l.length ≤ cap
  nil : a = none → cap = 0
theorem IntsAt.mono {w w' : World} {a : Option Addr} {l : List Int} (h : IntsAt w a l) (hb : Below w.heap.size w w') : IntsAt w' a l := by
  intro j x hx
  obtain ⟨b, off, rfl, hc⟩ := h j x hx
  refine ⟨b, off, rfl, ?_⟩
  rw [hb.cell (p := ⟨b, off + j, none⟩) (World.block_lt_of_cell? w _ hc)]
  exact hc
theorem Ns.mono {w w' : World} {a : Option Addr} {cap : Nat} {l : List Int} (h : Ns w a cap l) (hb : Below w.heap.size w w') : Ns w' a cap l := ⟨h.at_.mono hb, h.le, h.nil⟩
theorem IntsAt.drewN {w : World} {a : Option Addr} {l : List Int} (h : IntsAt w a l) (n : Nat) : IntsAt (w.drewN n) a l := h
theorem Ns.drewN {w : World} {a : Option Addr} {cap : Nat} {l : List Int} (h : Ns w a cap l) (n : Nat) : Ns (w.drewN n) a cap l := ⟨h.at_.drewN n, h.le, h.nil⟩
theorem OwnInts.mono {w w' : World} {base : Nat} {v : Value} {l : List Int} (h : OwnInts w base v l) (hb : Below w.heap.size w w') : OwnInts w' base v l := h.below hb (fun k hk => (World.ownsRow.lt h k hk).2)
theorem OwnInts.base {w : World} {base base' : Nat} {v : Value} {l : List Int} (h : OwnInts w base v l) (hb : base' ≤ base) : OwnInts w base' v l := ownsRow_base h hb
theorem OwnInts.drewN {w : World} {base : Nat} {v : Value} {l : List Int} (h : OwnInts w base v l) (n : Nat) : OwnInts (w.drewN n) base v l := h
theorem OwnInts.ns {w : World} {base : Nat} {v : Value} {l : List Int} (h : OwnInts w base v l) : ∃ a cap, v = .slice a l.length cap ∧ Ns w a cap l ∧ (a = none ∧ l = [] ∧ cap = 0 ∨ ∃ g, a = some ⟨g, 0, none⟩) ∧ cap ≤ maxLen := by
  have h' := h
  rcases h.2 with ⟨rfl, hn⟩ | ⟨g, cap, cur, rfl, hb, hh, hn, hm, hcs, htake⟩
  · have : l = [] := List.eq_nil_of_length_eq_zero hn
    subst this
    exact ⟨none, 0, rfl, ⟨IntsAt.nil w _, Nat.le_refl _, fun _ => rfl⟩, .inl ⟨rfl, rfl, rfl⟩, by decide⟩
  · exact ⟨some ⟨g, 0, none⟩, cap, rfl, ⟨IntsAt.of_owns h, hn, fun e => by cases e⟩, .inr ⟨g, rfl⟩, hm⟩
/-- A row of numbers that was just built. -/
theorem OwnInts.lit (w : World) (base : Nat) (l : List Int) (n : Nat) (hn : l.length = n) (hb : base ≤ w.heap.size) (hl : n ≤ 1000000) (cs : Array Value) (hcs : cs.toList = i64s l) : OwnInts (w.alloc (.cells cs 3)) base (.slice (some ⟨w.heap.size, 0, none⟩) n n) l := by
  subst hn
  have hs : cs.size = l.length := by have := congrArg List.length hcs; simpa using this
  have := World.ownsRow_lit (e := 3) (size := 1) (base := base) w cs l.length hb (by unfold maxLen; omega) (by omega)
  show World.ownsRow _ _ _ _ _ _ _
  rw [← hcs]
  exact this
theorem slice_ints (a : Option Addr) (n cap k : Nat) (hk : k ≤ cap) (W : World) : (Instr.sliceAt 22 (.slice a n cap) none (some (.int .i64 (k : Int))) none).run Try.prog W = .ok (.slice a k cap) W := by
  obtain ⟨i0, hi, hz0, hz1, hz2⟩ := info_parts Try.info3
  simp [Instr.sliceAt, Instr.slice, Instr.sliceBounds, Instr.sliceBound, asIntOf, run_underlying Try.underlying22, sizeOf, typeInfo, hi, hk]
  cases a <;> simp [Addr.add]
theorem i64s_append (l m : List Int) : i64s (l ++ m) = i64s l ++ i64s m := by simp [i64s]
/-- 'append(s, x...)' of numbers to a row of the call's own. -/
theorem wpList_append_ints (w : World) {ops : Array Oper} {rest : List Oper} {o : Oper} {a : Act} {Q : Exit → Act → World → Prop}
    (hgd : o.guard = none) (s x : Operand) (ho : o.op = .call { callee := .builtin .append, args := #[s, x], argTypes := #[22, 22] })
    (base : Nat) (v : Value) (l : List Int) (hs : a.eval s = v) (hown : OwnInts w base v l) (xa : Option Addr) (xc : Nat) (m : List Int) (hx : a.eval x = .slice xa m.length xc) (hm : Ns w xa xc m)
    (hl : l.length + m.length ≤ 1000000) (hbase : base ≤ w.heap.size)
    (h : ∀ v' w', Hid (OwnInts w' base v' (l ++ m)) → Hid (Kept (fun k => v.ownBlock = some k) w w') → Hid (∀ k, v'.ownBlock = some k → v.ownBlock = some k ∨ w.heap.size ≤ k) → wpList Try.prog ops Q rest (a.put o.dst v') w') : wpList Try.prog ops Q (o :: rest) a w := by
  obtain ⟨i0, hi, hz0, hz1, hz2⟩ := info_parts Try.info3
  have hown' : w.ownsRow base 3 1 v l.length (i64s l) := hown
  cases xa with
  | none =>
    have hc := hm.nil rfl
    have hle := hm.le
    have hm0 : m = [] := List.eq_nil_of_length_eq_zero (by omega)
    subst hm0 hc
    refine wpList_append_own_none hgd s x 22 ho base 3 i0 1 Try.underlying22 hi v l.length (i64s l) hs hown' hx ?_
    refine h v w ?_ (Kept.refl _ _) (fun k hk => .inl hk)
    rw [List.append_nil]; exact hown
  | some ad =>
    have hcell : ∀ j u, (i64s m)[j]? = some u → w.cell? (ad.add j) = some u := by
      intro j u hu
      rw [i64s_get] at hu
      obtain ⟨y, hy, rfl⟩ := Option.map_eq_some_iff.1 hu
      obtain ⟨b, off, e, hc⟩ := hm.at_ j y hy
      cases e
      have hadd : (⟨b, off, none⟩ : Addr).add j = ⟨b, off + j, none⟩ := by simp [Addr.add]
      rw [hadd]
      exact hc
    have hone : ∀ u ∈ i64s m, u.oneCell' = true := by intro u hu; simp [i64s] at hu; obtain ⟨y, _, rfl⟩ := hu; rfl
    by_cases hne : m = []
    · subst hne
      rcases hown'.2 with ⟨hv, hn⟩ | ⟨g, cap, cur, hv, hb, hh, hn, hcm, hcs, htake⟩
      · refine wpList_append_own _ hgd s x 22 ho base 3 i0 (.int .i64 0) 1 8 Try.underlying22 hi hz0 hz1 hz2 rfl (by decide) v l.length (i64s l) hs hown' ad 0 xc [] hx rfl (fun j u hu => by simp at hu) (fun u hu => by simp at hu) (by unfold maxLen; omega) (by omega) hbase ?_
        intro v' w' h1 h2 h3
        have hv' : v' = .slice none 0 0 := h3.2 ⟨hv, rfl⟩
        refine h v' w' ?_ (Kept.grown h2) (fun k hk => by rw [hv'] at hk; cases hk)
        show World.ownsRow _ _ _ _ _ _ _
        simpa [i64s_append] using h1
      · refine wpList_append_fits w hgd s x 22 ho base 3 i0 1 Try.underlying22 hi hz1 g l.length cap (i64s l) (hs.trans hv) (hv ▸ hown') ad 0 xc [] hx rfl (fun j u hu => by simp at hu) (fun u hu => by simp at hu) (by omega) ?_
        intro w' h1 h2
        refine h _ w' ?_ ?_ (fun k hk => .inl ?_)
        · show World.ownsRow _ _ _ _ _ _ _
          simpa [i64s_append] using h1
        · have := Kept.grown h2
          rw [hv]; exact this
        · rw [hv]; exact hk
    · refine wpList_append_mine _ hgd s x 22 ho base 3 i0 (.int .i64 0) 1 8 Try.underlying22 hi hz0 hz1 hz2 rfl (by decide) v l.length (i64s l) hs hown' ad m.length xc (i64s m) hx (by simp) hcell hone (List.length_pos_iff.2 hne) (by unfold maxLen; omega) (by omega) hbase ?_
      intro g cap w' h1 h2 h3
      refine h _ w' ?_ (Kept.grown h2.out) (fun k hk => ?_)
      · show World.ownsRow _ _ _ _ _ _ _
        rw [i64s_append, List.length_append]; exact h1.out
      · simp [Value.ownBlock] at hk
        subst hk
        exact h3.out

/-- 'append(z, n)' of one number that was just built, as one step of a region that draws its order. -/
theorem step_append_int {P : Program} {ops : Array Oper} {o : Oper} {a : Act} (w0 : World) {K : Act → World → Prop} {Q : Exit → Act → World → Prop} {E : Prop}
    (hgd : o.guard = none) (s x : Operand) (t : TypeId) (ho : o.op = .call { callee := .builtin .append, args := #[s, x], argTypes := #[t, t] })
    (base : Nat) (i : TypeInfo) (ht : P.underlying t = some (.slice 3)) (hi : P.info? 3 = some i) (hz : i.zero = some (.int .i64 0)) (hsize : i.size = 1) (hby : i.bytes = 8)
    (v : Value) (l : List Int) (hs : a.eval s = v) (hown : OwnInts w0 base v l) (y : Int) (hx : a.eval x = .slice (some ⟨w0.heap.size, 0, none⟩) 1 1)
    (hl : l.length ≤ 1000000) (hbase : base ≤ w0.heap.size)
    (hK : ∀ v' w', Hid (OwnInts w' base v' (l ++ [y])) → Hid (Below base w0 w') → K (a.put o.dst v') w') :
    if Region.wanted o (yielded ops a.tmps) = true then Oper.wp P o a (w0.alloc (.cells #[.int .i64 y] 3)) K Q else E := by
  have hw : Region.wanted o (yielded ops a.tmps) = true := by simp [Region.wanted, hgd]
  rw [if_pos hw]
  obtain ⟨v', w', hrun, r1, r2, r3⟩ := run_append_own (P := P) (w0.alloc (.cells #[.int .i64 y] 3)) base t o.type 3 i (.int .i64 0) 1 8 ht hi hz hsize hby rfl (by decide) v l.length (i64s l) (World.ownsRow.alloc hown _) ⟨w0.heap.size, 0, none⟩ 1 1 [.int .i64 y] rfl
    (by intro j u hj; match j, hj with | 0, hj => simp at hj; subst hj; simp [Addr.add]) (by intro u hu; simp at hu; subst hu; rfl) (by unfold maxLen; omega) (by omega) (by simp; omega)
  unfold Oper.wp
  simp [execOp, ho, resolve, invoke, builtin, hs, hx, hrun, Result.andThen]
  refine hK v' w' ?_ ?_
  · show World.ownsRow _ _ _ _ _ _ _
    simpa [i64s] using r1
  · exact ((Below.refl base w0).alloc hbase _).grown r2 (by simp; omega) (fun k hk => (World.ownsRow.lt hown k hk).1)

end Go.Proofs.Ytcbenfmffedioaa

/- Counts of sectors as plain data: added, dropped, all together, those that have one; no program. -/
namespace Go.Proofs.Ytcbenfmffedioaa
set_option linter.unusedVariables false
set_option linter.unusedSimpArgs false
open Go.RowKit Dg

/-- Is it a sector? -/
def isSec (C : List Nat) (x : Int) : Prop := 0 ≤ x ∧ x < (C.length : Int)
instance (C : List Nat) (x : Int) : Decidable (isSec C x) := inferInstanceAs (Decidable (_ ∧ _))
/-- One more of each. -/
def addZ (C : List Nat) (l : List Int) : List Nat := l.foldl (fun C x => C.set x.toNat (C.getD x.toNat 0 + 1)) C
def okZ (C : List Nat) (l : List Int) : Bool := l.all fun x => decide (isSec C x)
/-- What Add leaves. -/
def addS (C : List Nat) (l : List Int) : List Nat := if okZ C l then addZ C l else C
theorem addZ_nil (C : List Nat) : addZ C [] = C := rfl
theorem addZ_cons (C : List Nat) (x : Int) (l : List Int) : addZ C (x :: l) = addZ (C.set x.toNat (C.getD x.toNat 0 + 1)) l := rfl
theorem addZ_append (C : List Nat) (l m : List Int) : addZ C (l ++ m) = addZ (addZ C l) m := by simp [addZ]
theorem addZ_snoc (C : List Nat) (l : List Int) (x : Int) : addZ C (l ++ [x]) = (addZ C l).set x.toNat ((addZ C l).getD x.toNat 0 + 1) := by rw [addZ_append]; rfl
theorem length_addZ : ∀ (l : List Int) (C : List Nat), (addZ C l).length = C.length
  | [], C => rfl
  | x :: l, C => by rw [addZ_cons, length_addZ l, List.length_set]
theorem length_addS (C : List Nat) (l : List Int) : (addS C l).length = C.length := by
  unfold addS
  split
  · exact length_addZ l C
  · rfl
theorem okZ_iff (C : List Nat) (l : List Int) : okZ C l = true ↔ ∀ x ∈ l, isSec C x := by
  unfold okZ
  rw [List.all_eq_true]
  exact ⟨fun h x hx => of_decide_eq_true (h x hx), fun h x hx => decide_eq_true (h x hx)⟩
theorem addZ_get : ∀ (l : List Int) (C : List Nat), (∀ x ∈ l, isSec C x) → ∀ k : Nat, k < C.length → (addZ C l).getD k 0 = C.getD k 0 + l.count (k : Int)
  | [], C, _, k, _ => rfl
  | x :: l, C, h, k, hk => by
    have hx := h x (List.mem_cons_self ..)
    have h2 : ∀ y ∈ l, isSec (C.set x.toNat (C.getD x.toNat 0 + 1)) y := fun y hy => by
      unfold isSec
      rw [List.length_set]
      exact h y (List.mem_cons_of_mem _ hy)
    rw [addZ_cons, addZ_get l _ h2 k (by rw [List.length_set]; exact hk), List.count_cons]
    have e : (C.set x.toNat (C.getD x.toNat 0 + 1)).getD k 0 = if x.toNat = k then C.getD x.toNat 0 + 1 else C.getD k 0 := by
      rw [List.getD_eq_getElem?_getD, List.getElem?_set]
      by_cases e : x.toNat = k
      · rw [if_pos e, if_pos e, if_pos (by omega)]; rfl
      · rw [if_neg e, if_neg e, List.getD_eq_getElem?_getD]
    rw [e]
    by_cases e2 : x.toNat = k
    · have e3 : x = (k : Int) := by have := hx.1; omega
      rw [if_pos e2, e2, e3]
      simp
      omega
    · have e3 : ¬ x = (k : Int) := by omega
      rw [if_neg e2]
      simp [e3]
theorem eq_of_getD {C D : List Nat} (hl : C.length = D.length) (h : ∀ k, k < C.length → C.getD k 0 = D.getD k 0) : C = D := by
  refine List.ext_getElem? fun k => ?_
  by_cases hk : k < C.length
  · have e := h k hk
    rw [List.getD_eq_getElem?_getD, List.getD_eq_getElem?_getD, List.getElem?_eq_getElem hk, List.getElem?_eq_getElem (by omega)] at e
    rw [List.getElem?_eq_getElem hk, List.getElem?_eq_getElem (by omega)]
    exact congrArg some e
  · rw [List.getElem?_eq_none (by omega), List.getElem?_eq_none (by omega)]
/-- The order is nothing. -/
theorem addZ_perm {C : List Nat} {l m : List Int} (h : ∀ x ∈ l, isSec C x) (hp : ∀ x, l.count x = m.count x) (hm : ∀ x ∈ m, isSec C x) : addZ C l = addZ C m := by
  refine eq_of_getD (by rw [length_addZ, length_addZ]) fun k hk => ?_
  rw [length_addZ] at hk
  rw [addZ_get l C h k hk, addZ_get m C hm k hk, hp]
/-- All together, of the first j. -/
def sumTo (C : List Nat) : Nat → Nat
  | 0 => 0
  | j + 1 => sumTo C j + C.getD j 0
def sumC (C : List Nat) : Nat := sumTo C C.length
theorem sumTo_set (C : List Nat) (i y : Nat) : ∀ j, i < C.length → sumTo (C.set i y) j + (if i < j then C.getD i 0 else 0) = sumTo C j + (if i < j then y else 0)
  | 0, _ => by simp [sumTo]
  | j + 1, hi => by
    have h := sumTo_set C i y j hi
    unfold sumTo
    have e : (C.set i y).getD j 0 = if i = j then y else C.getD j 0 := by
      rw [List.getD_eq_getElem?_getD, List.getElem?_set]
      by_cases e : i = j
      · rw [if_pos e, if_pos e, if_pos hi]; rfl
      · rw [if_neg e, if_neg e, List.getD_eq_getElem?_getD]
    rw [e]
    by_cases e : i = j
    · subst e
      simp at h ⊢
      omega
    · by_cases e2 : i < j
      · rw [if_pos e2, if_pos e2] at h
        rw [if_neg e, if_pos (by omega), if_pos (by omega)]
        omega
      · rw [if_neg e2, if_neg e2] at h
        rw [if_neg e, if_neg (by omega), if_neg (by omega)]
        omega
theorem sumC_set {C : List Nat} {i : Nat} (y : Nat) (hi : i < C.length) : sumC (C.set i y) + C.getD i 0 = sumC C + y := by
  have h := sumTo_set C i y C.length hi
  rw [if_pos hi, if_pos hi] at h
  unfold sumC
  rw [List.length_set]
  exact h
theorem sumC_add : ∀ (l : List Int) (C : List Nat), (∀ x ∈ l, isSec C x) → sumC (addZ C l) = sumC C + l.length
  | [], C, _ => rfl
  | x :: l, C, h => by
    have hx := h x (List.mem_cons_self ..)
    have hi : x.toNat < C.length := by have := hx.1; have := hx.2; omega
    have h2 : ∀ y ∈ l, isSec (C.set x.toNat (C.getD x.toNat 0 + 1)) y := fun y hy => by
      unfold isSec
      rw [List.length_set]
      exact h y (List.mem_cons_of_mem _ hy)
    have h3 := sumC_set (C.getD x.toNat 0 + 1) hi
    rw [addZ_cons, sumC_add l _ h2, List.length_cons]
    omega
theorem sumTo_nought (n : Nat) : ∀ j, sumTo (List.replicate n 0) j = 0
  | 0 => rfl
  | j + 1 => by
    unfold sumTo
    rw [sumTo_nought n j, List.getD_eq_getElem?_getD, List.getElem?_replicate]
    split <;> rfl
theorem getD_le_sum (C : List Nat) (k : Nat) : ∀ j, k < j → C.getD k 0 ≤ sumTo C j
  | 0, h => absurd h (Nat.not_lt_zero _)
  | j + 1, h => by
    unfold sumTo
    by_cases e : k = j
    · rw [e]; omega
    · have := getD_le_sum C k j (by omega); omega
theorem getD_le_sumC {C : List Nat} (k : Nat) : C.getD k 0 ≤ sumC C := by
  by_cases h : k < C.length
  · exact getD_le_sum C k _ h
  · rw [List.getD_eq_getElem?_getD, List.getElem?_eq_none (by omega)]
    exact Nat.zero_le _
/-- Those that have a count, of the first j. -/
def ownTo (C : List Nat) : Nat → List Int
  | 0 => []
  | j + 1 => if 0 < C.getD j 0 then ownTo C j ++ [(j : Int)] else ownTo C j
theorem length_ownTo (C : List Nat) : ∀ j, (ownTo C j).length ≤ j
  | 0 => Nat.le_refl _
  | j + 1 => by
    unfold ownTo
    have := length_ownTo C j
    split
    · rw [List.length_append]; simp; omega
    · omega
/-- What Drop answers, and leaves. -/
def dropR (C : List Nat) (i : Int) : Nat × Bool := if isSec C i ∧ 0 < C.getD i.toNat 0 then (C.getD i.toNat 0 - 1, true) else (0, false)
def dropS (C : List Nat) (i : Int) : List Nat := if isSec C i ∧ 0 < C.getD i.toNat 0 then C.set i.toNat (C.getD i.toNat 0 - 1) else C
theorem length_dropS (C : List Nat) (i : Int) : (dropS C i).length = C.length := by
  unfold dropS
  split
  · rw [List.length_set]
  · rfl
def ofR (C : List Nat) (i : Int) : Nat := if isSec C i then C.getD i.toNat 0 else 0
theorem drop_yes {C : List Nat} {k c : Nat} (h : C[k]? = some c) (hc : 0 < c) : dropR C (k : Int) = (c - 1, true) ∧ dropS C (k : Int) = C.set k (c - 1) := by
  have hk := (List.getElem?_eq_some_iff.1 h).1
  have e : C.getD (k : Int).toNat 0 = c := by rw [Int.toNat_natCast, List.getD_eq_getElem?_getD, h]; rfl
  unfold dropR dropS
  rw [e, if_pos ⟨⟨by omega, by omega⟩, hc⟩, if_pos ⟨⟨by omega, by omega⟩, hc⟩, Int.toNat_natCast]
  exact ⟨rfl, rfl⟩
theorem drop_no {C : List Nat} {i : Int} (h : ¬ (isSec C i ∧ 0 < C.getD i.toNat 0)) : dropR C i = (0, false) ∧ dropS C i = C := by
  unfold dropR dropS
  rw [if_neg h, if_neg h]
  exact ⟨rfl, rfl⟩
/-- What was added last is dropped. -/
theorem drop_last {C : List Nat} {l : List Int} {x : Int} (hx : isSec C x) : dropR (addZ C (l ++ [x])) x = ((addZ C l).getD x.toNat 0, true) ∧ dropS (addZ C (l ++ [x])) x = addZ C l := by
  obtain ⟨k, rfl⟩ : ∃ k : Nat, x = (k : Int) := ⟨x.toNat, by have := hx.1; omega⟩
  have hk : k < (addZ C l).length := by rw [length_addZ]; have := hx.2; omega
  have e : (addZ C (l ++ [(k : Int)]))[k]? = some ((addZ C l).getD k 0 + 1) := by
    rw [addZ_snoc, Int.toNat_natCast, List.getElem?_set, if_pos rfl, if_pos hk]
  obtain ⟨h1, h2⟩ := drop_yes e (by omega)
  rw [h1, h2]
  refine ⟨rfl, ?_⟩
  rw [addZ_snoc, Int.toNat_natCast, List.set_set, Nat.add_sub_cancel, List.getD_eq_getElem?_getD, List.getElem?_eq_getElem hk]
  exact List.set_getElem_self hk

end Go.Proofs.Ytcbenfmffedioaa

/- A table of counts, whatever it is made of: the bundle that the laws of layer 12 lean on. -/
namespace Go.Proofs.Ytcbenfmffedioaa
set_option linter.unusedVariables false
set_option linter.unusedSimpArgs false
open Go.RowKit Dg

/-- The table at b has the counts C; it lies in the blocks F. -/
abbrev TbP := World → Nat → (Nat → Prop) → List Nat → Prop
/-- A call has made C of it. -/
def Turned (Ti : TbP) (w w' : World) (b : Nat) (F : Nat → Prop) (C : List Nat) : Prop := ∃ F' : Nat → Prop, Ti w' b F' C ∧ Kept F w w' ∧ ∀ k, F' k → F k ∨ w.heap.size ≤ k
structure Rfs (Ti : TbP) : Prop where
  lt : ∀ {w b F C}, Ti w b F C → ∀ k, F k → k < w.heap.size
  keep : ∀ {w w' : World} {b F C X}, Ti w b F C → Kept X w w' → (∀ k, F k → ¬ X k) → Ti w' b F C
  len : ∀ {w b F C}, Ti w b F C → 1 ≤ C.length ∧ C.length ≤ 4096
  newB : ∀ (w : World) (n : Nat), 1 ≤ n → n ≤ 4096 → Calls Try.prog 7 #[.int .i64 (n : Int)] w fun e w' => ∃ b F, e = .returned (.tuple #[.pointer (some ⟨b, 0, none⟩), .int .i64 0]) ∧ Ti w' b F (List.replicate n 0) ∧ (∀ k, F k → w.heap.size ≤ k) ∧ Below w.heap.size w w'
  addB : ∀ (w : World) (b : Nat) (F : Nat → Prop) (C : List Nat) (a : Option Addr) (n cap : Nat) (l : List Int), Ti w b F C → IntsAt w a l → l.length = n → n ≤ 100000 → (∀ x ∈ l, I64 x) → (l ≠ [] → ∀ y, a = some y → ¬ F y.block) → sumC C ≤ 1000000 →
    Calls Try.prog 9 #[.pointer (some ⟨b, 0, none⟩), .slice a n cap] w fun e w' => e = .returned (.bool (okZ C l)) ∧ Turned Ti w w' b F (addS C l)
  dropB : ∀ (w : World) (b : Nat) (F : Nat → Prop) (C : List Nat) (i : Int), Ti w b F C → I64 i → sumC C ≤ 1000000 →
    Calls Try.prog 13 #[.pointer (some ⟨b, 0, none⟩), .int .i64 i] w fun e w' => e = .returned (.tuple #[.int .i64 ((dropR C i).1 : Nat), .bool (dropR C i).2]) ∧ Turned Ti w w' b F (dropS C i)
  sumB : ∀ (w : World) (b : Nat) (F : Nat → Prop) (C : List Nat), Ti w b F C → sumC C ≤ 1000000 →
    Calls Try.prog 10 #[.pointer (some ⟨b, 0, none⟩)] w fun e w' => e = .returned (.int .i64 (sumC C : Nat)) ∧ ∃ k, w' = w.drewN k
def RfNewNo : Prop := ∀ (w : World) (n : Int), (n < 1 ∨ 4096 < n) → Calls Try.prog 7 #[.int .i64 n] w fun e w' => e = .returned (.tuple #[.pointer none, .int .i64 1]) ∧ w = w'
def RfOf (Ti : TbP) : Prop := ∀ (w : World) (b : Nat) (F : Nat → Prop) (C : List Nat) (i : Int), Ti w b F C → I64 i →
    Calls Try.prog 17 #[.pointer (some ⟨b, 0, none⟩), .int .i64 i] w fun e w' => e = .returned (.int .i64 (ofR C i : Nat)) ∧ ∃ k, w' = w.drewN k
def RfOwned (Ti : TbP) : Prop := ∀ (w : World) (b : Nat) (F : Nat → Prop) (C : List Nat), Ti w b F C →
    Calls Try.prog 14 #[.pointer (some ⟨b, 0, none⟩)] w fun e w' => ∃ v, e = .returned v ∧ OwnInts w' w.heap.size v (ownTo C C.length) ∧ Below w.heap.size w w'
def RfClone (Ti : TbP) : Prop := ∀ (w : World) (b : Nat) (F : Nat → Prop) (C : List Nat), Ti w b F C →
    Calls Try.prog 16 #[.pointer (some ⟨b, 0, none⟩)] w fun e w' => ∃ b' F', e = .returned (.pointer (some ⟨b', 0, none⟩)) ∧ Ti w' b' F' C ∧ (∀ k, F' k → w.heap.size ≤ k) ∧ Below w.heap.size w w'

/-- The table b has the counts C; the blocks X are none of its. -/
def Tb (Ti : TbP) (X : Nat → Prop) (w : World) (b : Nat) (C : List Nat) : Prop := ∃ F : Nat → Prop, Ti w b F C ∧ ∀ k, X k → ¬ F k ∧ k < w.heap.size
theorem Tb.len {Ti : TbP} (R : Rfs Ti) {X : Nat → Prop} {w : World} {b : Nat} {C : List Nat} (h : Tb Ti X w b C) : 1 ≤ C.length ∧ C.length ≤ 4096 := by
  obtain ⟨F, h1, -⟩ := h
  exact R.len h1
theorem Tb.less {Ti : TbP} {X Y : Nat → Prop} {w : World} {b : Nat} {C : List Nat} (h : Tb Ti X w b C) (hY : ∀ k, Y k → X k) : Tb Ti Y w b C := by
  obtain ⟨F, h1, h2⟩ := h
  exact ⟨F, h1, fun k e => h2 k (hY k e)⟩
/-- A step that turns none of its. -/
theorem Tb.keep {Ti : TbP} (R : Rfs Ti) {X Y : Nat → Prop} {w w' : World} {b : Nat} {C : List Nat} (h : Tb Ti X w b C) (hk : Kept (fun k => X k ∨ w.heap.size ≤ k) w w') (hY : ∀ k, Y k → X k ∨ (w.heap.size ≤ k ∧ k < w'.heap.size)) : Tb Ti Y w' b C := by
  obtain ⟨F, h1, h2⟩ := h
  have a1 := R.lt h1
  refine ⟨F, R.keep h1 hk (fun k e e2 => ?_), fun k e => ?_⟩
  · rcases e2 with e2 | e2
    · exact (h2 k e2).1 e
    · have := a1 k e; omega
  · rcases hY k e with e1 | ⟨e1, e2⟩
    · exact ⟨(h2 k e1).1, Nat.lt_of_lt_of_le (h2 k e1).2 hk.size⟩
    · exact ⟨fun f => by have := a1 k f; omega, e2⟩
theorem Tb.draws {Ti : TbP} (R : Rfs Ti) {X : Nat → Prop} {w : World} {b : Nat} {C : List Nat} (h : Tb Ti X w b C) (n : Nat) : Tb Ti X (w.drewN n) b C :=
  h.keep R ⟨rfl, rfl, rfl, Nat.le_refl _, fun _ _ _ => rfl⟩ (fun k e => .inl e)
theorem Tb.alloc {Ti : TbP} (R : Rfs Ti) {X : Nat → Prop} {w : World} {b : Nat} {C : List Nat} (h : Tb Ti X w b C) (o : Obj) : Tb Ti (fun k => X k ∨ k = w.heap.size) (w.alloc o) b C :=
  h.keep R (Kept.alloc _ _ _) (fun k e => by
    rcases e with e | e
    · exact .inl e
    · exact .inr ⟨by omega, by simp; omega⟩)
theorem Tb.newer {Ti : TbP} (R : Rfs Ti) {X : Nat → Prop} {w w' : World} {b : Nat} {C : List Nat} (h : Tb Ti X w b C) (hb : Below w.heap.size w w') : Tb Ti X w' b C :=
  h.keep R ⟨hb.os, hb.tape, hb.output, hb.size, fun k hk hf => hb.block k (Nat.lt_of_not_le fun e => hf (.inr e))⟩ (fun k e => .inl e)
/-- A call that turns it. -/
theorem Tb.call {Ti : TbP} {X : Nat → Prop} {w : World} {b f : Nat} {C C' : List Nat} {args : Array Value} {P : Ending → Prop} (h : Tb Ti X w b C)
    (hc : ∀ F : Nat → Prop, Ti w b F C → (∀ k, X k → ¬ F k) → Calls Try.prog f args w fun e w' => P e ∧ Turned Ti w w' b F C') :
    Calls Try.prog f args w fun e w' => P e ∧ Tb Ti X w' b C' ∧ Kept (fun k => ¬ X k) w w' := by
  obtain ⟨F, h1, h2⟩ := h
  refine (hc F h1 (fun k e => (h2 k e).1)).mono ?_
  rintro e w' ⟨hP, F', m1, m2, m4⟩
  refine ⟨hP, ⟨F', m1, fun k e => ⟨fun f => ?_, Nat.lt_of_lt_of_le (h2 k e).2 m2.size⟩⟩, m2.mono (fun i _ e e2 => (h2 i e2).1 e)⟩
  rcases m4 k f with f1 | f1
  · exact (h2 k e).1 f1
  · have := (h2 k e).2; omega
theorem tb_new {Ti : TbP} (R : Rfs Ti) (w : World) (n : Nat) (h1 : 1 ≤ n) (h2 : n ≤ 4096) : Calls Try.prog 7 #[.int .i64 (n : Int)] w fun e w' => ∃ b, e = .returned (.tuple #[.pointer (some ⟨b, 0, none⟩), .int .i64 0]) ∧ Tb Ti (fun k => k < w.heap.size) w' b (List.replicate n 0) ∧ Below w.heap.size w w' :=
  (R.newB w n h1 h2).mono fun e w' ⟨b, F, e1, e2, e3, e4⟩ => ⟨b, e1, ⟨F, e2, fun k hk => ⟨fun f => by have := e3 k f; omega, Nat.lt_of_lt_of_le hk e4.size⟩⟩, e4⟩
theorem tb_add {Ti : TbP} (R : Rfs Ti) {X : Nat → Prop} {w : World} {b : Nat} {C : List Nat} (h : Tb Ti X w b C) (a : Option Addr) (n cap : Nat) (l : List Int) (hl : l.length = n) (hn : n ≤ 100000) (ha : IntsAt w a l) (h64 : ∀ x ∈ l, I64 x) (hX : l ≠ [] → ∀ y, a = some y → X y.block) (hC : sumC C ≤ 1000000) (ok : Bool) (hok : ok = okZ C l) (C2 : List Nat) (hC2 : C2 = addS C l) :
    Calls Try.prog 9 #[.pointer (some ⟨b, 0, none⟩), .slice a n cap] w fun e w' => e = .returned (.bool ok) ∧ Tb Ti X w' b C2 ∧ Kept (fun k => ¬ X k) w w' := by
  subst hok hC2
  exact h.call (P := fun e => e = .returned (.bool (okZ C l))) (fun F hT hXF => R.addB w b F C a n cap l hT ha hl hn h64 (fun hne y hy => hXF _ (hX hne y hy)) hC)
theorem tb_drop {Ti : TbP} (R : Rfs Ti) {X : Nat → Prop} {w : World} {b : Nat} {C : List Nat} (h : Tb Ti X w b C) (i : Int) (hi : I64 i) (hC : sumC C ≤ 1000000) (left : Nat) (ok : Bool) (hR : dropR C i = (left, ok)) (C2 : List Nat) (hC2 : C2 = dropS C i) :
    Calls Try.prog 13 #[.pointer (some ⟨b, 0, none⟩), .int .i64 i] w fun e w' => e = .returned (.tuple #[.int .i64 (left : Int), .bool ok]) ∧ Tb Ti X w' b C2 ∧ Kept (fun k => ¬ X k) w w' := by
  subst hC2
  have e := h.call (P := fun e => e = .returned (.tuple #[.int .i64 ((dropR C i).1 : Nat), .bool (dropR C i).2])) (fun F hT hXF => R.dropB w b F C i hT hi hC)
  rw [hR] at e
  exact e
theorem tb_sum {Ti : TbP} (R : Rfs Ti) {X : Nat → Prop} {w : World} {b : Nat} {C : List Nat} (h : Tb Ti X w b C) (hC : sumC C ≤ 1000000) (x : Nat) (hx : x = sumC C) :
    Calls Try.prog 10 #[.pointer (some ⟨b, 0, none⟩)] w fun e w' => e = .returned (.int .i64 (x : Int)) ∧ ∃ k, w' = w.drewN k := by
  obtain ⟨F, h1, -⟩ := h
  rw [hx]
  exact R.sumB w b F C h1 hC
theorem tb_of {Ti : TbP} (O : RfOf Ti) {X : Nat → Prop} {w : World} {b : Nat} {C : List Nat} (h : Tb Ti X w b C) (i : Int) (hi : I64 i) (x : Nat) (hx : x = ofR C i) :
    Calls Try.prog 17 #[.pointer (some ⟨b, 0, none⟩), .int .i64 i] w fun e w' => e = .returned (.int .i64 (x : Int)) ∧ ∃ k, w' = w.drewN k := by
  obtain ⟨F, h1, -⟩ := h
  rw [hx]
  exact O w b F C i h1 hi
theorem tb_owned {Ti : TbP} (O : RfOwned Ti) {X : Nat → Prop} {w : World} {b : Nat} {C : List Nat} (h : Tb Ti X w b C) :
    Calls Try.prog 14 #[.pointer (some ⟨b, 0, none⟩)] w fun e w' => ∃ v, e = .returned v ∧ OwnInts w' w.heap.size v (ownTo C C.length) ∧ Below w.heap.size w w' := by
  obtain ⟨F, h1, -⟩ := h
  exact O w b F C h1
/-- A row of one number that was just built. -/
theorem lit1 (w : World) (x : Int) : IntsAt (w.alloc (.cells #[.int .i64 x] 3)) (some ⟨w.heap.size, 0, none⟩) [x] := by
  intro j y hj
  match j, hj with
  | 0, hj =>
    simp at hj
    subst hj
    exact ⟨w.heap.size, 0, rfl, by unfold World.cell?; rw [heap_alloc_new]; rfl⟩

end Go.Proofs.Ytcbenfmffedioaa

/- Numbers a third time: x[k:]; rows of noughts that were made. -/
namespace Go.Proofs.Ytcbenfmffedioaa
set_option linter.unusedVariables false
set_option linter.unusedSimpArgs false
open Go.RowKit Dg

/-- Where 'x[k:]' begins. -/
def lowI (a : Option Addr) (cap k : Nat) : Option Addr := if cap = k then a else a.map fun x => x.add k
theorem slice_ints_lo (a : Option Addr) (n cap k : Nat) (hk : k ≤ n) (W : World) : (Instr.sliceAt 22 (.slice a n cap) (some (.int .i64 (k : Int))) none none).run Try.prog W = .ok (.slice (lowI a cap k) (n - k) (cap - k)) W := by
  obtain ⟨i0, hi, hz0, hz1, hz2⟩ := info_parts Try.info3
  simp [Instr.sliceAt, Instr.slice, Instr.sliceBounds, Instr.sliceBound, asIntOf, run_underlying Try.underlying22, sizeOf, typeInfo, hi, hz1, hk, lowI]
theorem IntsAt.drop {w : World} {a : Option Addr} {cap : Nat} {l : List Int} (h : IntsAt w a l) (hc : l.length ≤ cap) (k : Nat) : IntsAt w (lowI a cap k) (l.drop k) := by
  intro j x hx
  rw [List.getElem?_drop] at hx
  have hj : k + j < l.length := (List.getElem?_eq_some_iff.1 hx).1
  obtain ⟨b, off, rfl, hcell⟩ := h (k + j) x hx
  refine ⟨b, off + k, ?_, ?_⟩
  · unfold lowI
    rw [if_neg (by omega)]
    simp [Addr.add]
  · rw [Nat.add_assoc]
    exact hcell
theorem madeI (n : Nat) : (madeCells (Value.int .i64 0).cells (n * 1)).toList = i64s (List.replicate n 0) := by
  apply List.ext_getElem?
  intro k
  by_cases hk : k < n
  · simp [madeCells, i64s, hk, Value.cells, Nat.mod_one]
  · rw [List.getElem?_eq_none (by simp [madeCells]; omega), List.getElem?_eq_none (by simp; omega)]
/-- A row of noughts that was just made. -/
theorem OwnInts.made {w : World} {base : Nat} {v : Value} {Z : List Int} (hZ : Z = List.replicate Z.length 0) (h : w.ownsRow base 3 1 v Z.length (madeCells (Value.int .i64 0).cells Z.length).toList) : OwnInts w base v Z := by
  show World.ownsRow _ _ _ _ _ _ _
  have e := madeI Z.length
  rw [← hZ, Nat.mul_one] at e
  rw [← e]; exact h

end Go.Proofs.Ytcbenfmffedioaa

/- The program's table in memory: what it holds; has, Of, Sum. -/
namespace Go.Proofs.Ytcbenfmffedioaa
set_option linter.unusedVariables false
set_option linter.unusedSimpArgs false
open Go.RowKit Dg

/-- Counts as numbers. -/
def cI (C : List Nat) : List Int := C.map fun x : Nat => (x : Int)
theorem length_cI (C : List Nat) : (cI C).length = C.length := by simp [cI]
theorem cI_get (C : List Nat) (k : Nat) : (cI C)[k]? = C[k]?.map fun x : Nat => (x : Int) := by simp [cI]
theorem cI_set (C : List Nat) (k x : Nat) : cI (C.set k x) = (cI C).set k (x : Int) := by simp [cI]
theorem cI_nought (n : Nat) : cI (List.replicate n 0) = List.replicate n 0 := by simp [cI]

/-- A table in memory: its field at b, its counts at g. -/
structure TaIs (w : World) (b g c : Nat) (C : List Nat) : Prop where
  box : w.heap[b]? = some (.cells #[.slice (some ⟨g, 0, none⟩) C.length c] 44 (0, 0))
  row : w.ownsRow 0 3 1 (.slice (some ⟨g, 0, none⟩) C.length c) C.length (i64s (cI C))
  pos : 1 ≤ C.length
  le : C.length ≤ 4096
  ne : b ≠ g
theorem TaIs.cell {w : World} {b g c : Nat} {C : List Nat} (h : TaIs w b g c C) : w.cell? ⟨b, 0, none⟩ = some (.slice (some ⟨g, 0, none⟩) C.length c) := by
  have e := h.box
  unfold World.cell?; rw [e]; rfl
theorem TaIs.lt {w : World} {b g c : Nat} {C : List Nat} (h : TaIs w b g c C) : b < w.heap.size ∧ g < w.heap.size :=
  ⟨(Array.getElem?_eq_some_iff.1 h.box).1, (World.ownsRow.lt h.row g rfl).2⟩
theorem TaIs.kept {w w' : World} {b g c : Nat} {C : List Nat} {X : Nat → Prop} (h : TaIs w b g c C) (hk : Kept X w w') (h1 : ¬ X b) (h2 : ¬ X g) : TaIs w' b g c C :=
  { h with
    box := by rw [hk.block b h.lt.1 h1]; exact h.box
    row := ownsRow_other h.row hk (fun k e => by cases e; exact h2) }
theorem TaIs.draws {w : World} {b g c : Nat} {C : List Nat} (h : TaIs w b g c C) (n : Nat) : TaIs (w.drewN n) b g c C :=
  h.kept (X := fun _ => False) ⟨rfl, rfl, rfl, Nat.le_refl _, fun _ _ _ => rfl⟩ (fun h => h) (fun h => h)
/-- One of its counts. -/
theorem TaIs.get {w : World} {b g c : Nat} {C : List Nat} (h : TaIs w b g c C) {j x : Nat} (hx : C[j]? = some x) :
    w.cell? ⟨g, j, none⟩ = some (.int .i64 (x : Int)) ∧ w.frozen? ⟨g, j, none⟩ = false := by
  have hj : j < C.length := (List.getElem?_eq_some_iff.1 hx).1
  rcases h.row.2 with ⟨e1, e2⟩ | ⟨g', cap', cur, hv, hgb, hh, hncap, _, hcs, htake⟩
  · cases e1
  · cases hv
    refine ⟨?_, by simp [World.frozen?, hh]⟩
    have e : (i64s (cI C))[j]? = some (.int .i64 (x : Int)) := by rw [i64s_get, cI_get, hx]; rfl
    rw [← htake, List.getElem?_take, if_pos (by omega)] at e
    simp only [World.cell?, hh]
    simpa using e
/-- One of its counts is written. -/
theorem TaIs.set {w : World} {b g c : Nat} {C : List Nat} (h : TaIs w b g c C) {j : Nat} (hj : j < C.length) (y : Nat) :
    TaIs (w.setCell ⟨g, j, none⟩ (.int .i64 (y : Int))) b g c (C.set j y) := by
  have hk : Kept (fun k => k = g) w (w.setCell ⟨g, j, none⟩ (.int .i64 (y : Int))) := Kept.setCell _ _ _ rfl
  refine ⟨?_, ?_, by rw [List.length_set]; exact h.pos, by rw [List.length_set]; exact h.le, h.ne⟩
  · rw [hk.block b h.lt.1 h.ne, List.length_set]
    exact h.box
  · have e := ownsRow_set h.row j hj (.int .i64 (y : Int))
    have e2 : (i64s (cI C)).set j (.int .i64 (y : Int)) = i64s (cI (C.set j y)) := by rw [cI_set]; simp [i64s]
    rw [e2] at e
    rw [List.length_set]
    exact e
/-- What lies in the blocks F. -/
def Ta (w : World) (b : Nat) (F : Nat → Prop) (C : List Nat) : Prop := ∃ g c, TaIs w b g c C ∧ ∀ k, F k ↔ k = b ∨ k = g
theorem TaIs.ta {w : World} {b g c : Nat} {C : List Nat} (h : TaIs w b g c C) : Ta w b (fun k => k = b ∨ k = g) C := ⟨g, c, h, fun k => Iff.rfl⟩
theorem TaIs.turned {w w' : World} {b g c : Nat} {F : Nat → Prop} {C : List Nat} (h : TaIs w' b g c C) (hk : Kept (fun k => k = g) w w') (hF : ∀ k, F k ↔ k = b ∨ k = g) : Turned Ta w w' b F C :=
  ⟨_, h.ta, hk.mono fun k _ e => (hF k).2 (.inr e), fun k e => .inl ((hF k).2 e)⟩

set_option maxRecDepth 100000 in
set_option maxHeartbeats 1000000 in
theorem thas_is (w : World) (b g c : Nat) (C : List Nat) (h : TaIs w b g c C) (i : Int) (hi : I64 i) (R : Bool) (hR : R = decide (isSec C i)) :
    Calls Try.prog 19 #[.pointer (some ⟨b, 0, none⟩), .int .i64 i] w fun e w' => e = .returned (.bool R) ∧ w = w' := by
  have c0 := h.cell
  obtain ⟨n, hn⟩ : ∃ n, n = C.length := ⟨_, rfl⟩
  obtain ⟨hi1, hi2⟩ := hi
  have hR2 : R = decide (0 ≤ i ∧ i < (n : Int)) := by rw [hR, hn]; rfl
  rw [← hn] at c0
  clear h hn hR
  rcases (by omega : i < 0 ∨ (0 ≤ i ∧ i < (n : Int)) ∨ (0 ≤ i ∧ (n : Int) ≤ i)) with h1 | ⟨h1, h2⟩ | ⟨h1, h2⟩
  · obtain rfl : R = false := by rw [hR2]; exact decide_eq_false (by omega)
    clear hR2
    go_enter Try.func19, Try.ntmps19
    go_wp2_with fail
    go_ret
    exact ⟨rfl, rfl⟩
  · obtain rfl : R = true := by rw [hR2]; exact decide_eq_true (by omega)
    clear hR2
    go_enter Try.func19, Try.ntmps19
    go_wp2_with fail
    go_ret
    exact ⟨rfl, rfl⟩
  · obtain rfl : R = false := by rw [hR2]; exact decide_eq_false (by omega)
    have hb : decide (i < (n : Int)) = false := decide_eq_false (by omega)
    clear hR2
    go_enter Try.func19, Try.ntmps19
    go_wp2_with fail
    go_ret
    exact ⟨rfl, rfl⟩
set_option maxRecDepth 100000 in
set_option maxHeartbeats 1000000 in
theorem tof_is (w : World) (b g c : Nat) (C : List Nat) (h : TaIs w b g c C) (i : Int) (hi : I64 i) (x : Nat) (hx : x = ofR C i) :
    Calls Try.prog 17 #[.pointer (some ⟨b, 0, none⟩), .int .i64 i] w fun e w' => e = .returned (.int .i64 (x : Int)) ∧ ∃ k, w' = w.drewN k := by
  have HH := hid_of (thas_is w b g c C h i hi _ rfl)
  have c0 := h.cell
  obtain ⟨hi1, hi2⟩ := hi
  by_cases hin : isSec C i
  · have hin2 := hin
    obtain ⟨k, rfl⟩ : ∃ k : Nat, i = (k : Int) := ⟨i.toNat, by have := hin.1; omega⟩
    have hk : k < C.length := by have := hin.2; omega
    have hc : C[k]? = some x := by
      rw [hx]
      unfold ofR
      rw [if_pos hin, Int.toNat_natCast, List.getD_eq_getElem?_getD, List.getElem?_eq_getElem hk]
      rfl
    obtain ⟨c1, -⟩ := h.get hc
    obtain ⟨n, hn⟩ : ∃ n, n = C.length := ⟨_, rfl⟩
    rw [decide_eq_true hin] at HH
    rw [← hn] at c0 hk
    clear h hx hin hin2 hc hn
    go_enter Try.func17, Try.ntmps17
    go_wp2_with fail
    refine HH.out.mono ?_
    rintro e w1 ⟨rfl, rfl⟩
    go_wp2_with fail
    go_ret
    exact ⟨rfl, 0, rfl⟩
  · have e : x = 0 := by rw [hx]; unfold ofR; rw [if_neg hin]
    subst e
    rw [decide_eq_false hin] at HH
    clear h hx hin
    go_enter Try.func17, Try.ntmps17
    go_wp2_with fail
    refine HH.out.mono ?_
    rintro e w1 ⟨rfl, rfl⟩
    go_wp2_with fail
    go_ret
    exact ⟨rfl, 0, rfl⟩
theorem sumTo_upto (C : List Nat) : ∀ {j k : Nat}, j ≤ k → sumTo C j ≤ sumTo C k := by
  intro j k h
  induction k with
  | zero => obtain rfl : j = 0 := by omega
            exact Nat.le_refl _
  | succ k ih =>
    by_cases e : j = k + 1
    · rw [e]; exact Nat.le_refl _
    · have := ih (by omega)
      have e2 : sumTo C (k + 1) = sumTo C k + C.getD k 0 := rfl
      omega
set_option maxRecDepth 100000 in
set_option maxHeartbeats 1000000 in
theorem tsum_is (w : World) (b g c : Nat) (C : List Nat) (h : TaIs w b g c C) (hs : sumC C ≤ 1000000) (x : Nat) (hx : x = sumC C) :
    Calls Try.prog 10 #[.pointer (some ⟨b, 0, none⟩)] w fun e w' => e = .returned (.int .i64 (x : Int)) ∧ ∃ k, w' = w.drewN k := by
  have c0 := h.cell
  have H := hid_of h
  have hle := h.le
  obtain ⟨n, hn⟩ : ∃ n, n = C.length := ⟨_, rfl⟩
  have HN := hid_of hn
  have HS : Hid (∀ j, j ≤ n → sumTo C j ≤ 1000000) := fun j hj => Nat.le_trans (sumTo_upto C (by rw [← hn]; exact hj)) hs
  have HX : Hid (x = sumTo C n) := by show _ = _; rw [hx, hn]; rfl
  rw [← hn] at c0 hle
  clear h hn hs hx
  go_enter Try.func10, Try.ntmps10
  go_wp2_with fail
  go_loopw [11, 3] (fun i s wr => ∃ j m y : Nat, j ≤ n ∧ i = .int .i64 j ∧ s = .int .i64 y ∧ Hid (y = sumTo C j) ∧ wr = w.drewN m) (fun i _ _ => n - (intOf i).toNat)
  case atStart => exact ⟨0, 0, 0, Nat.zero_le _, rfl, rfl, rfl, rfl⟩
  case round =>
    obtain ⟨j, m, y, hj, rfl, rfl, HY, rfl⟩ := hrel
    by_cases hjn : j < n
    · obtain ⟨z, hz⟩ : ∃ z, C[j]? = some z := ⟨_, List.getElem?_eq_getElem (by have := HN.out; omega)⟩
      obtain ⟨c1, -⟩ := (H.out.draws m).get hz
      have hy2 : y + z = sumTo C (j + 1) := by
        have e : sumTo C (j + 1) = sumTo C j + C.getD j 0 := rfl
        rw [e, ← HY.out, List.getD_eq_getElem?_getD, hz]; rfl
      have HY2 := hid_of hy2
      have hb2 : y + z ≤ 1000000 := by rw [hy2]; exact HS.out _ hjn
      clear hz hy2
      go_wp2_with fail
      all_goals go_roundw
      case rel => exact ⟨j + 1, m, y + z, by omega, by go_num, by go_num, HY2.out, rfl⟩
      case measure => simp [intOf]; omega
    · obtain rfl : j = n := by omega
      obtain rfl : x = y := by rw [HX.out, HY.out]
      go_wp2_with fail
      go_ret
      exact ⟨rfl, m, rfl⟩

end Go.Proofs.Ytcbenfmffedioaa

/- The program's table: New, Drop, Owned. -/
namespace Go.Proofs.Ytcbenfmffedioaa
set_option linter.unusedVariables false
set_option linter.unusedSimpArgs false
open Go.RowKit Dg

theorem ints_new (w : World) (base : Nat) (Z : Array Value) (N : Nat) (l : List Int) (hZ : Z.toList = i64s l) (hl : l.length = N) (hN : N ≤ 1000000) (hb : base ≤ w.heap.size) :
    (w.alloc (.cells Z 3)).ownsRow base 3 1 (.slice (some ⟨w.heap.size, 0, none⟩) N N) N (i64s l) := by
  have hs : Z.size = N := by have := congrArg List.length hZ; simpa [hl] using this
  refine ⟨by simp [hl], .inr ⟨w.heap.size, N, Z, rfl, hb, heap_alloc_new w _, Nat.le_refl _, by unfold maxLen; omega, by omega, ?_⟩⟩
  rw [hZ]; exact List.take_of_length_le (by simp [hl])
set_option maxRecDepth 100000 in
set_option maxHeartbeats 1000000 in
theorem tnew_is (w : World) (n : Nat) (h1 : 1 ≤ n) (h2 : n ≤ 4096) :
    Calls Try.prog 7 #[.int .i64 (n : Int)] w fun e w' => ∃ b g c, e = .returned (.tuple #[.pointer (some ⟨b, 0, none⟩), .int .i64 0]) ∧ TaIs w' b g c (List.replicate n 0) ∧ w.heap.size ≤ b ∧ w.heap.size ≤ g ∧ Below w.heap.size w w' := by
  obtain ⟨i0, hi, hz0, hz1, hz2⟩ := info_parts Try.info3
  obtain ⟨Z, hZ⟩ : ∃ Z, Z = madeCells (Value.int .i64 0).cells (n * i0.size) := ⟨_, rfl⟩
  have hmk : ∀ W : World, (Instr.makeSlice 22 (.int .i64 (n : Int)) (.int .i64 (n : Int))).run Try.prog W = .ok (.slice (some ⟨W.heap.size, 0, none⟩) n n) (W.alloc (.cells Z 3)) := by
    intro W
    have h := run_make (P := Try.prog) W 22 3 i0 (.int .i64 0) Try.underlying22 hi hz0 .i64 .i64 n n (by omega) (by omega) (by rw [hz2]; omega) (by omega)
    simp only [Int.toNat_natCast] at h
    rw [hZ]
    exact h
  have HZ : Hid (Z.toList = i64s (cI (List.replicate n 0))) := by show _ = _; rw [hZ, hz1, cI_nought]; exact madeI n
  have HO : Hid ((w.alloc (.cells Z 3)).ownsRow w.heap.size 3 1 (.slice (some ⟨w.heap.size, 0, none⟩) n n) n (i64s (cI (List.replicate n 0)))) := ints_new w _ Z n _ HZ.out (by rw [length_cI]; simp) (by omega) (Nat.le_refl _)
  clear hZ
  go_enter Try.func7, Try.ntmps7
  go_wp2_with fail
  go_ret2
  have hbel : Below w.heap.size w (w.alloc (.cells Z 3)) := (Below.refl _ _).alloc (Nat.le_refl _) _
  have hN : (w.alloc (.cells Z 3)).heap.size = w.heap.size + 1 := by simp
  refine ⟨w.heap.size + 1, w.heap.size, n, rfl, ⟨?_, ?_, by simpa using h1, by simpa using h2, by omega⟩, by omega, Nat.le_refl _, hbel.alloc hbel.size _⟩
  · rw [← hN, heap_alloc_new, List.length_replicate]
  · rw [List.length_replicate]
    exact ownsRow_base (World.ownsRow.alloc HO.out _) (Nat.zero_le _)
set_option maxRecDepth 100000 in
set_option maxHeartbeats 1000000 in
theorem tnew_no : RfNewNo := by
  intro w n h
  rcases (by omega : n < 1 ∨ (1 ≤ n ∧ 4096 < n)) with h | ⟨h0, h⟩
  · go_enter Try.func7, Try.ntmps7
    go_wp2_with fail
    go_ret2
    exact ⟨rfl, rfl⟩
  · go_enter Try.func7, Try.ntmps7
    go_wp2_with fail
    go_ret2
    exact ⟨rfl, rfl⟩
set_option maxRecDepth 100000 in
set_option maxHeartbeats 2000000 in
theorem tdrop_is (w : World) (b g c : Nat) (C : List Nat) (h : TaIs w b g c C) (i : Int) (hi : I64 i) (hs : sumC C ≤ 1000000) :
    Calls Try.prog 13 #[.pointer (some ⟨b, 0, none⟩), .int .i64 i] w fun e w' => e = .returned (.tuple #[.int .i64 ((dropR C i).1 : Nat), .bool (dropR C i).2]) ∧ TaIs w' b g c (dropS C i) ∧ Kept (fun k => k = g) w w' := by
  have HH := hid_of (tof_is w b g c C h i hi _ rfl)
  have H0 := hid_of h
  have c0 := h.cell
  obtain ⟨hi1, hi2⟩ := hi
  by_cases hin : isSec C i ∧ 0 < C.getD i.toNat 0
  · have hin2 := hin
    obtain ⟨k, rfl⟩ : ∃ k : Nat, i = (k : Int) := ⟨i.toNat, by have := hin.1.1; omega⟩
    have hk : k < C.length := by have := hin.1.2; omega
    obtain ⟨x, hx⟩ : ∃ x, C[k]? = some x := ⟨_, List.getElem?_eq_getElem hk⟩
    have hg : C.getD k 0 = x := by rw [List.getD_eq_getElem?_getD, hx]; rfl
    have hx0 : 0 < x := by have := hin.2; rw [Int.toNat_natCast, hg] at this; exact this
    have hof : ofR C (k : Int) = x := by unfold ofR; rw [if_pos hin.1, Int.toNat_natCast, hg]
    have hx2 : x ≤ 1000000 := by rw [← hg]; exact Nat.le_trans (getD_le_sumC k) hs
    rw [hof] at HH
    obtain ⟨y, rfl⟩ : ∃ y, x = y + 1 := ⟨x - 1, by omega⟩
    obtain ⟨e1, e2⟩ := drop_yes hx hx0
    rw [e1, e2]
    have HG : Hid (∀ m, (w.drewN m).cell? ⟨g, k, none⟩ = some (.int .i64 ((y + 1 : Nat) : Int)) ∧ (w.drewN m).frozen? ⟨g, k, none⟩ = false ∧ (w.drewN m).cell? ⟨b, 0, none⟩ = some (.slice (some ⟨g, 0, none⟩) C.length c)) := fun m =>
      ⟨(H0.out.draws m |>.get hx).1, (H0.out.draws m |>.get hx).2, (H0.out.draws m).cell⟩
    have HS : Hid (∀ m, TaIs ((w.drewN m).setCell ⟨g, k, none⟩ (.int .i64 (y : Int))) b g c (C.set k y) ∧ Kept (fun k => k = g) w ((w.drewN m).setCell ⟨g, k, none⟩ (.int .i64 (y : Int)))) := fun m =>
      ⟨(H0.out.draws m).set hk y, (⟨rfl, rfl, rfl, Nat.le_refl _, fun _ _ _ => rfl⟩ : Kept (fun k => k = g) w (w.drewN m)).trans (Kept.setCell _ _ _ rfl)⟩
    have HNE : Hid (b ≠ g) := h.ne
    have hlen : Hid (∀ w' , TaIs w' b g c (C.set k y) → w'.cell? ⟨b, 0, none⟩ = some (.slice (some ⟨g, 0, none⟩) C.length c) ∧ w'.cell? ⟨g, k, none⟩ = some (.int .i64 (y : Int))) := fun w' h' => by
      have e := h'.cell
      rw [List.length_set] at e
      exact ⟨e, (h'.get (by rw [List.getElem?_set_self hk])).1⟩
    obtain ⟨n, hn⟩ : ∃ n, n = C.length := ⟨_, rfl⟩
    rw [← hn] at c0 HG hk hlen
    clear h hin hin2 hx hg hof hs e1 e2 hn
    show Calls Try.prog _ _ w fun e w' => e = .returned (.tuple #[.int .i64 ((y : Nat) : Int), .bool true]) ∧ TaIs w' b g c (C.set k y) ∧ Kept (fun k => k = g) w w'
    go_enter Try.func13, Try.ntmps13
    go_wp2_with fail
    refine HH.out.mono ?_
    rintro e w1 ⟨rfl, m, rfl⟩
    obtain ⟨d1, d2, d3⟩ := HG.out m
    obtain ⟨d4, d5⟩ := hlen.out _ (HS.out m).1
    go_wp2_with fail
    go_ret2
    exact ⟨rfl, (HS.out m).1, (HS.out m).2⟩
  · obtain ⟨e1, e2⟩ := drop_no hin
    rw [e1, e2]
    have hof : ofR C i = 0 := by
      unfold ofR
      split
      · rename_i h1
        have : ¬ 0 < C.getD i.toNat 0 := fun h2 => hin ⟨h1, h2⟩
        omega
      · rfl
    rw [hof] at HH
    clear h hin hs e1 e2 hof
    show Calls Try.prog _ _ w fun e w' => e = .returned (.tuple #[.int .i64 0, .bool false]) ∧ TaIs w' b g c C ∧ Kept (fun k => k = g) w w'
    go_enter Try.func13, Try.ntmps13
    go_wp2_with fail
    refine HH.out.mono ?_
    rintro e w1 ⟨rfl, m, rfl⟩
    go_wp2_with fail
    go_ret2
    exact ⟨rfl, H0.out.draws m, ⟨rfl, rfl, rfl, Nat.le_refl _, fun _ _ _ => rfl⟩⟩
set_option maxRecDepth 100000 in
set_option maxHeartbeats 2000000 in
theorem towned_is (w : World) (b g c : Nat) (C : List Nat) (h : TaIs w b g c C) :
    Calls Try.prog 14 #[.pointer (some ⟨b, 0, none⟩)] w fun e w' => ∃ v, e = .returned v ∧ OwnInts w' w.heap.size v (ownTo C C.length) ∧ Below w.heap.size w w' := by
  obtain ⟨i0, hi, hz0, hz1, hz2⟩ := info_parts Try.info3
  have c0 := h.cell
  have hle := h.le
  have hlt := h.lt.2
  obtain ⟨n, hn⟩ : ∃ n, n = C.length := ⟨_, rfl⟩
  have HG : Hid (∀ j, j < n → ∃ x, C[j]? = some x ∧ w.cell? ⟨g, j, none⟩ = some (.int .i64 (x : Int))) := fun j hj => by
    have hj2 : j < C.length := by omega
    exact ⟨_, List.getElem?_eq_getElem hj2, (h.get (List.getElem?_eq_getElem hj2)).1⟩
  rw [← hn] at c0 hle ⊢
  clear h hn
  go_enter Try.func14, Try.ntmps14
  go_wp2_with fail
  go_loopw [3, 11] (fun vz i wr => ∃ j : Nat, j ≤ n ∧ i = .int .i64 (j : Int) ∧ Hid (OwnInts wr w.heap.size vz (ownTo C j)) ∧ Hid (Below w.heap.size w wr)) (fun _ i _ => n - (intOf i).toNat)
  case atStart => exact ⟨0, Nat.zero_le _, rfl, OwnInts.nil _ _, Below.refl _ _⟩
  case round =>
    obtain ⟨j, hj, rfl, ho, hb⟩ := hrel
    have hsz : w.heap.size ≤ wr.heap.size := hb.out.size
    by_cases hjn : j < n
    · obtain ⟨x, hx, hc⟩ := HG.out j hjn
      have hc1 : wr.cell? ⟨g, j, none⟩ = some (.int .i64 (x : Int)) := by rw [hb.out.cell (p := ⟨g, j, none⟩) hlt]; exact hc
      have hok : (ownTo C j).length ≤ 1000000 := by have := length_ownTo C j; omega
      have hg : C.getD j 0 = x := by rw [List.getD_eq_getElem?_getD, hx]; rfl
      by_cases hx0 : 0 < x
      · have HNX : Hid (ownTo C (j + 1) = ownTo C j ++ [(j : Int)]) := by
          show _ = _
          show (if 0 < C.getD j 0 then _ else _) = _
          rw [if_pos (by omega)]
        clear hx hc hg
        go_wp2_with (at_builtin; go_must (refine wpList_append_int wr rfl (.tmp 18) (.tmp 20) 22 rfl w.heap.size i0 Try.underlying22 hi hz0 hz1 hz2 u3 (ownTo C j) (by rfl) ho.out (j : Int) (by rfl) hok hsz ?_))
        intro v' w' g1 g2
        have HO' : Hid (OwnInts w' w.heap.size v' (ownTo C (j + 1))) := by rw [HNX.out]; exact g1
        have HB' : Hid (Below w.heap.size w w') := hb.out.trans g2.out
        clear g1 g2
        go_wp2_with fail
        exact ⟨⟨j + 1, by omega, by go_num, HO', HB'⟩, by (simp [intOf]) <;> omega⟩
      · have HNX : Hid (ownTo C (j + 1) = ownTo C j) := by
          show _ = _
          show (if 0 < C.getD j 0 then _ else _) = _
          rw [if_neg (by omega)]
        have hx1 : x = 0 := by omega
        subst hx1
        have HO' : Hid (OwnInts wr w.heap.size u3 (ownTo C (j + 1))) := by rw [HNX.out]; exact ho
        clear hx hc hg
        go_wp2_with fail
        exact ⟨⟨j + 1, by omega, by go_num, HO', hb⟩, by (simp [intOf]) <;> omega⟩
    · obtain rfl : j = n := by omega
      go_wp2_with fail
      go_ret
      exact ⟨_, rfl, ho.out, hb.out⟩

end Go.Proofs.Ytcbenfmffedioaa
