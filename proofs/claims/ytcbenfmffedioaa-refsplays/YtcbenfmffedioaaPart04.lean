/- The texts RfTwo, RfOrder, RfW, RfActs, RfPl, one behind the other. -/
import Derived.Test.YtcbenfmffedioaaPart03
import Derived.Test.YtcbenfmffedioaaPart02
import Derived.Test.YtcbenfmffedioaaPart01
import Derived.Deep.Grids

/- Two tables beside each other; two rows of numbers beside them. -/
namespace Go.Proofs.Ytcbenfmffedioaa
set_option linter.unusedVariables false
set_option linter.unusedSimpArgs false
open Go.RowKit Dg

/-- The tables a and b, apart; the blocks X are none of theirs. -/
def Tw (Ti : TbP) (X : Nat → Prop) (w : World) (a : Nat) (A : List Nat) (b : Nat) (B : List Nat) : Prop := ∃ F : Nat → Prop, Ti w b F B ∧ (∀ k, X k → ¬ F k ∧ k < w.heap.size) ∧ Tb Ti (fun k => X k ∨ F k) w a A
theorem Tw.mk {Ti : TbP} (R : Rfs Ti) {X : Nat → Prop} {w : World} {a b : Nat} {A B : List Nat} (hb : Tb Ti X w b B) (ha : ∀ F : Nat → Prop, Ti w b F B → (∀ k, F k → ¬ X k) → Tb Ti (fun k => X k ∨ F k) w a A) : Tw Ti X w a A b B := by
  obtain ⟨F, h1, h2⟩ := hb
  exact ⟨F, h1, h2, ha F h1 (fun k e e2 => (h2 k e2).1 e)⟩
theorem Tw.fst {Ti : TbP} {X : Nat → Prop} {w : World} {a b : Nat} {A B : List Nat} (h : Tw Ti X w a A b B) : Tb Ti X w a A := by
  obtain ⟨F, h1, h2, h3⟩ := h
  exact h3.less (fun k e => .inl e)
theorem Tw.swap {Ti : TbP} (R : Rfs Ti) {X : Nat → Prop} {w : World} {a b : Nat} {A B : List Nat} (h : Tw Ti X w a A b B) : Tw Ti X w b B a A := by
  obtain ⟨F, h1, h2, G, h3, h4⟩ := h
  refine ⟨G, h3, fun k e => h4 k (.inl e), F, h1, fun k e => ?_⟩
  rcases e with e | e
  · exact h2 k e
  · exact ⟨fun f => (h4 k (.inr f)).1 e, R.lt h3 k e⟩
theorem Tw.snd {Ti : TbP} (R : Rfs Ti) {X : Nat → Prop} {w : World} {a b : Nat} {A B : List Nat} (h : Tw Ti X w a A b B) : Tb Ti X w b B := (h.swap R).fst
theorem Tw.less {Ti : TbP} {X Y : Nat → Prop} {w : World} {a b : Nat} {A B : List Nat} (h : Tw Ti X w a A b B) (hY : ∀ k, Y k → X k) : Tw Ti Y w a A b B := by
  obtain ⟨F, h1, h2, h3⟩ := h
  exact ⟨F, h1, fun k e => h2 k (hY k e), h3.less (fun k e => by rcases e with e | e; exact .inl (hY k e); exact .inr e)⟩
theorem Tw.keep {Ti : TbP} (R : Rfs Ti) {X Y : Nat → Prop} {w w' : World} {a b : Nat} {A B : List Nat} (h : Tw Ti X w a A b B) (hk : Kept (fun k => X k ∨ w.heap.size ≤ k) w w') (hY : ∀ k, Y k → X k ∨ (w.heap.size ≤ k ∧ k < w'.heap.size)) : Tw Ti Y w' a A b B := by
  obtain ⟨F, h1, h2, h3⟩ := h
  have hl := R.lt h1
  have hF : ∀ k, F k → ¬ (X k ∨ w.heap.size ≤ k) := fun k e e2 => by
    rcases e2 with e2 | e2
    · exact (h2 k e2).1 e
    · have := hl k e; omega
  refine ⟨F, R.keep h1 hk hF, fun k e => ?_, h3.keep R (hk.mono (fun k _ e => by rcases e with e | e; exact .inl (.inl e); exact .inr e)) (fun k e => ?_)⟩
  · rcases hY k e with e1 | ⟨e1, e2⟩
    · exact ⟨(h2 k e1).1, Nat.lt_of_lt_of_le (h2 k e1).2 hk.size⟩
    · exact ⟨fun f => by have := hl k f; omega, e2⟩
  · rcases e with e | e
    · rcases hY k e with e1 | e1
      · exact .inl (.inl e1)
      · exact .inr e1
    · exact .inl (.inr e)
theorem Tw.newer {Ti : TbP} (R : Rfs Ti) {X : Nat → Prop} {w w' : World} {a b : Nat} {A B : List Nat} (h : Tw Ti X w a A b B) (hb : Below w.heap.size w w') : Tw Ti X w' a A b B :=
  h.keep R ⟨hb.os, hb.tape, hb.output, hb.size, fun k hk hf => hb.block k (Nat.lt_of_not_le fun e => hf (.inr e))⟩ (fun k e => .inl e)
/-- Add to the first. -/
theorem tw_add {Ti : TbP} (R : Rfs Ti) {X : Nat → Prop} {w : World} {a b : Nat} {A B : List Nat} (h : Tw Ti X w a A b B) (s : Option Addr) (n cap : Nat) (l : List Int) (hl : l.length = n) (hn : n ≤ 100000) (ha : IntsAt w s l) (h64 : ∀ x ∈ l, I64 x) (hX : l ≠ [] → ∀ y, s = some y → X y.block) (hC : sumC A ≤ 1000000) (ok : Bool) (hok : ok = okZ A l) (A2 : List Nat) (hA2 : A2 = addS A l) :
    Calls Try.prog 9 #[.pointer (some ⟨a, 0, none⟩), .slice s n cap] w fun e w' => e = .returned (.bool ok) ∧ Tw Ti X w' a A2 b B ∧ Kept (fun k => ¬ X k) w w' := by
  obtain ⟨F, h1, h2, h3⟩ := h
  refine (tb_add R h3 s n cap l hl hn ha h64 (fun hne y hy => .inl (hX hne y hy)) hC ok hok A2 hA2).mono ?_
  rintro e w' ⟨e1, e2, e3⟩
  exact ⟨e1, ⟨F, R.keep h1 e3 (fun k e f => f (.inr e)), fun k e => ⟨(h2 k e).1, Nat.lt_of_lt_of_le (h2 k e).2 e3.size⟩, e2⟩, e3.mono (fun k _ e f => e (.inl f))⟩

/-- Two tables, two rows of one's own. -/
structure Ro (Ti : TbP) (W w : World) (a : Nat) (A : List Nat) (b : Nat) (B : List Nat) (xv : Value) (xs : List Int) (yv : Value) (ys : List Int) : Prop where
  tw : Tw Ti (fun k => k < W.heap.size ∨ xv.ownBlock = some k ∨ yv.ownBlock = some k) w a A b B
  rx : OwnInts w W.heap.size xv xs
  ry : OwnInts w W.heap.size yv ys
  ne : ∀ k, xv.ownBlock = some k → yv.ownBlock ≠ some k
  kp : Kept (fun k => W.heap.size ≤ k) W w
theorem Ro.rows {Ti : TbP} {W w : World} {a b : Nat} {A B : List Nat} {xv yv : Value} {xs ys : List Int} (h : Ro Ti W w a A b B xv xs yv ys) : Ro Ti W w a A b B yv ys xv xs :=
  ⟨h.tw.less (fun k e => by rcases e with e | e | e; exact .inl e; exact .inr (.inr e); exact .inr (.inl e)), h.ry, h.rx, fun k e e2 => h.ne k e2 e, h.kp⟩
theorem Ro.tabs {Ti : TbP} (R : Rfs Ti) {W w : World} {a b : Nat} {A B : List Nat} {xv yv : Value} {xs ys : List Int} (h : Ro Ti W w a A b B xv xs yv ys) : Ro Ti W w b B a A xv xs yv ys :=
  ⟨h.tw.swap R, h.rx, h.ry, h.ne, h.kp⟩
theorem Ro.newer {Ti : TbP} (R : Rfs Ti) {W w w' : World} {a b : Nat} {A B : List Nat} {xv yv : Value} {xs ys : List Int} (h : Ro Ti W w a A b B xv xs yv ys) (hb : Below w.heap.size w w') : Ro Ti W w' a A b B xv xs yv ys :=
  ⟨h.tw.newer R hb, h.rx.below hb (fun k e => (World.ownsRow.lt h.rx k e).2), h.ry.below hb (fun k e => (World.ownsRow.lt h.ry k e).2), h.ne, kept_new h.kp hb h.kp.size⟩
theorem Ro.draws {Ti : TbP} (R : Rfs Ti) {W w : World} {a b : Nat} {A B : List Nat} {xv yv : Value} {xs ys : List Int} (h : Ro Ti W w a A b B xv xs yv ys) (n : Nat) : Ro Ti W (w.drewN n) a A b B xv xs yv ys := h.newer R (below_drewN (Below.refl _ _) n)
theorem Ro.start {Ti : TbP} {W w : World} {a b : Nat} {A B : List Nat} (h : Tw Ti (fun k => k < W.heap.size) w a A b B) (hk : Kept (fun k => W.heap.size ≤ k) W w) : Ro Ti W w a A b B (.slice none 0 0) [] (.slice none 0 0) [] :=
  ⟨h.less (fun k e => by rcases e with e | e | e; exact e; cases e; cases e), OwnInts.nil _ _, OwnInts.nil _ _, fun k e => (by cases e), hk⟩
/-- Add to the first table. -/
theorem ro_add {Ti : TbP} (R : Rfs Ti) {W w : World} {a b : Nat} {A B : List Nat} {xv yv : Value} {xs ys : List Int} (h : Ro Ti W w a A b B xv xs yv ys) (s : Option Addr) (n cap : Nat) (l : List Int) (hl : l.length = n) (hn : n ≤ 100000) (ha : IntsAt w s l) (h64 : ∀ x ∈ l, I64 x) (hX : l ≠ [] → ∀ y, s = some y → xv.ownBlock = some y.block ∨ yv.ownBlock = some y.block) (hC : sumC A ≤ 1000000) (ok : Bool) (hok : ok = okZ A l) (A2 : List Nat) (hA2 : A2 = addS A l) :
    Calls Try.prog 9 #[.pointer (some ⟨a, 0, none⟩), .slice s n cap] w fun e w' => e = .returned (.bool ok) ∧ Ro Ti W w' a A2 b B xv xs yv ys := by
  refine (tw_add R h.tw s n cap l hl hn ha h64 (fun hne y hy => .inr (hX hne y hy)) hC ok hok A2 hA2).mono ?_
  rintro e w' ⟨e1, e2, e3⟩
  exact ⟨e1, ⟨e2, ownsRow_other h.rx e3 (fun k e f => f (.inr (.inl e))), ownsRow_other h.ry e3 (fun k e f => f (.inr (.inr e))), h.ne, kept_in h.kp e3 (fun k hk => .inl hk)⟩⟩
/-- 'append(y, n)' of one number that was just built. -/
theorem wpList_append_ro {P : Program} {Ti : TbP} (R : Rfs Ti) (W w0 : World) {ops : Array Oper} {rest : List Oper} {o : Oper} {ac : Act} {Q : Exit → Act → World → Prop}
    (hgd : o.guard = none) (s x : Operand) (t : TypeId) (ho : o.op = .call { callee := .builtin .append, args := #[s, x], argTypes := #[t, t] })
    (i : TypeInfo) (ht : P.underlying t = some (.slice 3)) (hi : P.info? 3 = some i) (hz : i.zero = some (.int .i64 0)) (hsize : i.size = 1) (hby : i.bytes = 8)
    (a : Nat) (A : List Nat) (b : Nat) (B : List Nat) (xv : Value) (xs : List Int) (yv : Value) (ys : List Int) (hs : ac.eval s = yv) (hr : Ro Ti W w0 a A b B xv xs yv ys) (y : Int) (hx : ac.eval x = .slice (some ⟨w0.heap.size, 0, none⟩) 1 1)
    (hl : ys.length ≤ 1000000)
    (h : ∀ v' w', Hid (Ro Ti W w' a A b B xv xs v' (ys ++ [y])) → wpList P ops Q rest (ac.put o.dst v') w') : wpList P ops Q (o :: rest) ac (w0.alloc (.cells #[.int .i64 y] 3)) := by
  have hbs : W.heap.size ≤ w0.heap.size := hr.kp.size
  refine wpList_append_mine _ hgd s x t ho W.heap.size 3 i (.int .i64 0) 1 8 ht hi hz hsize hby rfl (by decide) yv ys.length (i64s ys) hs (World.ownsRow.alloc hr.ry _) ⟨w0.heap.size, 0, none⟩ 1 1 [.int .i64 y] hx rfl ?c1 ?c2 (by decide) ?b1 ?b2 ?b3 ?_
  case c1 => intro j u hj; match j, hj with | 0, hj => simp at hj; subst hj; simp [Addr.add]
  case c2 => intro u hu; simp at hu; subst hu; rfl
  case b1 => unfold maxLen; omega
  case b2 => omega
  case b3 => simp; omega
  intro g cap w' H1 HG HN
  have hk : Kept (fun k => yv.ownBlock = some k ∨ w0.heap.size ≤ k) w0 w' := by
    have e1 : Kept (fun k => yv.ownBlock = some k ∨ w0.heap.size ≤ k) w0 (w0.alloc (.cells #[.int .i64 y] 3)) := Kept.alloc _ _ _
    exact e1.trans ((Kept.grown HG.out).mono (fun k _ e => .inl e))
  have hg := World.ownsRow.lt H1.out g rfl
  have hgn : yv.ownBlock = some g ∨ w0.heap.size ≤ g := by
    rcases HN.out with e4 | e4
    · exact .inl e4
    · have e5 : w0.heap.size ≤ (w0.alloc (.cells #[.int .i64 y] 3)).heap.size := by simp
      exact .inr (by omega)
  refine h _ w' ⟨?_, ?_, ?_, ?_, ?_⟩
  · refine hr.tw.keep R (hk.mono (fun k _ e => by
      rcases e with e | e
      · exact .inl (.inr (.inr e))
      · exact .inr e)) (fun k e => ?_)
    rcases e with e | e | e
    · exact .inl (.inl e)
    · exact .inl (.inr (.inl e))
    · have e3 : g = k := by simpa [Value.ownBlock] using e
      subst e3
      rcases hgn with e4 | e4
      · exact .inl (.inr (.inr e4))
      · exact .inr ⟨e4, hg.2⟩
  · exact ownsRow_other hr.rx hk (fun k e e2 => by
      rcases e2 with e2 | e2
      · exact hr.ne k e e2
      · have := (World.ownsRow.lt hr.rx k e).2; omega)
  · show World.ownsRow _ _ _ _ _ _ _
    have := H1.out
    simpa [i64s] using this
  · intro k e e2
    have e3 : g = k := by simpa [Value.ownBlock] using e2
    subst e3
    rcases hgn with e4 | e4
    · exact hr.ne g e e4
    · have := (World.ownsRow.lt hr.rx g e).2; omega
  · exact hr.kp.trans (hk.mono (fun k _ e => by
      rcases e with e | e
      · exact (World.ownsRow.lt hr.ry k e).1
      · omega))

end Go.Proofs.Ytcbenfmffedioaa

/- RefsOrder over the bundle. -/
namespace Go.Proofs.Ytcbenfmffedioaa
set_option linter.unusedVariables false
set_option linter.unusedSimpArgs false
open Go.RowKit Dg

theorem allN.rev {N : Nat} {xs : List Int} (h : allN N xs) : allN N xs.reverse := fun x hx => h x (List.mem_reverse.1 hx)
theorem allN.take {N : Nat} {xs : List Int} (h : allN N xs) (k : Nat) : allN N (xs.take k) := fun x hx => h x (List.mem_of_mem_take hx)
theorem allN.drop {N : Nat} {xs : List Int} (h : allN N xs) (k : Nat) : allN N (xs.drop k) := fun x hx => h x (List.mem_of_mem_drop hx)
theorem addZ_rev {C : List Nat} {N : Nat} {xs : List Int} (h : allN N xs) (hC : C.length = N) (k : Nat) : addZ (addZ C (xs.reverse.take k)) (xs.reverse.drop k) = addZ C xs := by
  rw [← addZ_append, List.take_append_drop]
  exact addZ_perm (h.rev.ok hC) (fun x => List.count_reverse) (h.ok hC)
theorem rev_step {xs : List Int} {q : Nat} {x : Int} (hx : xs[q]? = some x) : (xs.drop (q + 1)).reverse ++ [x] = (xs.drop q).reverse := by
  have hq := (List.getElem?_eq_some_iff.1 hx).1
  have e : xs.drop q = x :: xs.drop (q + 1) := by
    rw [List.drop_eq_getElem_cons hq]
    rw [List.getElem?_eq_getElem hq] at hx
    rw [Option.some.inj hx]
  rw [e, List.reverse_cons]
set_option maxRecDepth 100000 in
set_option maxHeartbeats 8000000 in
theorem rforder_any {Ti : TbP} (R : Rfs Ti) (OF : RfOf Ti) (OW : RfOwned Ti) (W : World) (a : Option Addr) (len cap : Nat) (zs : List Int) (cut : Int) (hr : IsRow .i64 W a len cap zs) (hcut : I64 cut) :
    Calls Try.prog 5 #[.slice a len cap, .int .i64 cut] W fun e W' => e = .returned (.bool true) ∧ Below W.heap.size W W' := by
  obtain ⟨i0, hi, hz0, hz1, hz2⟩ := info_parts Try.info3
  obtain ⟨l, hl, hl64, hla, hlc, hcm, -, -⟩ := hr.ints
  unfold maxLen at hcm
  obtain ⟨hq1, hq2⟩ := hcut
  have HLA : Hid (∀ j, j < len → ∃ x, I64 x ∧ ∃ b off, a = some ⟨b, off, none⟩ ∧ ∀ w : World, Kept (fun k => W.heap.size ≤ k) W w → w.cell? ⟨b, off + j, none⟩ = some (.int .i64 x)) := fun j hj => by
    obtain ⟨x, hx⟩ : ∃ x, l[j]? = some x := ⟨_, List.getElem?_eq_getElem (by omega)⟩
    obtain ⟨b, off, e, hc⟩ := hla j x hx
    have hbl := World.block_lt_of_cell? W _ hc
    exact ⟨x, hl64 x (List.mem_of_getElem? hx), b, off, e, fun w hw => (hw.cell hbl (Nat.not_le.2 hbl)).trans hc⟩
  clear hla hl64 hr hl
  obtain ⟨C0, hC0⟩ : ∃ C0, C0 = List.replicate 9 0 := ⟨_, rfl⟩
  have HC0 := hid_of hC0
  go_enter Try.func5, Try.ntmps5
  go_wp2_with fail
  refine (tb_new R W 9 (by decide) (by decide)).mono ?_
  rintro e w1 ⟨ta, rfl, ht1, hb1⟩
  rw [← hC0] at ht1
  have HT1 := hid_of ht1
  have HK1 : Hid (Kept (fun k => W.heap.size ≤ k) W w1) := kept_new (Kept.refl _ _) hb1 (Nat.le_refl _)
  clear ht1 hb1
  go_wp2_with fail
  refine (tb_new R w1 9 (by decide) (by decide)).mono ?_
  rintro e w2 ⟨tb, rfl, ht2, hb2⟩
  rw [← hC0] at ht2
  have HRO : Hid (Ro Ti W w2 ta C0 tb C0 (.slice none 0 0) [] (.slice none 0 0) []) := by
    obtain ⟨F, f1, f2⟩ := HT1.out
    have hl := R.lt f1
    refine Ro.start (Tw.swap R ⟨F, R.keep f1 (below_keptR hb2) (fun k e => Nat.not_le.2 (hl k e)), fun k e => ⟨(f2 k e).1, Nat.lt_of_lt_of_le (f2 k e).2 hb2.size⟩, ht2.less (fun k e => ?_)⟩) (kept_new HK1.out hb2 HK1.out.size)
    rcases e with e | e
    · exact (f2 k e).2
    · exact hl k e
  have HE : Hid (allN 9 ([] : List Int)) := fun x hx => by cases hx
  clear ht2 hb2 hC0 HT1 HK1
  go_wp2_with fail
  go_loopw [9, 11] (fun xv v wr => ∃ (j : Nat) (xs : List Int), j ≤ len ∧ v = .int .i64 (j : Int) ∧ xs.length ≤ 20 ∧ Hid (xs.length = j) ∧ Hid (allN 9 xs) ∧ Hid (Ro Ti W wr ta C0 tb C0 (.slice none 0 0) [] xv xs)) (fun _ v _ => len - (intOf v).toNat)
  case atStart => exact ⟨0, [], Nat.zero_le _, rfl, by decide, rfl, HE, HRO⟩
  case round =>
    obtain ⟨j, xs, hj, rfl, hx20, hxl, hall, hrx⟩ := hrel
    have hway : (decide ((j : Int) < (len : Int)) = true ∧ decide ((j : Int) < 20) = true ∧ j < len ∧ j < 20) ∨ ((decide ((j : Int) < (len : Int)) = true ∧ decide ((j : Int) < 20) = false ∧ j < len) ∨ (decide ((j : Int) < (len : Int)) = false ∧ decide (j < len) = false ∧ True)) := by
      by_cases e1 : j < len
      · by_cases e2 : j < 20
        · exact .inl ⟨decide_eq_true (by omega), decide_eq_true (by omega), e1, e2⟩
        · exact .inr (.inl ⟨decide_eq_true (by omega), decide_eq_false (by omega), e1⟩)
      · exact .inr (.inr ⟨decide_eq_false (by omega), decide_eq_false e1, trivial⟩)
    rcases hway with ⟨hd1, hd2, hj1, hj2⟩ | hout
    · obtain ⟨x, ⟨hx1, hx2⟩, bb, off, rfl, hcl⟩ := HLA.out j hj1
      have hc := hcl wr hrx.out.kp
      obtain ⟨y, hy⟩ : ∃ y : Int, y = x % 9 := ⟨_, rfl⟩
      have hy0 : 0 ≤ y ∧ y < ((9 : Nat) : Int) := by omega
      have HW : Hid (Calls Try.prog 8 #[.int .i64 x, .int .i64 9] wr fun e w' => e = .returned (.int .i64 y) ∧ wr = w') := by rw [hy]; exact within_any x 9 wr hx1 hx2 (by decide) (by decide)
      have HAL := hid_of (hall.out.snoc hy0)
      have hlx : xs.length ≤ 1000000 := by omega
      have HL2 : Hid ((xs ++ [y]).length = j + 1) := by show _ = _; rw [List.length_append, hxl.out]; rfl
      have HL3 : Hid ((xs ++ [y]).length ≤ 20) := by show _ ≤ _; rw [HL2.out]; omega
      clear hcl hy
      go_wp2_with fail
      refine HW.out.mono ?_
      rintro e w3 ⟨rfl, rfl⟩
      go_wp2_with (at_builtin; go_must (refine wpList_append_ro R W wr rfl (.tmp 46) (.tmp 52) 22 rfl i0 Try.underlying22 hi hz0 hz1 hz2 ta C0 tb C0 _ [] _ xs (by rfl) hrx.out y (by rfl) hlx ?_))
      intro v2 w3 HR3
      have HR3' := hid_of HR3.out
      clear HR3 hrx
      go_wp2_with fail
      refine ⟨?_, by (simp [intOf]) <;> omega⟩
      first
        | exact ⟨j + 1, _, by omega, by go_num, HL3.out, HL2, HAL, HR3'⟩
        | ((repeat apply Exists.intro); refine ⟨?_, rfl⟩; exact ⟨j + 1, _, by omega, by go_num, HL3.out, HL2, HAL, HR3'⟩)
    · rcases hout with ⟨hd1, hd2, hj1⟩ | ⟨hd1, hd2, hj1⟩
      all_goals
        obtain ⟨ax, cx, hxv, -, hform⟩ := hrx.out.ry.slice
        rw [hxl.out] at hxv
        subst hxv
        have hj20 : j ≤ 20 := by rw [← hxl.out]; exact hx20
        have HFO := hid_of hform
        have HRX := hid_of hrx.out.rows
        clear hform hrx
        go_wp2_with fail
        go_loopw [10, 12] (fun yv v ws => ∃ (q : Nat) (t : Int), q ≤ j ∧ v = .int .i64 t ∧ t = (q : Int) - 1 ∧ Hid (Ro Ti W ws ta C0 tb C0 (.slice ax j cx) xs yv ((xs.drop q).reverse))) (fun _ v _ => (intOf v + 1).toNat)
        case atStart =>
          refine ⟨j, (j : Int) - 1, Nat.le_refl _, rfl, rfl, ?_⟩
          show Ro _ _ _ _ _ _ _ _ _ _ _
          rw [← hxl.out, List.drop_length, hxl.out]; exact HRX.out
        case round =>
          clear HRX
          obtain ⟨q, t, hqj, rfl, htq, hro⟩ := hrel
          rcases q with _ | p
          · have htb : decide (0 ≤ t) = false := decide_eq_false (by omega)
            clear htq
            obtain ⟨ys, hys⟩ : ∃ ys, ys = (xs.drop 0).reverse := ⟨_, rfl⟩
            have hys2 : ys = xs.reverse := by rw [hys, List.drop_zero]
            have hyl : ys.length = j := by rw [hys2, List.length_reverse, hxl.out]
            have hro2 := hro.out
            rw [← hys] at hro2
            obtain ⟨ay, cy, hyv, -, hyform⟩ := hro2.ry.slice
            rw [hyl] at hyv
            have hcap : j ≤ cy := by
              rcases hro2.ry.2 with ⟨e, e2⟩ | ⟨g, cap', cur, e, -, -, hn, -⟩
              · rw [hyv] at e; rw [hyl] at e2; omega
              · rw [hyv] at e
                simp only [Value.slice.injEq] at e
                rw [hyl] at hn
                omega
            subst hyv
            have HRO1 := hid_of hro2
            have HALY : Hid (allN 9 ys) := by show allN _ _; rw [hys2]; exact hall.out.rev
            obtain ⟨k, hk⟩ : ∃ k : Nat, cut % ((j : Int) + 1) = (k : Int) := ⟨(cut % ((j : Int) + 1)).toNat, by have := Int.emod_nonneg cut (show (j : Int) + 1 ≠ 0 by omega); omega⟩
            have hkj : k ≤ j := by have := Int.emod_lt_of_pos cut (show 0 < (j : Int) + 1 by omega); omega
            have HWK : Hid (Calls Try.prog 8 #[.int .i64 cut, .int .i64 ((j : Int) + 1)] wr fun e w' => e = .returned (.int .i64 (k : Int)) ∧ wr = w') := by
              have e := within_any cut ((j : Int) + 1) wr hq1 hq2 (by omega) (by omega)
              rw [hk] at e
              exact e
            have hsl1 := slice_ints ay j cy k (by omega)
            have hsl2 := slice_ints_lo ay j cy k hkj
            obtain ⟨a3, ha3⟩ : ∃ a3, a3 = lowI ay cy k := ⟨_, rfl⟩
            obtain ⟨n3, hn3⟩ : ∃ n3, n3 = j - k := ⟨_, rfl⟩
            obtain ⟨c3, hc3⟩ : ∃ c3, c3 = cy - k := ⟨_, rfl⟩
            rw [← ha3, ← hn3, ← hc3] at hsl2
            have hC0l : C0.length = 9 := by rw [HC0.out]; rfl
            have hC0s : sumC C0 = 0 := by rw [HC0.out]; exact sumTo_nought 9 _
            have HAD := hid_of (hall.out.add hC0l)
            obtain ⟨C1, hC1⟩ : ∃ C1, C1 = addZ C0 xs := ⟨_, rfl⟩
            obtain ⟨D1, hD1⟩ : ∃ D1, D1 = addZ C0 (ys.take k) := ⟨_, rfl⟩
            have hD1l : D1.length = 9 := by rw [hD1, length_addZ, hC0l]
            have hD2 : addZ D1 (ys.drop k) = C1 := by rw [hD1, hC1, hys2]; exact addZ_rev hall.out hC0l k
            have HC1 := hid_of hC1
            have HD1 := hid_of hD1
            have HADT := hid_of ((HALY.out.take k).add hC0l)
            have HADD := hid_of ((HALY.out.drop k).add hD1l)
            have HD2 := hid_of hD2
            have HC1l : Hid (C1.length = 9) := by show _ = _; rw [hC1, length_addZ, hC0l]
            have HC1s : Hid (sumC C1 = j) := by show _ = _; rw [hC1, sumC_add xs C0 (hall.out.ok hC0l), hC0s, hxl.out, Nat.zero_add]
            have HTL : Hid ((ys.take k).length = k) := by show _ = _; rw [List.length_take, hyl]; omega
            have HDL : Hid ((ys.drop k).length = n3) := by show _ = _; rw [List.length_drop, hyl, hn3]
            have HD1s : Hid (sumC D1 ≤ 1000000) := by show _ ≤ _; rw [hD1, sumC_add _ C0 ((HALY.out.take k).ok hC0l), hC0s, HTL.out]; omega
            have HC0s : Hid (sumC C0 ≤ 1000000) := by show _ ≤ _; rw [hC0s]; exact Nat.zero_le _
            have HC1b : Hid (sumC C1 ≤ 1000000) := by show _ ≤ _; rw [HC1s.out]; omega
            have H64 : ∀ zs : List Int, allN 9 zs → ∀ x ∈ zs, I64 x := fun zs h x hx => by have := h x hx; exact ⟨by omega, by omega⟩
            have HH64 := hid_of H64
            have HBK : Hid (∀ y, a3 = some y → (Value.slice ay j cy).ownBlock = some y.block) := fun y hy => by
              rw [ha3] at hy
              unfold lowI at hy
              split at hy
              · rw [hy]; rfl
              · obtain ⟨z, hz, rfl⟩ := Option.map_eq_some_iff.1 hy
                have e : (z.add k).block = z.block := by unfold Addr.add; split <;> rfl
                rw [hz, e]; rfl
            have HDRP : Hid (∀ w : World, IntsAt w ay ys → IntsAt w a3 (ys.drop k)) := fun w h => by rw [ha3]; exact h.drop (by rw [hyl]; exact hcap) k
            have hn3b : n3 ≤ 100000 := by omega
            have HJJ := hid_of hyl
            clear hys hys2 hyl hro hro2 hyform hk ha3 hn3 hc3 hC0l hC0s hC1 hD1 hD1l hD2 H64
            go_wp2_with fail
            refine HWK.out.mono ?_
            rintro e w3 ⟨rfl, rfl⟩
            clear HWK
            go_wp2_with fail
            refine (ro_add R HRO1.out ax j cx xs hxl.out (by omega) (IntsAt.of_owns (show World.ownsRow _ _ _ _ _ _ _ from HRO1.out.rx)) (HH64.out xs hall.out) (fun _ y hy => .inl (by rw [hy]; rfl)) HC0s.out true HAD.out.1 C1 (by rw [HC1.out]; exact HAD.out.2)).mono ?_
            rintro e w3 ⟨rfl, hr3⟩
            have HR3 := hid_of (hr3.tabs R)
            clear hr3 HRO1
            go_wp2_with fail
            refine (ro_add R HR3.out ay k cy (ys.take k) HTL.out (by omega) ((IntsAt.of_owns (show World.ownsRow _ _ _ _ _ _ _ from HR3.out.ry)).take k) (HH64.out _ (HALY.out.take k)) (fun _ y hy => .inr (by rw [hy]; rfl)) HC0s.out true HADT.out.1 D1 (by rw [HD1.out]; exact HADT.out.2)).mono ?_
            rintro e w4 ⟨rfl, hr4⟩
            have HR4 := hid_of hr4
            clear hr4 HR3
            go_wp2_with fail
            refine (ro_add R HR4.out a3 n3 c3 (ys.drop k) HDL.out hn3b (HDRP.out _ (IntsAt.of_owns (show World.ownsRow _ _ _ _ _ _ _ from HR4.out.ry))) (HH64.out _ (HALY.out.drop k)) (fun _ y hy => .inr (HBK.out y hy)) HD1s.out true HADD.out.1 C1 (by rw [← HD2.out]; exact HADD.out.2)).mono ?_
            rintro e w5 ⟨rfl, hr5⟩
            have HR5 := hid_of hr5
            clear hr5 HR4 hsl1 hsl2
            go_wp2_with fail
            go_loopw [13] (fun v ws => ∃ i : Nat, i ≤ 9 ∧ v = .int .i64 (i : Int) ∧ Hid (Ro Ti W ws tb C1 ta C1 (.slice ax j cx) xs (.slice ay j cy) ys)) (fun v _ => 9 - (intOf v).toNat)
            case atStart => exact ⟨0, by decide, rfl, HR5⟩
            case round =>
              clear HR5
              obtain ⟨i, hi9, rfl, hro⟩ := hrel
              by_cases hi : i < 9
              · obtain ⟨x, hx⟩ : ∃ x, x = ofR C1 (i : Int) := ⟨_, rfl⟩
                have HX := hid_of hx
                have hxx : ((x : Int) != (x : Int)) = false := by simp
                have hib : decide ((i : Int) < 9) = true := decide_eq_true (by omega)
                clear hx
                go_wp2_with fail
                refine (tb_of OF (hro.out.tw.snd R) (i : Int) ⟨by omega, by omega⟩ x HX.out).mono ?_
                rintro e w6 ⟨rfl, d6, rfl⟩
                have HR6 := hid_of (hro.out.draws R d6)
                clear hro
                go_wp2_with fail
                refine (tb_of OF HR6.out.tw.fst (i : Int) ⟨by omega, by omega⟩ x HX.out).mono ?_
                rintro e w7 ⟨rfl, d7, rfl⟩
                have h7 := HR6.out.draws R d7
                rw [World.drewN_drewN] at h7
                have HR7 := hid_of h7
                clear HR6 h7
                go_wp2_with fail
                refine ⟨?_, by (simp [intOf]) <;> omega⟩
                first
                  | exact ⟨i + 1, by omega, by go_num, HR7⟩
                  | ((repeat apply Exists.intro); refine ⟨?_, rfl⟩; exact ⟨i + 1, by omega, by go_num, HR7⟩)
              · have hib : decide ((i : Int) < 9) = false := decide_eq_false (by omega)
                have hjj2 : ((j : Int) == (j : Int)) = true := by simp
                obtain ⟨V, hV⟩ : ∃ V, V = ownTo C1 C1.length := ⟨_, rfl⟩
                have hVl : V.length ≤ 9 := by rw [hV]; exact Nat.le_trans (length_ownTo _ _) (by rw [HC1l.out]; exact Nat.le_refl _)
                have HOA := hid_of (tb_owned OW (hro.out.tw.snd R))
                rw [← hV] at HOA
                go_wp2_with fail
                refine HOA.out.mono ?_
                rintro e w6 ⟨v6, rfl, ho6, hb6⟩
                have HR6 := hid_of (hro.out.newer R hb6)
                have HO6 := hid_of ho6
                clear ho6 hb6 hro HOA
                have HOB := hid_of (tb_owned OW HR6.out.tw.fst)
                rw [← hV] at HOB
                go_wp2_with fail
                refine HOB.out.mono ?_
                rintro e w7 ⟨v7, rfl, ho7, hb7⟩
                have HR7 := hid_of (HR6.out.newer R hb7)
                have h67 := HO6.out.below hb7 (fun k e => (World.ownsRow.lt HO6.out k e).2)
                obtain ⟨a6, c6, rfl, hi6, -⟩ := h67.slice
                obtain ⟨a7, c7, rfl, hi7, -⟩ := ho7.slice
                have HSM := hid_of (sameInt_any w7 a6 a7 c6 c7 V hi6 hi7 (by omega))
                obtain ⟨L, hL⟩ : ∃ L, L = V.length := ⟨_, rfl⟩
                rw [← hL] at HSM
                rw [← hL]
                clear ho7 hb7 h67 hi6 hi7 HO6 HR6 HOB hL hV hVl
                go_wp2_with fail
                refine HSM.out.mono ?_
                rintro e w8 ⟨rfl, d8, rfl⟩
                have HR8 := hid_of (HR7.out.draws R d8)
                clear HR7 HSM
                go_wp2_with fail
                refine (tb_sum R (HR8.out.tw.snd R) HC1b.out j HC1s.out.symm).mono ?_
                rintro e w9 ⟨rfl, d9, rfl⟩
                have h9 := HR8.out.draws R d9
                rw [World.drewN_drewN] at h9
                have HR9 := hid_of h9
                clear HR8 h9
                go_wp2_with fail
                refine (tb_sum R HR9.out.tw.fst HC1b.out j HC1s.out.symm).mono ?_
                rintro e wa ⟨rfl, da, rfl⟩
                have ha := (HR9.out.draws R da).kp
                rw [World.drewN_drewN] at ha
                have HKA := hid_of ha
                clear HR9 ha
                go_wp2_with fail
                refine (wakes12_any R _).mono ?_
                rintro e wb ⟨rfl, hbb⟩
                have HKB := hid_of (kept_new HKA.out hbb HKA.out.size)
                clear hbb
                go_wp2_with fail
                go_ret
                exact ⟨rfl, kept_end HKB.out⟩
          · obtain rfl : t = (p : Int) := by omega
            have htb : decide (0 ≤ (p : Int)) = true := decide_eq_true (by omega)
            obtain ⟨x, hx⟩ : ∃ x, xs[p]? = some x := ⟨_, List.getElem?_eq_getElem (by rw [hxl.out]; omega)⟩
            have hax : ∃ gx, ax = some ⟨gx, 0, none⟩ := by
              rcases HFO.out with ⟨-, e, -⟩ | ⟨g, e, -⟩
              · rw [e] at hx; cases hx
              · exact ⟨g, e⟩
            obtain ⟨gx, rfl⟩ := hax
            have hia2 : IntsAt wr (some ⟨gx, 0, none⟩) xs := IntsAt.of_owns (show World.ownsRow _ _ _ _ _ _ _ from hro.out.rx)
            obtain ⟨b5, o5, e5, hcx⟩ := hia2 p x hx
            cases e5
            rw [Nat.zero_add] at hcx
            have HST := hid_of (rev_step hx)
            have hly : ((xs.drop (p + 1)).reverse).length ≤ 1000000 := by rw [List.length_reverse, List.length_drop, hxl.out]; omega
            clear hx hia2 htq
            go_wp2_with (at_builtin; go_must (refine wpList_append_ro R W wr rfl (.tmp 61) (.tmp 66) 22 rfl i0 Try.underlying22 hi hz0 hz1 hz2 ta C0 tb C0 _ xs _ _ (by rfl) hro.out x (by rfl) hly ?_))
            intro v2 w3 HR3
            have HR3' : Hid (Ro Ti W w3 ta C0 tb C0 (.slice (some ⟨gx, 0, none⟩) j cx) xs v2 ((xs.drop p).reverse)) := by show Ro _ _ _ _ _ _ _ _ _ _ _; rw [← HST.out]; exact HR3.out
            clear HR3 hro
            go_wp2_with fail
            refine ⟨?_, by (simp [intOf]) <;> omega⟩
            first
              | exact ⟨p, (p : Int) - 1, by omega, rfl, rfl, HR3'⟩
              | ((repeat apply Exists.intro); refine ⟨?_, rfl⟩; exact ⟨p, (p : Int) - 1, by omega, rfl, rfl, HR3'⟩)

end Go.Proofs.Ytcbenfmffedioaa

/- The walks of layer 12's laws over the table that landed: the bundle put in. -/
namespace Go.Proofs.Ytcbenfmffedioaa

theorem rlimitsW_any : type_of% (rlimits_any rfsW rfOfW) := rlimits_any rfsW rfOfW
theorem rfbackW_any : type_of% (rfback_any rfsW rfOwnedW) := rfback_any rfsW rfOwnedW
theorem rforderW_any : type_of% (rforder_any rfsW rfOfW rfOwnedW) := rforder_any rfsW rfOfW rfOwnedW

end Go.Proofs.Ytcbenfmffedioaa

/- Acts of layer 12 (two numbers and a list) that came in. -/
namespace Go.Proofs.Ytcbenfmffedioaa
set_option linter.unusedVariables false
set_option linter.unusedSimpArgs false
open Go.ChangeShapes Go.WideShapes Go.ChangeAt Go.RowKit Go.Deep Dg

/-- An act, as plain data. -/
structure Act2 where
  do_ : Int
  i : Int
  l : List Int
instance : Inhabited Act2 := ⟨⟨0, 0, []⟩⟩
/-- One act in memory, all of it below B0. -/
def Act2At (w : World) (B0 : Nat) (a : Option Addr) (j : Nat) (x : Act2) : Prop := ∃ (b off : Nat) (la : Option Addr) (lc : Nat), a = some ⟨b, off, none⟩ ∧ b < B0 ∧
  (w.cell? ⟨b, off + j * 3, none⟩ = some (.int .i64 x.do_) ∧ w.cell? ⟨b, off + j * 3 + 1, none⟩ = some (.int .i64 x.i) ∧ w.cell? ⟨b, off + j * 3 + 2, none⟩ = some (.slice la x.l.length lc)) ∧
  (I64 x.do_ ∧ I64 x.i) ∧ IntsAt w la x.l ∧ (∀ y ∈ x.l, I64 y) ∧ (x.l ≠ [] → ∀ y, la = some y → y.block < B0) ∧ x.l.length ≤ lc ∧ lc ≤ maxLen ∧ (la = none → x.l.length = 0 ∧ lc = 0)
def ActsR (w : World) (B0 : Nat) (a : Option Addr) (L : List Act2) : Prop := ∀ j x, L[j]? = some x → Act2At w B0 a j x
theorem IntsAt.kept_ne {w w' : World} {a : Option Addr} {l : List Int} {F : Nat → Prop} (h : IntsAt w a l) (hk : Kept F w w') (hF : l ≠ [] → ∀ x, a = some x → ¬ F x.block) : IntsAt w' a l := by
  by_cases hl : l = []
  · subst hl; exact IntsAt.nil _ _
  · exact h.kept hk (hF hl)
theorem Act2At.kept {w w' : World} {B0 : Nat} {a : Option Addr} {j : Nat} {x : Act2} (h : Act2At w B0 a j x) (hB : B0 ≤ w.heap.size) {F : Nat → Prop} (hk : Kept F w w') (hF : ∀ k, k < B0 → ¬ F k) : Act2At w' B0 a j x := by
  obtain ⟨b, off, la, lc, h1, h2, ⟨c0, c1, c2⟩, h3, h4, h5, h6, h7⟩ := h
  refine ⟨b, off, la, lc, h1, h2, ⟨?_, ?_, ?_⟩, h3, h4.kept_ne hk (fun hne y hy => hF _ (h6 hne y hy)), h5, h6, h7⟩
  · rw [hk.cell (by show b < _; omega) (hF b h2)]; exact c0
  · rw [hk.cell (by show b < _; omega) (hF b h2)]; exact c1
  · rw [hk.cell (by show b < _; omega) (hF b h2)]; exact c2
theorem ActsR.kept {w w' : World} {B0 : Nat} {a : Option Addr} {L : List Act2} (h : ActsR w B0 a L) (hB : B0 ≤ w.heap.size) {F : Nat → Prop} (hk : Kept F w w') (hF : ∀ k, k < B0 → ¬ F k) : ActsR w' B0 a L :=
  fun j x hx => (h j x hx).kept hB hk hF
theorem Try.cellsAct2 : Try.prog.cellsOf 47 = 3 := by kernel_rfl
theorem Try.cellsI2 : Try.prog.cellsOf 3 = 1 := by kernel_rfl
theorem Try.cellsIs2 : Try.prog.cellsOf 22 = 1 := by kernel_rfl
set_option maxRecDepth 100000 in
theorem open_acts12 {H : Type} {enc : TypeId × Value → H} {W : World} {a : Option Addr} {len cap : Nat} {d : DataW H} {p : List MemPlace}
    (h : DataW.Trod enc Try.prog W 0 (fun _ => true) true 36 (.slice a len cap) d p) : len ≤ maxLen ∧ ∃ L : List Act2, L.length = len ∧ ActsR W W.heap.size a L := by
  obtain ⟨fuel, hf⟩ := h
  rcases open_slice Try.underlying36 hf with ⟨hcs, _⟩ | ⟨x, l, c, m, n, D, Pl, hcs, _, hl, hm, hmm, _, hcell⟩
  · simp [Value.cells] at hcs
    obtain ⟨rfl, rfl, rfl⟩ := hcs
    exact ⟨by decide, [], rfl, fun j x hx => by simp at hx⟩
  · simp [Value.cells] at hcs
    obtain ⟨rfl, rfl, rfl⟩ := hcs
    refine ⟨by omega, ?_⟩
    have hlm : len ≤ m := by rw [hmm]; split <;> omega
    have key : ∀ i, i < len → ∃ t : Act2, Act2At W W.heap.size (some x) i t := by
      intro i hi
      have hx : x.spot = none := by
        obtain ⟨cs0, hc0, _⟩ := hcell 0 (by omega)
        rw [Try.cellsAct2] at hc0
        obtain ⟨_, _, _, _, h0, _, _⟩ := cells3_of hc0
        have := spot_of_cell h0
        simpa [Addr.add] using this
      obtain ⟨b, off, s⟩ := x
      simp at hx
      subst hx
      obtain ⟨cs, hc, ht⟩ := hcell i (by omega)
      rw [Try.cellsAct2] at hc
      obtain ⟨y0, y1, y2, rfl, h0, h1, h2⟩ := cells3_of hc
      have hadd : (⟨b, off, none⟩ : Addr).add (i * 3) = ⟨b, off + i * 3, none⟩ := by simp [Addr.add]
      rw [hadd] at h0 h1 h2
      have ha : ∀ k, (⟨b, off + i * 3, none⟩ : Addr).add k = ⟨b, off + i * 3 + k, none⟩ := fun k => by simp [Addr.add]
      rw [ha] at h1 h2
      obtain ⟨xs, n', _, _, _, hxl, hff⟩ := DataW.trod_struct Try.underlying47 ht
      have g0 : DataW.trod enc Try.prog W 0 (fun _ => true) true n' 3 (List.take (Try.prog.cellsOf 3) (List.drop 0 [y0, y1, y2])) = xs[0]? := hff 0 _ rfl
      have g1 : DataW.trod enc Try.prog W 0 (fun _ => true) true n' 3 (List.take (Try.prog.cellsOf 3) (List.drop 1 [y0, y1, y2])) = xs[1]? := hff 1 _ rfl
      have g2 : DataW.trod enc Try.prog W 0 (fun _ => true) true n' 22 (List.take (Try.prog.cellsOf 22) (List.drop 2 [y0, y1, y2])) = xs[2]? := hff 2 _ rfl
      have hx3 : xs.length = 3 := hxl
      match xs, hx3 with
      | [z0, z1, z2], _ =>
        simp only [List.getElem?_cons_zero, List.getElem?_cons_succ] at g0 g1 g2
        rw [Try.cellsI2] at g0 g1
        rw [Try.cellsIs2] at g2
        obtain ⟨n0, e0, _, w0⟩ := DataW.trod_int Try.underlying3 g0
        obtain ⟨n1, e1, _, w1⟩ := DataW.trod_int Try.underlying3 g1
        simp at e0 e1
        subst e0 e1
        have k3 : ∃ ba bl bc zs, y2 = .slice ba bl bc ∧ IsRow .i64 W ba bl bc zs := by
          rcases open_ints Try.underlying22 Try.underlying3 (by kernel_rfl) g2 with ⟨hcs, _⟩ | ⟨x', l', c', zs, hcs, _, hl', hm', hz', _, hcell', hwz'⟩
          · simp at hcs
            exact ⟨none, 0, 0, [], hcs, .inl ⟨rfl, rfl, rfl, rfl⟩⟩
          · simp at hcs
            exact ⟨some x', l', c', zs, hcs, .inr ⟨_, rfl, hl', hm', by simpa using hz', hcell', hwz'⟩⟩
        obtain ⟨ba, bl, bc, zs, rfl, hrow⟩ := k3
        obtain ⟨l, q1, q2, q3, q4, q5, q6, q7⟩ := hrow.ints
        refine ⟨⟨n0, n1, l⟩, b, off, ba, bc, rfl, World.block_lt_of_cell? W _ h0, ⟨h0, h1, by rw [q1]; exact h2⟩, ⟨wf_i64 w0, wf_i64 w1⟩, q3, q2, fun hne y hy => q7 y hy ?_, by rw [q1]; exact q4, q5, fun e => by rw [q1]; exact q6 e⟩
        rw [← q1]
        exact List.length_pos_iff.2 hne
    obtain ⟨f, hf'⟩ := choose_lt key
    refine ⟨(List.range len).map f, by simp, fun j t ht => ?_⟩
    rw [List.getElem?_map] at ht
    obtain ⟨k, hk, rfl⟩ := Option.map_eq_some_iff.1 ht
    rw [List.getElem?_eq_some_iff] at hk
    obtain ⟨h5, h6⟩ := hk
    simp at h5 h6
    subst h6
    exact hf' j h5

end Go.Proofs.Ytcbenfmffedioaa

/- A table beside the law's own row of its counts. -/
namespace Go.Proofs.Ytcbenfmffedioaa
set_option linter.unusedVariables false
set_option linter.unusedSimpArgs false
open Go.RowKit Dg

theorem rf_cell {w : World} {base g n c : Nat} {l : List Int} {j : Nat} {x : Int} (h : OwnInts w base (.slice (some ⟨g, 0, none⟩) n c) l) (hx : l[j]? = some x) :
    w.cell? ⟨g, j, none⟩ = some (.int .i64 x) ∧ w.frozen? ⟨g, j, none⟩ = false := by
  have hj : j < l.length := (List.getElem?_eq_some_iff.1 hx).1
  rcases h.2 with ⟨e1, e2⟩ | ⟨g', cap', cur, hv, hgb, hh, hncap, _, hcs, htake⟩
  · cases e1
  · cases hv
    refine ⟨?_, by simp [World.frozen?, hh]⟩
    have e : (i64s l)[j]? = some (.int .i64 x) := by rw [i64s_get, hx]; rfl
    rw [← htake, List.getElem?_take, if_pos (by omega)] at e
    simp only [World.cell?, hh]
    simpa using e
theorem rf_len {w : World} {base g n c : Nat} {l : List Int} (h : OwnInts w base (.slice (some ⟨g, 0, none⟩) n c) l) : n = l.length := by
  rcases h.2 with ⟨e1, _⟩ | ⟨g', cap', cur, hv, _⟩
  · cases e1
  · cases hv; rfl
theorem rf_set {w : World} {base g n c : Nat} {l : List Int} (h : OwnInts w base (.slice (some ⟨g, 0, none⟩) n c) l) (j : Nat) (y : Int) (hj : j < n) :
    OwnInts (w.setCell ⟨g, j, none⟩ (.int .i64 y)) base (.slice (some ⟨g, 0, none⟩) n c) (l.set j y) := by
  have e := rf_len h
  subst e
  show World.ownsRow _ _ _ _ _ _ _
  rw [show i64s (l.set j y) = (i64s l).set j (.int .i64 y) by simp [i64s], List.length_set]
  exact ownsRow_set h j hj _
/-- Counts as numbers. -/
def zs12 (D : List Nat) : List Int := D.map fun x : Nat => (x : Int)
theorem zs12_get (D : List Nat) (j c : Nat) (h : D[j]? = some c) : (zs12 D)[j]? = some (c : Int) := by unfold zs12; rw [List.getElem?_map, h]; rfl
theorem zs12_set (D : List Nat) (j c : Nat) : (zs12 D).set j (c : Int) = zs12 (D.set j c) := by unfold zs12; rw [List.map_set]
/-- The table b has the counts C, the row gr holds D; the blocks X are neither's. -/
structure Pr (Ti : TbP) (X : Nat → Prop) (w : World) (b gr cr n : Nat) (C D : List Nat) : Prop where
  tb : Tb Ti (fun k => X k ∨ k = gr) w b C
  row : OwnInts w 0 (.slice (some ⟨gr, 0, none⟩) n cr) (zs12 D)
  ne : ¬ X gr
theorem Pr.len {Ti : TbP} {X : Nat → Prop} {w : World} {b gr cr n : Nat} {C D : List Nat} (h : Pr Ti X w b gr cr n C D) : D.length = n := by
  have := rf_len h.row
  rw [this]; simp [zs12]
theorem Pr.lt {Ti : TbP} {X : Nat → Prop} {w : World} {b gr cr n : Nat} {C D : List Nat} (h : Pr Ti X w b gr cr n C D) : gr < w.heap.size ∧ ∀ k, X k → k < w.heap.size := by
  obtain ⟨F, h1, h2⟩ := h.tb
  exact ⟨(h2 gr (.inr rfl)).2, fun k e => (h2 k (.inl e)).2⟩
theorem Pr.newer {Ti : TbP} (R : Rfs Ti) {X : Nat → Prop} {w w' : World} {b gr cr n : Nat} {C D : List Nat} (h : Pr Ti X w b gr cr n C D) (hb : Below w.heap.size w w') : Pr Ti X w' b gr cr n C D :=
  ⟨h.tb.newer R hb, h.row.below hb (fun k e => (World.ownsRow.lt h.row k e).2), h.ne⟩
theorem Pr.draws {Ti : TbP} (R : Rfs Ti) {X : Nat → Prop} {w : World} {b gr cr n : Nat} {C D : List Nat} (h : Pr Ti X w b gr cr n C D) (k : Nat) : Pr Ti X (w.drewN k) b gr cr n C D :=
  h.newer R (below_drewN (Below.refl _ _) k)
theorem Pr.cell {Ti : TbP} {X : Nat → Prop} {w : World} {b gr cr n : Nat} {C D : List Nat} (h : Pr Ti X w b gr cr n C D) {j c : Nat} (hc : D[j]? = some c) : w.cell? ⟨gr, j, none⟩ = some (.int .i64 (c : Int)) ∧ w.frozen? ⟨gr, j, none⟩ = false :=
  rf_cell h.row (zs12_get D j c hc)
theorem Pr.set {Ti : TbP} (R : Rfs Ti) {X : Nat → Prop} {w : World} {b gr cr n : Nat} {C D : List Nat} (h : Pr Ti X w b gr cr n C D) (j c : Nat) (hj : j < n) (z : Int) (hz : z = (c : Int)) : Pr Ti X (w.setCell ⟨gr, j, none⟩ (.int .i64 z)) b gr cr n C (D.set j c) := by
  subst hz
  have hk : Kept (fun i => i = gr) w (w.setCell ⟨gr, j, none⟩ (.int .i64 (c : Int))) := Kept.setCell _ _ _ rfl
  refine ⟨h.tb.keep R (hk.mono (fun k _ e => .inl (.inr e))) (fun k e => .inl e), ?_, h.ne⟩
  rw [← zs12_set]
  exact rf_set h.row j _ hj
theorem pr_drop {Ti : TbP} (R : Rfs Ti) {X : Nat → Prop} {w : World} {b gr cr n : Nat} {C D : List Nat} (h : Pr Ti X w b gr cr n C D) (i : Int) (hi : I64 i) (hC : sumC C ≤ 1000000) (left : Nat) (ok : Bool) (hR : dropR C i = (left, ok)) (C2 : List Nat) (hC2 : C2 = dropS C i) (z : Int) (hz : z = (left : Int)) :
    Calls Try.prog 13 #[.pointer (some ⟨b, 0, none⟩), .int .i64 i] w fun e w' => e = .returned (.tuple #[.int .i64 z, .bool ok]) ∧ Pr Ti X w' b gr cr n C2 D ∧ Kept (fun k => ¬ X k) w w' := by
  subst hz
  refine (tb_drop R h.tb i hi hC left ok hR C2 hC2).mono ?_
  rintro e w' ⟨e1, e2, e3⟩
  exact ⟨e1, ⟨e2, ownsRow_other h.row e3 (fun k e f => f (.inr (by cases e; rfl))), h.ne⟩, e3.mono (fun k _ e f => e (.inl f))⟩
theorem pr_add {Ti : TbP} (R : Rfs Ti) {X : Nat → Prop} {w : World} {b gr cr n : Nat} {C D : List Nat} (h : Pr Ti X w b gr cr n C D) (s : Option Addr) (m cap : Nat) (l : List Int) (hl : l.length = m) (hm : m ≤ 100000) (ha : IntsAt w s l) (h64 : ∀ x ∈ l, I64 x) (hX : l ≠ [] → ∀ y, s = some y → X y.block) (hC : sumC C ≤ 1000000) (ok : Bool) (hok : ok = okZ C l) (C2 : List Nat) (hC2 : C2 = addS C l) :
    Calls Try.prog 9 #[.pointer (some ⟨b, 0, none⟩), .slice s m cap] w fun e w' => e = .returned (.bool ok) ∧ Pr Ti X w' b gr cr n C2 D ∧ Kept (fun k => ¬ X k) w w' := by
  refine (tb_add R h.tb s m cap l hl hm ha h64 (fun hne y hy => .inl (hX hne y hy)) hC ok hok C2 hC2).mono ?_
  rintro e w' ⟨e1, e2, e3⟩
  exact ⟨e1, ⟨e2, ownsRow_other h.row e3 (fun k e f => f (.inr (by cases e; rfl))), h.ne⟩, e3.mono (fun k _ e f => e (.inl f))⟩
theorem sum_dropS (C : List Nat) (i : Int) : sumC (dropS C i) ≤ sumC C := by
  unfold dropS
  split
  · rename_i h
    have h1 : i.toNat < C.length := by have := h.1; unfold isSec at this; omega
    have := sumC_set (C.getD i.toNat 0 - 1) h1
    omega
  · exact Nat.le_refl _
theorem sum_addS (C : List Nat) (l : List Int) : sumC (addS C l) ≤ sumC C + l.length := by
  unfold addS
  split
  · rename_i h
    rw [sumC_add l C ((okZ_iff _ _).1 h)]
    exact Nat.le_refl _
  · omega

end Go.Proofs.Ytcbenfmffedioaa
