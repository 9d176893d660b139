/- The texts DkActs, DkLast, DkOne, DkRow, one behind the other. -/
import Derived.Test.YtjmeneddhalodaaPart05
import Derived.Test.YtjmeneddhalodaaPart01
import Derived.Deep.Grids
import Derived.Test.YtjmeneddhalodaaPart02

/- A slice of calls with slices inside that came in. -/
namespace Go.Proofs.Ytjmeneddhalodaa
set_option linter.unusedVariables false
set_option linter.unusedSimpArgs false
open Go.ChangeShapes Go.WideShapes Go.ChangeAt Go.RowKit Go.Deep Dg

instance : Inhabited Act1 := ⟨⟨0, 0, 0, [], []⟩⟩
theorem Try.cellsAct : Try.prog.cellsOf 84 = 5 := by kernel_rfl
theorem Try.cellsI : Try.prog.cellsOf 3 = 1 := by kernel_rfl
theorem Try.cellsBy : Try.prog.cellsOf 30 = 1 := by kernel_rfl
theorem Try.cellsBo : Try.prog.cellsOf 22 = 1 := by kernel_rfl
theorem cells5_of {w : World} {base : Nat} {a : Addr} {cs : List Value} (h : w.cells? base a 5 = some cs) : ∃ x y z u v, cs = [x, y, z, u, v] ∧ w.cell? a = some x ∧ w.cell? (a.add 1) = some y ∧ w.cell? (a.add 2) = some z ∧ w.cell? (a.add 3) = some u ∧ w.cell? (a.add 4) = some v := by
  unfold World.cells? at h
  split at h
  · have e : List.range 5 = [0, 1, 2, 3, 4] := by decide
    rw [e] at h
    simp only [List.mapM_cons, List.mapM_nil, Option.bind_eq_bind, Option.pure_def] at h
    have e0 : a.add 0 = a := by simp [Addr.add]
    rw [e0] at h
    cases h0 : w.cell? a with
    | none => simp [h0] at h
    | some x =>
      cases h1 : w.cell? (a.add 1) with
      | none => simp [h0, h1] at h
      | some y =>
        cases h2 : w.cell? (a.add 2) with
        | none => simp [h0, h1, h2] at h
        | some z =>
          cases h3 : w.cell? (a.add 3) with
          | none => simp [h0, h1, h2, h3] at h
          | some u =>
            cases h4 : w.cell? (a.add 4) with
            | none => simp [h0, h1, h2, h3, h4] at h
            | some v =>
              simp [h0, h1, h2, h3, h4] at h
              exact ⟨x, y, z, u, v, h.symm, rfl, rfl, rfl, rfl, rfl⟩
  · cases h
/-- The bytes of a row that came in. -/
theorem IsRow.all {w : World} {a : Option Addr} {len cap : Nat} {zs : List Int} (hr : IsRow .u8 w a len cap zs) : ∃ l : List Nat, l.length = len ∧ (∀ x ∈ l, x < 256) ∧ Bs w a cap l ∧ (l ≠ [] → ∀ y, a = some y → y.block < w.heap.size) := by
  obtain ⟨l, h1, h2, h3, -⟩ := Bs.of_row (n := len) hr
  refine ⟨l, by omega, h2, h3, fun hne y hy => ?_⟩
  exact SlAt.lt h3.at_ hne y.block (by rw [hy]; rfl)
set_option maxRecDepth 100000 in
theorem open_actsK {H : Type} {enc : TypeId × Value → H} {W : World} {a : Option Addr} {len cap : Nat} {d : DataW H} {p : List MemPlace}
    (h : DataW.Trod enc Try.prog W 0 (fun _ => true) true 49 (.slice a len cap) d p) : len ≤ maxLen ∧ ∃ L : List Act1, L.length = len ∧ ActsK W W.heap.size a L := by
  obtain ⟨fuel, hf⟩ := h
  rcases open_slice Try.underlying49 hf with ⟨hcs, _⟩ | ⟨x, l, c, m, n, D, Pl, hcs, _, hl, hm, hmm, _, hcell⟩
  · simp [Value.cells] at hcs
    obtain ⟨rfl, rfl, rfl⟩ := hcs
    exact ⟨by decide, [], rfl, fun j x hx => by simp at hx⟩
  · simp [Value.cells] at hcs
    obtain ⟨rfl, rfl, rfl⟩ := hcs
    refine ⟨by omega, ?_⟩
    have hlm : len ≤ m := by rw [hmm]; split <;> omega
    have key : ∀ i, i < len → ∃ t : Act1, ActAt W W.heap.size (some x) i t := by
      intro i hi
      have hx : x.spot = none := by
        obtain ⟨cs0, hc0, _⟩ := hcell 0 (by omega)
        rw [Try.cellsAct] at hc0
        obtain ⟨_, _, _, _, _, _, h0, _, _⟩ := cells5_of hc0
        have := spot_of_cell h0
        simpa [Addr.add] using this
      obtain ⟨b, off, s⟩ := x
      simp at hx
      subst hx
      obtain ⟨cs, hc, ht⟩ := hcell i (by omega)
      rw [Try.cellsAct] at hc
      obtain ⟨y0, y1, y2, y3, y4, rfl, h0, h1, h2, h3, h4⟩ := cells5_of hc
      have hadd : (⟨b, off, none⟩ : Addr).add (i * 5) = ⟨b, off + i * 5, none⟩ := by simp [Addr.add]
      rw [hadd] at h0 h1 h2 h3 h4
      have ha : ∀ k, (⟨b, off + i * 5, none⟩ : Addr).add k = ⟨b, off + i * 5 + k, none⟩ := fun k => by simp [Addr.add]
      rw [ha] at h1 h2 h3 h4
      obtain ⟨xs, n', _, _, _, hxl, hff⟩ := DataW.trod_struct Try.underlying84 ht
      have g0 : DataW.trod enc Try.prog W 0 (fun _ => true) true n' 3 (List.take (Try.prog.cellsOf 3) (List.drop 0 [y0, y1, y2, y3, y4])) = xs[0]? := hff 0 _ rfl
      have g1 : DataW.trod enc Try.prog W 0 (fun _ => true) true n' 3 (List.take (Try.prog.cellsOf 3) (List.drop 1 [y0, y1, y2, y3, y4])) = xs[1]? := hff 1 _ rfl
      have g2 : DataW.trod enc Try.prog W 0 (fun _ => true) true n' 3 (List.take (Try.prog.cellsOf 3) (List.drop 2 [y0, y1, y2, y3, y4])) = xs[2]? := hff 2 _ rfl
      have g3 : DataW.trod enc Try.prog W 0 (fun _ => true) true n' 30 (List.take (Try.prog.cellsOf 30) (List.drop 3 [y0, y1, y2, y3, y4])) = xs[3]? := hff 3 _ rfl
      have g4 : DataW.trod enc Try.prog W 0 (fun _ => true) true n' 22 (List.take (Try.prog.cellsOf 22) (List.drop 4 [y0, y1, y2, y3, y4])) = xs[4]? := hff 4 _ rfl
      have hx5 : xs.length = 5 := hxl
      match xs, hx5 with
      | [z0, z1, z2, z3, z4], _ =>
        simp only [List.getElem?_cons_zero, List.getElem?_cons_succ] at g0 g1 g2 g3 g4
        rw [Try.cellsI] at g0 g1 g2
        rw [Try.cellsBy] at g3
        rw [Try.cellsBo] at g4
        obtain ⟨n0, e0, _, w0⟩ := DataW.trod_int Try.underlying3 g0
        obtain ⟨n1, e1, _, w1⟩ := DataW.trod_int Try.underlying3 g1
        obtain ⟨n2, e2, _, w2⟩ := DataW.trod_int Try.underlying3 g2
        simp at e0 e1 e2
        subst e0 e1 e2
        have k3 : ∃ ba bl bc zs, y3 = .slice ba bl bc ∧ IsRow .u8 W ba bl bc zs := by
          rcases open_ints Try.underlying30 Try.underlying5 (by kernel_rfl) g3 with ⟨hcs, _⟩ | ⟨x', l', c', zs, hcs, _, hl', hm', hz', _, hcell', hwz'⟩
          · simp at hcs
            exact ⟨none, 0, 0, [], hcs, .inl ⟨rfl, rfl, rfl, rfl⟩⟩
          · simp at hcs
            exact ⟨some x', l', c', zs, hcs, .inr ⟨_, rfl, hl', hm', by simpa using hz', hcell', hwz'⟩⟩
        have k4 : ∃ (ka : Option Addr) (kl kc : Nat) (K : List Bool), y4 = .slice ka kl kc ∧ K.length = kl ∧ BlAt W ka K ∧ kl ≤ kc ∧ kc ≤ maxLen := by
          rcases open_bools Try.underlying22 Try.underlying4 (by kernel_rfl) g4 with ⟨hcs, _⟩ | ⟨x', l', c', B, hcs, _, hl', hm', _, hcell'⟩
          · simp at hcs
            exact ⟨none, 0, 0, [], hcs, rfl, BlAt.nil _ _, by decide, by decide⟩
          · simp at hcs
            refine ⟨some x', l', c', (List.range l').map B, hcs, by simp, fun j u hu => ?_, hl', hm'⟩
            rw [List.getElem?_map] at hu
            obtain ⟨k, hk, rfl⟩ := Option.map_eq_some_iff.1 hu
            have hjk : j < l' ∧ k = j := by
              rw [List.getElem?_eq_some_iff] at hk
              obtain ⟨h5, h6⟩ := hk
              simp at h5 h6
              exact ⟨h5, h6.symm⟩
            obtain ⟨hj, rfl⟩ := hjk
            have hsp : x'.spot = none := by
              have := spot_of_cell (hcell' 0 (by omega))
              simpa [Addr.add] using this
            obtain ⟨b', off', s'⟩ := x'
            simp at hsp
            subst hsp
            have e := hcell' k (by omega)
            have hadd' : (⟨b', off', none⟩ : Addr).add k = ⟨b', off' + k, none⟩ := by simp [Addr.add]
            rw [hadd'] at e
            exact ⟨b', off', rfl, e⟩
        obtain ⟨ba, bl, bc, zs, rfl, hrow⟩ := k3
        obtain ⟨ka, kl, kc, K, rfl, hKl, hKB, hk1, hk2⟩ := k4
        obtain ⟨l, hll, h256, hBs, hBx⟩ := hrow.all
        refine ⟨⟨n0, n1, n2, l, K⟩, b, off, ba, bc, ka, kc, rfl, World.block_lt_of_cell? W _ h0, ⟨h0, h1, h2, by rw [hll]; exact h3, by rw [hKl]; exact h4⟩, ⟨wf_i64 w0, wf_i64 w1, wf_i64 w2⟩, ⟨hBs, h256, hBx⟩, hKB, fun hne y hy => hKB.lt hne y hy, by rw [hKl]; exact hk1, by unfold maxLen at hk2; omega⟩
    obtain ⟨f, hf'⟩ := choose_lt key
    refine ⟨(List.range len).map f, by simp, fun j t ht => ?_⟩
    rw [List.getElem?_map] at ht
    obtain ⟨k, hk, rfl⟩ := Option.map_eq_some_iff.1 ht
    rw [List.getElem?_eq_some_iff] at hk
    obtain ⟨h5, h6⟩ := hk
    simp at h5 h6
    subst h6
    exact hf' j h5

end Go.Proofs.Ytjmeneddhalodaa

/- Which bytes a sector has behind writes, flushes, crashes; no program. -/
namespace Go.Proofs.Ytjmeneddhalodaa
set_option linter.unusedVariables false
set_option linter.unusedSimpArgs false
open Go.RowKit Dg

theorem sec_keep_same {B b : List Nat} {q : Nat} (h : q * 128 + 128 ≤ B.length) (hb : b.length = 128) : sec (keepB B (q, b)) q = b := by
  unfold sec keepB into
  have e : (B.take (q * 128)).length = q * 128 := by simp; omega
  show (List.drop (q * 128) (B.take (q * 128) ++ (b ++ B.drop (q * 128 + b.length)))).take 128 = b
  rw [List.drop_append, e, Nat.sub_self, List.drop_zero, List.drop_of_length_le (by omega), List.nil_append, List.take_append, hb, Nat.sub_self, List.take_zero, List.append_nil, List.take_of_length_le (by omega)]
theorem sec_keep_other {B b : List Nat} {q k : Nat} (h : q * 128 + 128 ≤ B.length) (hb : b.length = 128) (hk : k * 128 + 128 ≤ B.length) (hne : q ≠ k) : sec (keepB B (q, b)) k = sec B k := by
  have hl : (keepB B (q, b)).length = B.length := length_keepB h hb
  apply List.ext_getElem?
  intro j
  unfold sec
  rw [List.getElem?_take, List.getElem?_take]
  split
  · rename_i hj
    rw [List.getElem?_drop, List.getElem?_drop]
    unfold keepB into
    show (B.take (q * 128) ++ (b ++ B.drop (q * 128 + b.length)))[k * 128 + j]? = _
    have e : (B.take (q * 128)).length = q * 128 := by simp; omega
    rcases Nat.lt_or_ge k q with hkq | hkq
    · rw [List.getElem?_append_left (by omega), List.getElem?_take, if_pos (by omega)]
    · rw [List.getElem?_append_right (by omega), e, List.getElem?_append_right (by omega), List.getElem?_drop]
      congr 1
      omega
  · rfl
/-- The last write of sector k that is kept, of the first j. -/
def lastK (W : List (Nat × List Nat)) (f : Nat → Bool) (k : Nat) : Nat → Option (List Nat)
  | 0 => none
  | j + 1 => match W[j]? with
    | some p => if f j = true ∧ p.1 = k then some p.2 else lastK W f k j
    | none => lastK W f k j
theorem lastK_all (W : List (Nat × List Nat)) (k : Nat) : ∀ j, lastK W (fun _ => true) k j = lastW W k j
  | 0 => rfl
  | j + 1 => by
    unfold lastK lastW
    rw [lastK_all W k j]
    cases W[j]? with
    | none => rfl
    | some p => simp
theorem sec_keepTo {s : Sk} (h : s.Fine) (f : Nat → Bool) (k : Nat) (hk : k * 128 + 128 ≤ s.B.length) : ∀ j, j ≤ s.W.length → sec (keepTo s.B s.W f j) k = (lastK s.W f k j).getD (sec s.B k)
  | 0, _ => rfl
  | j + 1, hj => by
    have ih := sec_keepTo h f k hk j (by omega)
    obtain ⟨h1, -⟩ := keepTo_fine h f j (by omega)
    have hp : s.W[j]? = some s.W[j] := List.getElem?_eq_getElem (by omega)
    obtain ⟨h3, h4, -⟩ := h.w _ (List.getElem_mem (by omega : j < s.W.length))
    have e : s.W.getD j (0, []) = s.W[j] := by rw [List.getD_eq_getElem?_getD, hp]; rfl
    unfold keepTo lastK
    rw [hp]
    by_cases hf : f j = true
    · rw [if_pos hf, e]
      by_cases hq : s.W[j].1 = k
      · show _ = (if f j = true ∧ s.W[j].1 = k then some s.W[j].2 else _).getD _
        rw [if_pos ⟨hf, hq⟩]
        have := sec_keep_same (B := keepTo s.B s.W f j) (b := s.W[j].2) (q := s.W[j].1) (by rw [h1]; exact h3) h4
        rw [← hq]
        exact this
      · show _ = (if f j = true ∧ s.W[j].1 = k then some s.W[j].2 else _).getD _
        rw [if_neg (fun x => hq x.2), ← ih]
        exact sec_keep_other (b := s.W[j].2) (by rw [h1]; exact h3) h4 (by rw [h1]; exact hk) hq
    · rw [if_neg hf, ih]
      show _ = (if f j = true ∧ s.W[j].1 = k then some s.W[j].2 else _).getD _
      rw [if_neg (fun x => hf x.1)]
/-- A flush leaves what is read as it was. -/
theorem now_flush {s : Sk} (h : s.Fine) (ha : s.arm.dead = false) (k : Nat) (hk : k * 128 + 128 ≤ s.B.length) : s.flushS.now k = s.now k := by
  unfold Sk.flushS
  rw [if_neg (by rw [ha]; decide)]
  unfold Sk.now
  show (lastW [] k 0).getD (sec (keepTo s.B s.W (fun _ => true) s.W.length) k) = _
  rw [sec_keepTo h _ k hk _ (Nat.le_refl _), lastK_all]
  rfl
/-- What a crash leaves. -/
theorem now_crash {s : Sk} (h : s.Fine) (keep : List Bool) (k : Nat) (hk : k * 128 + 128 ≤ s.B.length) : (s.crashS keep).now k = (lastK s.W (fun j => keep.getD j false) k s.W.length).getD (sec s.B k) := by
  unfold Sk.crashS Sk.now
  show (lastW [] k 0).getD (sec (keepTo s.B s.W (fun j => keep.getD j false) s.W.length) k) = _
  rw [sec_keepTo h _ k hk _ (Nat.le_refl _)]
  rfl
theorem lastK_append (W : List (Nat × List Nat)) (p : Nat × List Nat) (f : Nat → Bool) (k : Nat) : ∀ j, j ≤ W.length → lastK (W ++ [p]) f k j = lastK W f k j
  | 0, _ => rfl
  | j + 1, hj => by
    unfold lastK
    rw [lastK_append W p f k j (by omega), List.getElem?_append_left (by omega)]
theorem lastK_push (W : List (Nat × List Nat)) (p : Nat × List Nat) (f : Nat → Bool) (k : Nat) : lastK (W ++ [p]) f k (W.length + 1) = if f W.length = true ∧ p.1 = k then some p.2 else lastK W f k W.length := by
  conv => lhs; unfold lastK
  rw [List.getElem?_append_right (Nat.le_refl _), Nat.sub_self]
  show (if f W.length = true ∧ p.1 = k then some p.2 else lastK (W ++ [p]) f k W.length) = _
  rw [lastK_append W p f k _ (Nat.le_refl _)]

end Go.Proofs.Ytjmeneddhalodaa

/- One disk, and blocks that are none of its. -/
namespace Go.Proofs.Ytjmeneddhalodaa
set_option linter.unusedVariables false
set_option linter.unusedSimpArgs false
open Go.RowKit Dg

/-- The disk d has s; the blocks X are none of its. -/
def One (Di : DiP) (X : Nat → Prop) (w : World) (d : Nat) (s : Sk) : Prop := ∃ F G : Nat → Prop, Di w d F G s ∧ ∀ k, X k → ¬ G k ∧ k < w.heap.size
theorem One.fine {Di : DiP} (C : Dsk Di) {X : Nat → Prop} {w : World} {d : Nat} {s : Sk} (h : One Di X w d s) : s.Fine := by
  obtain ⟨F, G, h1, -⟩ := h
  exact (C.arms h1).1
theorem One.less {Di : DiP} {X Y : Nat → Prop} {w : World} {d : Nat} {s : Sk} (h : One Di X w d s) (hY : ∀ k, Y k → X k) : One Di Y w d s := by
  obtain ⟨F, G, h1, h2⟩ := h
  exact ⟨F, G, h1, fun k e => h2 k (hY k e)⟩
/-- A step that turns none of its. -/
theorem One.keep {Di : DiP} (C : Dsk Di) {X Y : Nat → Prop} {w w' : World} {d : Nat} {s : Sk} (h : One Di X w d s) (hk : Kept (fun k => X k ∨ w.heap.size ≤ k) w w') (hY : ∀ k, Y k → X k ∨ (w.heap.size ≤ k ∧ k < w'.heap.size)) : One Di Y w' d s := by
  obtain ⟨F, G, h1, h2⟩ := h
  have a1 := C.arms h1
  refine ⟨F, G, C.keep h1 hk (fun k e e2 => ?_), fun k e => ?_⟩
  · rcases e2 with e2 | e2
    · exact (h2 k e2).1 e
    · have := a1.2.2 k e; omega
  · rcases hY k e with e1 | ⟨e1, e2⟩
    · exact ⟨(h2 k e1).1, Nat.lt_of_lt_of_le (h2 k e1).2 hk.size⟩
    · exact ⟨fun f => by have := a1.2.2 k f; omega, e2⟩
theorem One.draws {Di : DiP} (C : Dsk Di) {X : Nat → Prop} {w : World} {d : Nat} {s : Sk} (h : One Di X w d s) (n : Nat) : One Di X (w.drewN n) d s :=
  h.keep C ⟨rfl, rfl, rfl, Nat.le_refl _, fun _ _ _ => rfl⟩ (fun k e => .inl e)
/-- A call. -/
theorem One.call {Di : DiP} (C : Dsk Di) {X : Nat → Prop} {w : World} {d f : Nat} {s s' : Sk} {args : Array Value} {P : Ending → Prop} (h : One Di X w d s)
    (hc : ∀ F G : Nat → Prop, Di w d F G s → (∀ k, X k → ¬ F k) → Calls Try.prog f args w fun e w' => P e ∧ Moved Di w w' d F G s') :
    Calls Try.prog f args w fun e w' => P e ∧ One Di X w' d s' ∧ Kept (fun k => ¬ X k) w w' := by
  obtain ⟨F, G, h1, h2⟩ := h
  have a1 := C.arms h1
  refine (hc F G h1 (fun k e f => (h2 k e).1 (a1.2.1 k f))).mono ?_
  rintro e w' ⟨hP, F', G', m1, m2, m3, m4⟩
  refine ⟨hP, ⟨F', G', m1, fun k e => ⟨fun f => ?_, Nat.lt_of_lt_of_le (h2 k e).2 m2.size⟩⟩, m2.mono (fun i _ e e2 => (h2 i e2).1 (a1.2.1 i e))⟩
  rcases m4 k f with f1 | f1
  · exact (h2 k e).1 f1
  · have := (h2 k e).2; omega
theorem one_new {Di : DiP} (C : Dsk Di) (w : World) (n : Nat) (h1 : 1 ≤ n) (h2 : n ≤ 4096) : Calls Try.prog 10 #[.int .i64 (n : Int)] w fun e w' => ∃ b : Nat, e = .returned (.tuple #[.pointer (some ⟨b, 0, none⟩), .int .i64 0]) ∧ One Di (fun k => k < w.heap.size) w' b (newS n) ∧ Below w.heap.size w w' :=
  (C.newB w n h1 h2).mono fun e w' ⟨b, F, G, e1, e2, e3, e4⟩ => ⟨b, e1, ⟨F, G, e2, fun k hk => ⟨fun f => by have := e3 k f; omega, Nat.lt_of_lt_of_le hk e4.size⟩⟩, e4⟩
theorem one_write {Di : DiP} (C : Dsk Di) {X : Nat → Prop} {w : World} {d : Nat} {s : Sk} (h : One Di X w d s) (i : Int) (hi : I64 i) (g n cap : Nat) (l : List Nat) (hn : l.length = n) (hb : Bs w (some ⟨g, 0, none⟩) cap l) (h256 : ∀ x ∈ l, x < 256) (hnl : n ≤ 1000000) (hX : X g) (hc : s.writes ≤ 1000000) (hW : s.W.length ≤ 100000) (R : Int) (hR : R = s.writeR i l) (s2 : Sk) (hs2 : s2 = s.writeS i l) :
    Calls Try.prog 12 #[.pointer (some ⟨d, 0, none⟩), .int .i64 i, .slice (some ⟨g, 0, none⟩) n cap] w fun e w' => e = .returned (.int .i64 R) ∧ One Di X w' d s2 ∧ Kept (fun k => ¬ X k) w w' := by
  subst hR hs2
  exact h.call C (P := fun e => e = .returned (.int .i64 (s.writeR i l))) (fun F G hD hXF => C.writeB w d F G s i _ n cap l hD hi hn hb h256 hnl (fun _ y hy => by cases hy; exact hXF g hX) hc hW)
theorem one_stop {Di : DiP} (C : Dsk Di) (CS : DStop Di) {X : Nat → Prop} {w : World} {d : Nat} {s : Sk} (h : One Di X w d s) (a : Int) (ha : I64 a) :
    Calls Try.prog 11 #[.pointer (some ⟨d, 0, none⟩), .int .i64 a] w fun e w' => e = .returned (.tuple #[]) ∧ One Di X w' d (s.stopS a) ∧ Kept (fun k => ¬ X k) w w' :=
  h.call C (P := fun e => e = .returned (.tuple #[])) (fun F G hD hXF => CS w d F G s a hD ha)
theorem one_flush {Di : DiP} (C : Dsk Di) (CF : DFlush Di) {X : Nat → Prop} {w : World} {d : Nat} {s : Sk} (h : One Di X w d s) (hc : s.flushes ≤ 1000000) (hW : s.W.length ≤ 100000) (R : Int) (hR : R = s.flushR) (s2 : Sk) (hs2 : s2 = s.flushS) :
    Calls Try.prog 16 #[.pointer (some ⟨d, 0, none⟩)] w fun e w' => e = .returned (.int .i64 R) ∧ One Di X w' d s2 ∧ Kept (fun k => ¬ X k) w w' := by
  subst hR hs2
  exact h.call C (P := fun e => e = .returned (.int .i64 s.flushR)) (fun F G hD hXF => CF w d F G s hD hc hW)
theorem one_crash {Di : DiP} (C : Dsk Di) {X : Nat → Prop} {w : World} {d : Nat} {s : Sk} (h : One Di X w d s) (a : Option Addr) (n cap : Nat) (l : List Bool) (hn : l.length = n) (hb : BlAt w a l) (hnl : n ≤ 1000000) (hX : l ≠ [] → ∀ y, a = some y → X y.block) (hW : s.W.length ≤ 100000) (s2 : Sk) (hs2 : s2 = s.crashS l) :
    Calls Try.prog 18 #[.pointer (some ⟨d, 0, none⟩), .slice a n cap] w fun e w' => e = .returned (.tuple #[]) ∧ One Di X w' d s2 ∧ Kept (fun k => ¬ X k) w w' := by
  subst hs2
  exact h.call C (P := fun e => e = .returned (.tuple #[])) (fun F G hD hXF => C.crashB w d F G s a n cap l hD hn hb hnl (fun hne y hy => hXF _ (hX hne y hy)) hW)
theorem one_poke {Di : DiP} (C : Dsk Di) (CP : DPoke Di) {X : Nat → Prop} {w : World} {d : Nat} {s : Sk} (h : One Di X w d s) (i dg : Int) (hi : I64 i) (hd : I64 dg) (hW : s.W.length ≤ 100000) (R : Bool) (hR : R = decide (s.pokes i dg)) (s2 : Sk) (hs2 : s2 = s.pokeS i dg) :
    Calls Try.prog 22 #[.pointer (some ⟨d, 0, none⟩), .int .i64 i, .int .i64 dg] w fun e w' => e = .returned (.bool R) ∧ One Di X w' d s2 ∧ Kept (fun k => ¬ X k) w w' := by
  subst hR hs2
  exact h.call C (P := fun e => e = .returned (.bool (decide (s.pokes i dg)))) (fun F G hD hXF => CP w d F G s i dg hD hi hd hW)
theorem one_read {Di : DiP} (C : Dsk Di) (CR : DRead Di) {X : Nat → Prop} {w : World} {d : Nat} {s : Sk} (h : One Di X w d s) (i : Int) (hi : I64 i) (hc : s.reads ≤ 1000000) (hW : s.W.length ≤ 100000) (R : List Nat) (E : Int) (hR : (R, E) = s.readR i) (s2 : Sk) (hs2 : s2 = s.readS i) :
    Calls Try.prog 15 #[.pointer (some ⟨d, 0, none⟩), .int .i64 i] w fun e w' => ∃ v, e = .returned (.tuple #[v, .int .i64 E]) ∧ WholeB w' w.heap.size v R ∧ One Di (fun k => X k ∨ v.ownBlock = some k) w' d s2 ∧ Kept (fun k => ¬ X k) w w' := by
  obtain ⟨F, G, h1, h2⟩ := h
  have a1 := C.arms h1
  refine (CR w d F G s i h1 hi hc hW).mono ?_
  rintro e w' ⟨v, rfl, hv, F', G', m1, m2, m3, m4, m5⟩
  rw [← hR] at hv
  refine ⟨v, by rw [← hR], hv, ⟨F', G', by rw [hs2]; exact m1, fun k e => ?_⟩, m2.mono (fun i _ e e2 => (h2 i e2).1 (a1.2.1 i e))⟩
  rcases e with e | e
  · refine ⟨fun f => ?_, Nat.lt_of_lt_of_le (h2 k e).2 m2.size⟩
    rcases m4 k f with f1 | f1
    · exact (h2 k e).1 f1
    · have := (h2 k e).2; omega
  · exact ⟨m5 k e, (World.ownsRow.lt hv.own k e).2⟩
theorem one_dead {Di : DiP} (C : Dsk Di) (CD : DDead Di) {X : Nat → Prop} {w : World} {d : Nat} {s : Sk} (h : One Di X w d s) (x : Bool) (hx : x = s.dead) :
    Calls Try.prog 14 #[.pointer (some ⟨d, 0, none⟩)] w fun e w' => e = .returned (.bool x) ∧ ∃ n, w' = w.drewN n := by
  obtain ⟨F, G, h1, -⟩ := h
  exact CD w d F G s x h1 hx
theorem one_wait {Di : DiP} (C : Dsk Di) {X : Nat → Prop} {w : World} {d : Nat} {s : Sk} (h : One Di X w d s) (x : Nat) (hx : x = s.W.length) :
    Calls Try.prog 17 #[.pointer (some ⟨d, 0, none⟩)] w fun e w' => e = .returned (.int .i64 (x : Int)) ∧ ∃ n, w' = w.drewN n := by
  obtain ⟨F, G, h1, -⟩ := h
  exact C.waitB w d F G s x h1 hx
theorem one_image {Di : DiP} (C : Dsk Di) {X : Nat → Prop} {w : World} {d : Nat} {s : Sk} (h : One Di X w d s) :
    Calls Try.prog 25 #[.pointer (some ⟨d, 0, none⟩)] w fun e w' => ∃ v, e = .returned v ∧ OwnBytes w' w.heap.size v s.B ∧ One Di (fun k => X k ∨ v.ownBlock = some k) w' d s ∧ Kept (fun _ => False) w w' := by
  obtain ⟨F, G, h1, h2⟩ := h
  have a1 := C.arms h1
  refine (C.imageB w d F G s h1).mono ?_
  rintro e w' ⟨v, rfl, ho, hd, hk⟩
  refine ⟨v, rfl, ho, ⟨F, G, hd, fun k e => ?_⟩, hk⟩
  rcases e with e | e
  · exact ⟨(h2 k e).1, Nat.lt_of_lt_of_le (h2 k e).2 hk.size⟩
  · have e5 := World.ownsRow.lt ho k e
    exact ⟨fun f => by have := a1.2.2 k f; omega, e5.2⟩
/-- A disk that was just crashed is alive, and nothing waits. -/
theorem crash_live {s : Sk} (h : s.Fine) (keep : List Bool) : (s.crashS keep).dead = false ∧ (s.crashS keep).stop = none ∧ (s.crashS keep).W = [] ∧ (s.crashS keep).B.length = s.B.length ∧ (s.crashS keep).reads = s.reads ∧ (s.crashS keep).writes = s.writes ∧ (s.crashS keep).flushes = s.flushes := ⟨rfl, rfl, rfl, (crashS_len h keep).1, rfl, rfl, rfl⟩
theorem live_arm {s : Sk} (hd : s.dead = false) (hs : s.stop = none) : s.arm = s := by unfold Sk.arm; rw [hs]; rfl
theorem live_write {s : Sk} (hd : s.dead = false) (hs : s.stop = none) {k : Nat} (hk : k * 128 + 128 ≤ s.B.length) {l : List Nat} (hl : l.length = 128) : s.writeR (k : Int) l = 0 ∧ s.writeS (k : Int) l = { s with W := s.W ++ [(k, l)], writes := s.writes + 1 } := by
  have hf : s.fits (k : Int) := ⟨by omega, by omega⟩
  have hno : ¬ (¬ s.fits (k : Int) ∨ l.length ≠ 128) := fun e => by rcases e with e | e; exact e hf; exact e hl
  unfold Sk.writeR Sk.writeS
  rw [if_neg hno, if_neg hno, live_arm hd hs]
  refine ⟨if_neg (by rw [hd]; decide), (if_neg (by rw [hd]; decide)).trans ?_⟩
  have e : s.stop.map (· - 1) = s.stop := by rw [hs]; rfl
  rw [e, Int.toNat_natCast]
theorem live_read {s : Sk} (hd : s.dead = false) {k : Nat} (hk : k * 128 + 128 ≤ s.B.length) : (s.now k, (0 : Int)) = s.readR (k : Int) ∧ s.readS (k : Int) = { s with reads := s.reads + 1 } := by
  have hf : s.fits (k : Int) := ⟨by omega, by omega⟩
  unfold Sk.readR Sk.readS
  refine ⟨?_, if_pos ⟨hf, hd⟩⟩
  rw [if_neg (fun x => x hf), if_neg (by rw [hd]; decide), Int.toNat_natCast]
theorem live_flush {s : Sk} (hd : s.dead = false) (hs : s.stop = none) : s.flushR = 0 := by unfold Sk.flushR; rw [live_arm hd hs, hd]; rfl

/-- A row of one byte that was just built. -/
theorem lit_one (w : World) (c : Nat) : Bs (w.alloc (.cells #[.int .u8 (c : Int)] 5)) (some ⟨w.heap.size, 0, none⟩) 1 [c] := by
  refine Bs.own (base := w.heap.size) ?_
  exact own_new w w.heap.size #[.int .u8 (c : Int)] 1 [c] rfl rfl (by decide) (Nat.le_refl _)
/-- A sector that begins with some bytes. -/
def fullL (l : List Nat) : List Nat := over l (List.replicate 128 0)
theorem length_fullL (l : List Nat) : (fullL l).length = 128 := by unfold fullL; rw [length_over, List.length_replicate]
theorem fullL_lt {l : List Nat} (h : ∀ x ∈ l, x < 256) : ∀ x ∈ fullL l, x < 256 := by
  intro x hx
  unfold fullL over at hx
  rcases List.mem_append.1 hx with h5 | h5
  · exact h x (List.mem_of_mem_take h5)
  · have := (List.mem_replicate.1 (List.mem_of_mem_drop h5)).2; omega
theorem fullL_one (c : Nat) : (fullL [c])[0]? = some c := by
  unfold fullL over
  rw [List.length_replicate]
  rfl
/-- 'full' beside a disk. -/
theorem one_full {Di : DiP} (C : Dsk Di) {X : Nat → Prop} {w : World} {d : Nat} {s : Sk} (h : One Di X w d s) (a : Option Addr) (n cap : Nat) (l : List Nat) (hn : l.length = n) (hb : Bs w a cap l) :
    Calls Try.prog 13 #[.slice a n cap] w fun e w' => ∃ g, e = .returned (.slice (some ⟨g, 0, none⟩) 128 128) ∧ Bs w' (some ⟨g, 0, none⟩) 128 (fullL l) ∧ w'.ownsRow w.heap.size 5 1 (.slice (some ⟨g, 0, none⟩) 128 128) 128 (u8s (fullL l)) ∧ One Di (fun k => X k ∨ k = g) w' d s ∧ Below w.heap.size w w' ∧ w.heap.size ≤ g ∧ g < w'.heap.size := by
  refine (full_any w a n cap l hn hb (fullL l) rfl).mono ?_
  rintro e w' ⟨g, rfl, ho, hbl⟩
  have hg := World.ownsRow.lt ho g rfl
  refine ⟨g, rfl, ?_, ho, h.keep C (Kept.of_below hbl) (fun k e => ?_), hbl, hg.1, hg.2⟩
  · refine Bs.own (base := w.heap.size) ?_
    show World.ownsRow _ _ _ _ (.slice _ (fullL l).length _) (fullL l).length _
    rw [length_fullL]
    exact ho
  · rcases e with e | e
    · exact .inl e
    · exact .inr (by rw [e]; exact hg)

end Go.Proofs.Ytjmeneddhalodaa

/- A slice of bools that came in. -/
namespace Go.Proofs.Ytjmeneddhalodaa
set_option linter.unusedVariables false
set_option linter.unusedSimpArgs false
open Go.ChangeShapes Go.WideShapes Go.ChangeAt Go.RowKit Go.Deep Dg

theorem open_boolsB {H : Type} {enc : TypeId × Value → H} {W : World} {a : Option Addr} {len cap : Nat} {d : DataW H} {p : List MemPlace}
    (h : DataW.Trod enc Try.prog W 0 (fun _ => true) true 22 (.slice a len cap) d p) : ∃ K : List Bool, K.length = len ∧ BlAt W a K ∧ len ≤ cap ∧ cap ≤ maxLen := by
  obtain ⟨fuel, hf⟩ := h
  rcases open_bools Try.underlying22 Try.underlying4 (by kernel_rfl) hf with ⟨hcs, _⟩ | ⟨x', l', c', B, hcs, _, hl', hm', _, hcell'⟩
  · simp [Value.cells] at hcs
    obtain ⟨rfl, rfl, rfl⟩ := hcs
    exact ⟨[], rfl, BlAt.nil _ _, by decide, by decide⟩
  · simp [Value.cells] at hcs
    obtain ⟨rfl, rfl, rfl⟩ := hcs
    refine ⟨(List.range len).map B, by simp, fun j u hu => ?_, hl', hm'⟩
    rw [List.getElem?_map] at hu
    obtain ⟨k, hk, rfl⟩ := Option.map_eq_some_iff.1 hu
    have hjk : j < len ∧ k = j := by
      rw [List.getElem?_eq_some_iff] at hk
      obtain ⟨h5, h6⟩ := hk
      simp at h5 h6
      exact ⟨h5, h6.symm⟩
    obtain ⟨hj, rfl⟩ := hjk
    have hsp : x'.spot = none := by
      have := spot_of_cell (hcell' 0 (by omega))
      simpa [Addr.add] using this
    obtain ⟨b', off', s'⟩ := x'
    simp at hsp
    subst hsp
    have e := hcell' k (by omega)
    have hadd' : (⟨b', off', none⟩ : Addr).add k = ⟨b', off' + k, none⟩ := by simp [Addr.add]
    rw [hadd'] at e
    exact ⟨b', off', rfl, e⟩

end Go.Proofs.Ytjmeneddhalodaa
