/- The texts Own, Frm5, Enc4, Enc5, Rice8, Frm6, one behind the other. -/
import Derived.Test.YthkfaackkcdcoaaPart05
import Derived.Test.YthkfaackkcdcoaaPart02
import Derived.Laws.AppendOwnNone
import Derived.Laws.IdiomStrings
import Derived.Lib.AppendZeros
import Derived.Test.YthkfaackkcdcoaaPart10
import Derived.Test.YthkfaackkcdcoaaPart08

/- Rows of bytes of the call's own: cells, parts, copies; a cut slice of bytes. -/
namespace Go.Proofs.Ythkfaackkcdcoaa
set_option linter.unusedVariables false
set_option linter.unusedSimpArgs false
open Go.RowKit Dg

/-- What a cut slice of bytes is. -/
theorem cut_row {w : World} {a : Option Addr} {len cap n : Nat} {zs : List Int} (hr : IsRow .u8 w a len cap zs) :
    ∃ l : List Nat, l.length = min len n ∧ (∀ x ∈ l, x < 256) ∧ SlAt w (.slice a (min len n) cap) l ∧ len ≤ cap ∧ cap ≤ maxLen ∧ (a = none → len = 0 ∧ cap = 0) := by
  obtain ⟨l0, hl0, hl256, hsl⟩ := hr.bytes
  have hcut : len ≤ cap ∧ cap ≤ maxLen ∧ (a = none → len = 0 ∧ cap = 0) := by
    rcases hr with ⟨rfl, rfl, rfl, rfl⟩ | ⟨x, rfl, hle, hm, hz, hc, hwf⟩
    · exact ⟨Nat.le_refl _, by decide, fun _ => ⟨rfl, rfl⟩⟩
    · exact ⟨hle, hm, fun h => by cases h⟩
  exact ⟨l0.take (min len n), by simp; omega, fun x hx => hl256 x (List.mem_of_mem_take hx), hsl _ (by omega), hcut⟩
theorem SlAt.lt {w : World} {v : Value} {l : List Nat} (h : SlAt w v l) (hne : l ≠ []) : ∀ k, v.ownBlock = some k → k < w.heap.size := by
  obtain ⟨a1, c1, rfl, hc1⟩ := h
  have hpos : 0 < l.length := List.length_pos_iff.2 hne
  obtain ⟨b1, o1, rfl, e⟩ := hc1 0 l[0] (by simp)
  intro k hk
  cases hk
  exact World.block_lt_of_cell? w _ e
theorem SlAt.kept' {w w' : World} {v : Value} {l : List Nat} {F : Nat → Prop} (h : SlAt w v l) (hk : Kept F w w') (hF : l ≠ [] → ∀ k, v.ownBlock = some k → ¬ F k) : SlAt w' v l := by
  by_cases hne : l = []
  · subst hne
    obtain ⟨a1, c1, rfl, _⟩ := h
    exact ⟨a1, c1, rfl, fun j x hx => by simp at hx⟩
  · exact h.kept hk (hF hne)
theorem SlAt.drewN {w : World} {v : Value} {l : List Nat} (h : SlAt w v l) (n : Nat) : SlAt (w.drewN n) v l := h
theorem SlAt.of_row {w : World} {g : Nat} {l r : List Nat} {c : Nat} (h : RowIs w g (u8s (l ++ r))) : SlAt w (.slice (some ⟨g, 0, none⟩) l.length c) l := by
  refine ⟨some ⟨g, 0, none⟩, c, rfl, fun j x hx => ⟨g, 0, rfl, ?_⟩⟩
  have hj : j < l.length := (List.getElem?_eq_some_iff.1 hx).1
  rw [Nat.zero_add]
  exact h.cell (by rw [u8s_get, List.getElem?_append_left hj, hx]; rfl)
/-- A row of bytes of the call's own. -/
def OwnBytes (w : World) (base : Nat) (v : Value) (l : List Nat) : Prop := w.ownsRow base 5 1 v l.length (u8s l)
set_option maxHeartbeats 1000000 in
theorem copyB_any (w : World) (sv : Value) (l : List Nat) (h : SlAt w sv l) (hl : l.length ≤ 1000000) (h0 : ∀ n c, sv = .slice none n c → c = 0) :
    Calls Try.prog 16 #[sv] w fun e w' => ∃ v, e = .returned v ∧ OwnBytes w' w.heap.size v l ∧ Below w.heap.size w w' := by
  obtain ⟨i0, hi, hz0, hz1, hz2⟩ := info_parts Try.info5
  obtain ⟨a1, c1, rfl, hc1⟩ := h
  have HC : Hid (∀ j x, l[j]? = some x → ∃ b off, a1 = some ⟨b, off, none⟩ ∧ w.cell? ⟨b, off + j, none⟩ = some (.int .u8 ((x : Nat) : Int))) := hc1
  clear hc1
  by_cases hne : l = []
  · subst hne
    cases a1 with
    | none =>
      obtain rfl : c1 = 0 := h0 _ _ rfl
      go_enter Try.func16, Try.ntmps16
      go_wp2_with (at_builtin; go_must (refine wpList_append_own_none rfl _ (.tmp 3) 26 rfl w.heap.size 5 i0 1 Try.underlying26 hi (.slice none 0 0) 0 [] rfl (World.ownsRow_nil _ _ _ _) rfl ?_))
      go_ret
      exact ⟨_, rfl, World.ownsRow_nil _ _ _ _, Below.refl _ _⟩
    | some x =>
      go_enter Try.func16, Try.ntmps16
      go_wp2_with (at_builtin; go_must (refine wpList_append_own _ rfl _ (.tmp 3) 26 rfl w.heap.size 5 i0 (.int .u8 0) 1 1 Try.underlying26 hi hz0 hz1 hz2 rfl (by decide) (.slice none 0 0) 0 [] rfl (World.ownsRow_nil _ _ _ _) x 0 c1 [] rfl (by simp) ?c1 ?c2 ?b1 ?b2 (Nat.le_refl _) ?_))
      case c1 => intro j u hu; simp at hu
      case c2 => intro u hu; simp at hu
      case b1 => decide
      case b2 => decide
      intro v' w' ho' hg' _
      have H1 : Hid (OwnBytes w' w.heap.size v' []) := by show World.ownsRow _ _ _ _ _ _ _; simpa [u8s] using ho'
      have H2 : Hid (Below w.heap.size w w') := (Below.refl _ _).grown hg' (Nat.le_refl _) (fun k hk => by cases hk)
      clear ho' hg'
      go_wp2
      go_ret
      exact ⟨_, rfl, H1.out, H2.out⟩
  · have hpos : 0 < l.length := List.length_pos_iff.2 hne
    obtain ⟨b1, o1, rfl, _⟩ := HC.out 0 l[0] (by simp)
    go_enter Try.func16, Try.ntmps16
    go_wp2_with (at_builtin; go_must (refine wpList_append_own _ rfl _ (.tmp 3) 26 rfl w.heap.size 5 i0 (.int .u8 0) 1 1 Try.underlying26 hi hz0 hz1 hz2 rfl (by decide) (.slice none 0 0) 0 [] rfl (World.ownsRow_nil _ _ _ _) ⟨b1, o1, none⟩ l.length c1 (u8s l) rfl (by simp) ?c1 ?c2 ?b1 ?b2 (Nat.le_refl _) ?_))
    case c1 =>
      intro j u hu
      rw [u8s_get] at hu
      obtain ⟨x, hx, rfl⟩ := Option.map_eq_some_iff.1 hu
      obtain ⟨b, off, e, hc⟩ := HC.out j x hx
      cases e
      have hadd : (⟨b1, o1, none⟩ : Addr).add j = ⟨b1, o1 + j, none⟩ := by simp [Addr.add]
      rw [hadd]
      exact hc
    case c2 => intro u hu; simp [u8s] at hu; obtain ⟨x, _, rfl⟩ := hu; rfl
    case b1 => unfold maxLen; omega
    case b2 => omega
    intro v' w' ho' hg' _
    have H1 : Hid (OwnBytes w' w.heap.size v' l) := by show World.ownsRow _ _ _ _ _ _ _; simpa using ho'
    have H2 : Hid (Below w.heap.size w w') := (Below.refl _ _).grown hg' (Nat.le_refl _) (fun k hk => by cases hk)
    clear ho' hg'
    go_wp2
    go_ret
    exact ⟨_, rfl, H1.out, H2.out⟩
set_option maxHeartbeats 1000000 in
/-- Same at unlike bytes. -/
theorem same_not (w : World) (v1 v2 : Value) (l1 l2 : List Nat) (h1 : SlAt w v1 l1) (h2 : SlAt w v2 l2) (hll : l2.length = l1.length) (hl : l1.length ≤ 1000000) (hne : l1 ≠ l2) :
    Calls Try.prog 13 #[v1, v2] w fun e w' => e = .returned (.bool false) ∧ ∃ n, w' = w.drewN n := by
  obtain ⟨a1, c1, rfl, hc1⟩ := h1
  obtain ⟨a2, c2, rfl, hc2⟩ := h2
  rw [hll]
  have H1 : Hid (∀ j x, l1[j]? = some x → ∃ b off, a1 = some ⟨b, off, none⟩ ∧ w.cell? ⟨b, off + j, none⟩ = some (.int .u8 ((x : Nat) : Int))) := hc1
  have H2 : Hid (∀ j x, l2[j]? = some x → ∃ b off, a2 = some ⟨b, off, none⟩ ∧ w.cell? ⟨b, off + j, none⟩ = some (.int .u8 ((x : Nat) : Int))) := hc2
  have HLL : Hid (l2.length = l1.length) := hll
  have HNE : Hid (l1 ≠ l2) := hne
  clear hc1 hc2 hll hne
  go_enter Try.func13, Try.ntmps13
  go_wp2
  go_loopw [5] (fun i wr => ∃ k m : Nat, k ≤ l1.length ∧ i = .int .i64 k ∧ Hid (l1.take k = l2.take k) ∧ wr = w.drewN m) (fun i _ => l1.length - (intOf i).toNat)
  case atStart => exact ⟨0, 0, Nat.zero_le _, rfl, rfl, rfl⟩
  case round =>
    obtain ⟨k, m, hk, rfl, hsame, rfl⟩ := hrel
    by_cases hkn : k < l1.length
    · have hk2 : k < l2.length := by rw [HLL.out]; exact hkn
      obtain ⟨b1, o1, rfl, e1⟩ := H1.out k l1[k] (by simp [hkn])
      obtain ⟨b2, o2, rfl, e2⟩ := H2.out k l2[k] (by simp [hk2])
      obtain ⟨x, hx⟩ : ∃ x : Nat, x = l1[k] := ⟨_, rfl⟩
      obtain ⟨y, hy⟩ : ∃ y : Nat, y = l2[k] := ⟨_, rfl⟩
      have HX : Hid (l1[k]? = some x) := by show _ = _; rw [hx]; simp [hkn]
      have HY : Hid (l2[k]? = some y) := by show _ = _; rw [hy]; simp [hk2]
      rw [← hx] at e1
      rw [← hy] at e2
      clear hx hy H1 H2 hk2
      by_cases hxy : x = y
      · have HXY : Hid (x = y) := hxy
        subst hxy
        go_wp2
        go_region
        all_goals go_wp2
        all_goals go_roundw
        case rel => exact ⟨k + 1, m + 1, by omega, by go_num, by show _ = _; rw [List.take_add_one, List.take_add_one, hsame.out, HX.out, HY.out], rfl⟩
        case measure => simp [intOf]; omega
      · have hxy' : ((x : Int) != (y : Int)) = true := by simp; omega
        go_wp2
        go_region
        all_goals go_wp2
        all_goals go_ret
        all_goals exact ⟨rfl, m + 1, rfl⟩
    · have e : k = l1.length := by omega
      exfalso
      have := hsame.out
      rw [e, List.take_length, List.take_of_length_le (by rw [HLL.out]; exact Nat.le_refl _)] at this
      exact HNE.out this
/-- An append whose run is known, also a guarded one. -/
theorem wpList_append_go {P : Program} (w : World) {ops : Array Oper} {rest : List Oper} {o : Oper} {a : Act} {Q : Exit → Act → World → Prop} (hw : Region.wanted o (yielded ops a.tmps) = true) (s x : Operand) (t tn : TypeId)
    (ho : o.op = .call { callee := .builtin .append, args := #[s, x], argTypes := #[t, tn] }) (vs vx : Value) (hs : a.eval s = vs) (hx : a.eval x = vx)
    (v' : Value) (w' : World) (hr : (Builtin.append_ #[t, tn] o.type #[vs, vx]).run P w = .ok v' w') (h : wpList P ops Q rest (a.put o.dst v') w') : wpList P ops Q (o :: rest) a w :=
  BigFrame.wpList_want hw fun K hK => Lib.wp_append_run w s x t tn ho vs vx hs hx v' w' hr (hK _ _ h)
theorem zeros_u8 (m : Nat) : (Builtin.zeroCells (Value.int .u8 0).cells m).toList = u8s (List.replicate m 0) := by
  apply List.ext_getElem?
  intro k
  by_cases hk : k < m
  · simp [Builtin.zeroCells, u8s, hk, Value.cells, Nat.mod_one]
  · rw [List.getElem?_eq_none (by simp [Builtin.zeroCells, Value.cells]; omega), List.getElem?_eq_none (by simp; omega)]
theorem made_zeros (n : Nat) : (madeCells (Value.int .u8 0).cells (n * 1)).toList = u8s (List.replicate n 0) := by
  apply List.ext_getElem?
  intro k
  by_cases hk : k < n
  · simp [madeCells, u8s, hk, Value.cells, Nat.mod_one]
  · rw [List.getElem?_eq_none (by simp [madeCells]; omega), List.getElem?_eq_none (by simp; omega)]
theorem u8s_append (l m : List Nat) : u8s (l ++ m) = u8s l ++ u8s m := by simp [u8s]
theorem own_cell {w : World} {base g n c : Nat} {l : List Nat} {j x : Nat} (h : w.ownsRow base 5 1 (.slice (some ⟨g, 0, none⟩) n c) n (u8s l)) (hx : l[j]? = some x) :
    w.cell? ⟨g, j, none⟩ = some (.int .u8 (x : Int)) ∧ w.frozen? ⟨g, j, none⟩ = false := by
  have hl : l.length = n := by have := h.1; simpa using this
  have hj : j < l.length := (List.getElem?_eq_some_iff.1 hx).1
  rcases h.2 with ⟨e1, _⟩ | ⟨g', cap', cur, hv, hgb, hh, hncap, _, hcs, htake⟩
  · cases e1
  · cases hv
    refine ⟨?_, by simp [World.frozen?, hh]⟩
    have e : (u8s l)[j]? = some (.int .u8 (x : Int)) := by rw [u8s_get, hx]; rfl
    rw [← htake, List.getElem?_take, if_pos (by omega)] at e
    simp only [World.cell?, hh]
    simpa using e
theorem own_set {w : World} {base g n c : Nat} {l : List Nat} (h : w.ownsRow base 5 1 (.slice (some ⟨g, 0, none⟩) n c) n (u8s l)) (j y : Nat) (hj : j < n) :
    (w.setCell ⟨g, j, none⟩ (.int .u8 (y : Int))).ownsRow base 5 1 (.slice (some ⟨g, 0, none⟩) n c) n (u8s (l.set j y)) := by
  rw [← u8s_set]; exact ownsRow_set h j hj _
theorem own_cap {w : World} {base g n c : Nat} {xs : List Value} (h : w.ownsRow base 5 1 (.slice (some ⟨g, 0, none⟩) n c) n xs) : n ≤ c ∧ c ≤ maxLen := by
  rcases h.2 with ⟨e1, _⟩ | ⟨g', cap', cur, hv, hgb, hh, hncap, hm, _⟩
  · cases e1
  · cases hv
    exact ⟨hncap, hm⟩
/-- A row that has just been made. -/
theorem own_new (w : World) (base : Nat) (Z : Array Value) (N : Nat) (l : List Nat) (hZ : Z.toList = u8s l) (hl : l.length = N) (hN : N ≤ 1000000) (hb : base ≤ w.heap.size) :
    (w.alloc (.cells Z 5)).ownsRow base 5 1 (.slice (some ⟨w.heap.size, 0, none⟩) N N) N (u8s l) := by
  have hs : Z.size = N := by have := congrArg List.length hZ; simpa [hl] using this
  refine ⟨by simp [hl], .inr ⟨w.heap.size, N, Z, rfl, hb, heap_alloc_new w _, Nat.le_refl _, by unfold maxLen; omega, by omega, ?_⟩⟩
  rw [hZ]; exact List.take_of_length_le (by simp [hl])
/-- A part of a row. -/
theorem own_part {w : World} {base g n c : Nat} {l : List Nat} (h : w.ownsRow base 5 1 (.slice (some ⟨g, 0, none⟩) n c) n (u8s l)) (i m c' : Nat) (him : i + m ≤ n) :
    SlAt w (.slice (some ⟨g, i, none⟩) m c') ((l.drop i).take m) := by
  have hl : l.length = n := by have := h.1; simpa using this
  refine ⟨some ⟨g, i, none⟩, c', by simp; omega, fun j x hx => ⟨g, i, rfl, ?_⟩⟩
  have hj : j < m := by have := (List.getElem?_eq_some_iff.1 hx).1; simp at this; omega
  rw [List.getElem?_take, if_pos hj, List.getElem?_drop] at hx
  exact (own_cell h hx).1
theorem sl_cell {w : World} {a : Option Addr} {n cap : Nat} {l : List Nat} {j x : Nat} (h : SlAt w (.slice a n cap) l) (hx : l[j]? = some x) :
    ∃ b off, a = some ⟨b, off, none⟩ ∧ w.cell? ⟨b, off + j, none⟩ = some (.int .u8 ((x : Nat) : Int)) := by
  obtain ⟨a1, c1, e, hc⟩ := h
  cases e
  exact hc j x hx
theorem SlAt.take {w : World} {a : Option Addr} {n cap : Nat} {l : List Nat} (h : SlAt w (.slice a n cap) l) (k : Nat) (hk : k ≤ n) (hl : l.length = n) : SlAt w (.slice a k cap) (l.take k) := by
  refine ⟨a, cap, by simp; omega, fun j x hx => ?_⟩
  rw [List.getElem?_take] at hx
  split at hx
  · exact sl_cell h hx
  · cases hx
theorem SlAt.none_of (w : World) (a : Option Addr) (c : Nat) {n : Nat} (hn : n = 0) : SlAt w (.slice a n c) [] := ⟨a, c, by rw [hn]; rfl, fun j x hx => by simp at hx⟩
theorem SlAt.addr {w : World} {a : Option Addr} {n cap : Nat} {l : List Nat} (h : SlAt w (.slice a n cap) l) (hne : l ≠ []) : ∃ b off, a = some ⟨b, off, none⟩ := by
  have hpos : 0 < l.length := List.length_pos_iff.2 hne
  obtain ⟨b, off, e, _⟩ := sl_cell h (show l[0]? = some l[0] by simp)
  exact ⟨b, off, e⟩
theorem SlAt.drop {w : World} {x : Addr} {n cap c : Nat} {l : List Nat} (h : SlAt w (.slice (some x) n cap) l) (k : Nat) (hk : k ≤ n) (hl : l.length = n) : SlAt w (.slice (some (x.add k)) (n - k) c) (l.drop k) := by
  refine ⟨some (x.add k), c, by simp [hl], fun j y hy => ?_⟩
  rw [List.getElem?_drop] at hy
  obtain ⟨b, off, e, hc⟩ := sl_cell h hy
  cases e
  exact ⟨b, off + k, by simp [Addr.add], by rw [Nat.add_assoc]; exact hc⟩

end Go.Proofs.Ythkfaackkcdcoaa

/- The document's own As and Encode. -/
namespace Go.Proofs.Ythkfaackkcdcoaa
set_option linter.unusedVariables false
set_option linter.unusedSimpArgs false
open Go.RowKit Dg

theorem length_residD {l : List Int} (h : okZ l) : (residD l).length ≤ 5 + 56 * l.length := by
  have := (length_digs (zigs l) (parOf l) (okZ_num h) (parOf_le l)).2
  unfold residD
  simp at this ⊢
  omega
theorem frm_len {kind : Int} {x : List Int} {s : Nat} {D : List Bool} (h : frm kind x s = some D) : D.length ≤ 10000 := by
  unfold frm at h
  by_cases hk : ¬ mayX x ∨ kind < 0 ∨ 18 < kind
  · rw [if_pos hk] at h; cases h
  rw [if_neg hk] at h
  have hm : mayX x := by
    by_cases hm : mayX x
    · exact hm
    · exact absurd (Or.inl hm) hk
  have h64 := hm.2.1
  by_cases h0 : kind = 0
  · rw [if_pos h0] at h
    by_cases ha : allOne x
    · rw [if_pos ha] at h; cases h; simp
    · rw [if_neg ha] at h; cases h
  rw [if_neg h0] at h
  by_cases h1 : kind = 1
  · rw [if_pos h1] at h; cases h; simp; omega
  rw [if_neg h1] at h
  by_cases h6 : kind ≤ 6
  · rw [if_pos h6] at h
    by_cases hl : (x.length : Int) < kind - 2
    · rw [if_pos hl] at h; cases h
    rw [if_neg hl] at h
    by_cases hz : okZ (residZ x (kind - 2).toNat)
    · rw [if_pos hz] at h
      cases h
      have := length_residD hz
      simp at this ⊢
      omega
    · rw [if_neg hz] at h; cases h
  rw [if_neg h6] at h
  obtain ⟨⟨c, b⟩, hc⟩ : ∃ R, R = coOut x (kind - 6) s := ⟨_, rfl⟩
  rw [← hc] at h
  simp only at h
  cases b with
  | false => simp at h
  | true =>
    rw [if_pos rfl] at h
    obtain ⟨g1, g2, g3, g4, g5⟩ := coOut_true hc.symm
    by_cases hz : okZ (lresidZ x c)
    · rw [if_pos hz] at h
      cases h
      have := length_residD hz
      simp at this ⊢
      omega
    · rw [if_neg hz] at h; cases h
theorem bestF_len (x : List Int) (s j : Nat) : (bestF x s j).length ≤ 10000 := by
  induction j with
  | zero => simp [bestF]
  | succ j ih =>
    simp only [bestF]
    split
    · exact ih
    · rename_i b hb
      split
      · exact frm_len hb
      · exact ih
/-- Bytes of one's own and a yes or no, or an error. -/
def GaveY (w w' : World) (R : List Nat × Bool) (e : Ending) : Prop := ∃ v, e = .returned (.tuple #[v, .bool R.2]) ∧ OwnBytes w' w.heap.size v R.1 ∧ Below w.heap.size w w'
def GaveN (w w' : World) (R : List Nat × Int) (e : Ending) : Prop := ∃ v, e = .returned (.tuple #[v, .int .i64 R.2]) ∧ OwnBytes w' w.heap.size v R.1 ∧ Below w.heap.size w w'
theorem OwnBytes.nil (w : World) (base : Nat) : OwnBytes w base (.slice none 0 0) [] := World.ownsRow_nil _ _ _ _

set_option maxHeartbeats 1000000 in
theorem ras_any (w : World) (kind : Int) (s : Nat) (a : Option Addr) (cap : Nat) (l : List Int) (hl : Ns w a cap l) (hll : l.length ≤ 1000000) (hs : mayX l → IsShift (autoZ l 0) s) (R : List Nat × Bool) (hR : R = asOut kind l s) :
    Calls Try.prog 21 #[.int .i64 kind, .slice a l.length cap] w fun e w' => GaveY w w' R e := by
  have HL := hid_of hl
  have HS := hid_of hs
  unfold asOut at hR
  cases hF : frm kind l s with
  | none =>
    rw [hF] at hR
    have HR : Hid (R = ([], false)) := hR
    have HF := hid_of hF
    clear hl hs hR hF
    go_enter Try.func21, Try.ntmps21
    go_wp2_with fail
    refine (dig_any w kind s a cap l HL.out hll HS.out).mono ?_
    rw [HF.out]
    rintro e w1 ⟨v1, rfl, hb1⟩
    have HB1 := hid_of hb1
    clear hb1
    go_wp2_with fail
    go_ret2
    rw [HR.out]
    exact ⟨_, rfl, OwnBytes.nil _ _, HB1.out⟩
  | some D =>
    rw [hF] at hR
    obtain ⟨P, hP⟩ : ∃ P, P = pack D := ⟨_, rfl⟩
    have HR : Hid (R = (P, true)) := by show _ = _; rw [hP]; exact hR
    have HP := hid_of hP
    have hDl := frm_len hF
    have HF := hid_of hF
    clear hl hs hR hF hP
    go_enter Try.func21, Try.ntmps21
    go_wp2_with fail
    refine (dig_any w kind s a cap l HL.out hll HS.out).mono ?_
    rw [HF.out]
    rintro e w1 ⟨v1, rfl, h1⟩
    have H1 := hid_of h1
    clear h1
    go_wp2_with fail
    refine (rbytes_any w1 v1 D P HP.out H1.out.bt (by omega)).mono ?_
    rintro e w2 ⟨rfl, h2⟩
    have H2 := hid_of h2
    clear h2
    go_wp2_with fail
    go_ret2
    rw [HR.out]
    exact ⟨_, rfl, ownsRow_base H2.out.1 H1.out.2.size, H1.out.2.trans (H2.out.2.mono H1.out.2.size)⟩

set_option maxRecDepth 100000 in
set_option maxHeartbeats 4000000 in
theorem renc_any (w : World) (s : Nat) (a : Option Addr) (cap : Nat) (l : List Int) (hl : Ns w a cap l) (hll : l.length ≤ 1000000) (hs : mayX l → IsShift (autoZ l 0) s) (R : List Nat × Int) (hR : R = encOut l s) :
    Calls Try.prog 22 #[.slice a l.length cap] w fun e w' => GaveN w w' R e := by
  have HL := hid_of hl
  have HS := hid_of hs
  unfold encOut at hR
  clear hl hs
  by_cases h1 : l.length < 1 ∨ 64 < l.length
  · rw [if_pos h1] at hR
    have HR := hid_of hR
    clear hR
    rcases (by omega : l.length < 1 ∨ (1 ≤ l.length ∧ 64 < l.length)) with h2 | ⟨h2, h3⟩
    all_goals
      clear h1
      go_enter Try.func22, Try.ntmps22
      go_wp2_with fail
      go_ret2
      rw [HR.out]
      exact ⟨_, rfl, OwnBytes.nil _ _, Below.refl _ _⟩
  rw [if_neg h1] at hR
  have hl1 : 1 ≤ l.length := by omega
  have hl64 : l.length ≤ 64 := by omega
  clear h1
  by_cases hS : allS l
  case neg =>
    rw [if_neg hS] at hR
    have HR := hid_of hR
    have HT : Hid (8 = mayZ l) := by show _ = _; unfold mayZ; rw [if_neg hS]
    clear hR hS
    go_enter Try.func22, Try.ntmps22
    go_wp2_with (go_at_call 34; refine (rmay_any _ _ _ _ HL.out.at_ hll 8 HT.out).mono ?_; rintro e w1 ⟨rfl, rfl⟩)
    go_ret2
    rw [HR.out]
    exact ⟨_, rfl, OwnBytes.nil _ _, Below.refl _ _⟩
  rw [if_pos hS] at hR
  have HR := hid_of hR
  have HT : Hid (0 = mayZ l) := by show _ = _; unfold mayZ; rw [if_pos hS, if_neg (by omega)]
  clear hR hS
  go_enter Try.func22, Try.ntmps22
  go_wp2_with (go_at_call 34; refine (rmay_any _ _ _ _ HL.out.at_ hll 0 HT.out).mono ?_; rintro e w1 ⟨rfl, rfl⟩)
  go_loopw [4, 5] (fun v i wr => ∃ j : Nat, j ≤ 19 ∧ i = .int .i64 (j : Int) ∧ Hid (BtAt wr v (bestF l s j)) ∧ Hid (Below w.heap.size w wr)) (fun _ i _ => 19 - (intOf i).toNat)
  case atStart => exact ⟨0, Nat.zero_le _, rfl, BtAt.none _, Below.refl _ _⟩
  case round =>
    obtain ⟨j, hj, rfl, hbt, hb⟩ := hrel
    obtain ⟨B, hB⟩ : ∃ B, B = bestF l s j := ⟨_, rfl⟩
    have hBl : B.length ≤ 10000 := by rw [hB]; exact bestF_len l s j
    rw [← hB] at hbt
    obtain ⟨ba, bc, hu4⟩ := hbt.out.form
    subst hu4
    have HB := hid_of hB
    have HLW : Hid (Ns wr a cap l) := HL.out.mono hb.out
    clear hB
    by_cases hj18 : j ≤ 18
    · have hjb : decide ((j : Int) ≤ 18) = true := decide_eq_true (by omega)
      cases hF : frm (j : Int) l s with
      | none =>
        have HF := hid_of hF
        have HNX : Hid (bestF l s (j + 1) = B) := by show _ = _; rw [HB.out]; simp only [bestF]; rw [hF]
        clear hF
        go_wp2_with fail
        refine (dig_any wr _ s a cap l HLW.out hll HS.out).mono ?_
        rw [HF.out]
        rintro e w1 ⟨v1, rfl, hb1⟩
        have HB1 : Hid (Below w.heap.size w w1) := hb.out.trans (hb1.mono hb.out.size)
        have HBT : Hid (BtAt w1 (.slice ba B.length bc) (bestF l s (j + 1))) := by rw [HNX.out]; exact hbt.out.below hb1
        clear hb1
        go_wp2_with fail
        exact ⟨⟨j + 1, by omega, by go_num, HBT, HB1⟩, by (simp [intOf]) <;> omega⟩
      | some D =>
        have HF := hid_of hF
        have HNX : Hid (bestF l s (j + 1) = if B.length = 0 ∨ D.length < B.length then D else B) := by show _ = _; rw [HB.out]; simp only [bestF]; rw [hF]
        have hDl := frm_len hF
        clear hF
        go_wp2_with fail
        refine (dig_any wr _ s a cap l HLW.out hll HS.out).mono ?_
        rw [HF.out]
        rintro e w1 ⟨v1, rfl, h1⟩
        obtain ⟨da, dc, rfl⟩ := h1.bt.form
        have HB1 : Hid (Below w.heap.size w w1) := hb.out.trans (h1.2.mono hb.out.size)
        have HBT := hid_of h1.bt
        have HBB : Hid (BtAt w1 (.slice ba B.length bc) B) := hbt.out.below h1.2
        clear h1
        rcases (by omega : B.length = 0 ∨ (B.length ≠ 0 ∧ D.length < B.length) ∨ (B.length ≠ 0 ∧ B.length ≤ D.length)) with h0 | ⟨h0, h2⟩ | ⟨h0, h2⟩
        · have hb0 : ((B.length : Int) == 0) = true := beq_iff_eq.2 (by omega)
          have HX : Hid (BtAt w1 (.slice da D.length dc) (bestF l s (j + 1))) := by rw [HNX.out, if_pos (.inl h0)]; exact HBT.out
          clear h0
          go_wp2_with fail
          exact ⟨⟨j + 1, by omega, by go_num, HX, HB1⟩, by (simp [intOf]) <;> omega⟩
        · have hb0 : ((B.length : Int) == 0) = false := beq_eq_false_iff_ne.2 (by omega)
          have HX : Hid (BtAt w1 (.slice da D.length dc) (bestF l s (j + 1))) := by rw [HNX.out, if_pos (.inr h2)]; exact HBT.out
          clear h0
          go_wp2_with fail
          exact ⟨⟨j + 1, by omega, by go_num, HX, HB1⟩, by (simp [intOf]) <;> omega⟩
        · have hb0 : ((B.length : Int) == 0) = false := beq_eq_false_iff_ne.2 (by omega)
          have HX : Hid (BtAt w1 (.slice ba B.length bc) (bestF l s (j + 1))) := by rw [HNX.out, if_neg (by omega)]; exact HBB.out
          clear h0
          go_wp2_with fail
          exact ⟨⟨j + 1, by omega, by go_num, HX, HB1⟩, by (simp [intOf]) <;> omega⟩
    · have e : j = 19 := by omega
      subst e
      have hjb : decide (((19 : Nat) : Int) ≤ 18) = false := rfl
      obtain ⟨P, hP⟩ : ∃ P, P = pack B := ⟨_, rfl⟩
      have HP := hid_of hP
      have HRP : Hid (R = (P, 0)) := by show _ = _; rw [HR.out, ← HB.out, hP]
      clear hP
      go_wp2_with fail
      refine (rbytes_any wr _ B P HP.out hbt.out (by omega)).mono ?_
      rintro e w2 ⟨rfl, h2⟩
      have H2 := hid_of h2
      clear h2
      go_wp2_with fail
      go_ret2
      rw [HRP.out]
      exact ⟨_, rfl, ownsRow_base H2.out.1 hb.out.size, hb.out.trans (H2.out.2.mono hb.out.size)⟩

end Go.Proofs.Ythkfaackkcdcoaa

/- frame: the digits of a kind; As. -/
namespace Go.Proofs.Ythkfaackkcdcoaa
set_option linter.unusedVariables false
set_option linter.unusedSimpArgs false
open Go.RowKit Dg

/-- What written answers: a writer of the call's own, and whether it holds a frame. -/
def Wrt (w w' : World) (o : Option (List Bool)) (e : Ending) : Prop :=
  ∃ b, e = .returned (.tuple #[.pointer (some ⟨b, 0, none⟩), .bool o.isSome]) ∧ Below w.heap.size w w' ∧ w.heap.size ≤ b ∧ ∀ D, o = some D → ∃ rv, WrAt w' b rv D
theorem Wrt.of {w w2 w3 : World} {b : Nat} {rv2 : Value} {H : List Bool} {o o' : Option (List Bool)} {t : Bool} (hbw : b = w.heap.size) (hb2 : Below w.heap.size w w2) (hw2 : WrAt w2 b rv2 H) (h3 : PutB w2 w3 b rv2 H o' (.returned (.bool t))) (ho : o = o'.map fun D => H ++ D) :
    Wrt w w3 o (.returned (.tuple #[.pointer (some ⟨b, 0, none⟩), .bool t])) := by
  have key : ∀ ds', Wrote w2 w3 b rv2 ds' → Below w.heap.size w w3 := by
    rintro ds' ⟨rv', -, hk, -⟩
    exact hk.below_of hb2 (fun k hf => by have := (hw2.foot k hf).1; omega) hb2.size
  cases o' with
  | none =>
    obtain ⟨he, ds', h⟩ := h3
    cases he
    subst ho
    exact ⟨b, rfl, key _ h, by omega, fun D hD => by cases hD⟩
  | some D =>
    obtain ⟨he, h⟩ := h3
    cases he
    subst ho
    refine ⟨b, rfl, key _ h, by omega, fun D' hD => ?_⟩
    cases hD
    obtain ⟨rv', h1, -, -⟩ := h
    exact ⟨rv', h1⟩

set_option maxRecDepth 100000 in
set_option maxHeartbeats 4000000 in
theorem pwritten_any (w : World) (kind : Int) (s : Nat) (a : Option Addr) (cap : Nat) (l : List Int) (hl : Ns w a cap l) (hm : mayX l) (hs : IsShift (autoZ l 0) s) (o : Option (List Bool)) (ho : o = frm kind l s) :
    Calls Try.prog 26 #[.int .i64 kind, .slice a l.length cap] w fun e w' => Wrt w w' o e := by
  have HL := hid_of hl
  have HM := hid_of hm
  have HS := hid_of hs
  have hl1 : 1 ≤ l.length := hm.1
  have hl64 : l.length ≤ 64 := hm.2.1
  have hahead : ∀ y, a = some y → y.block < w.heap.size := by
    intro y hy
    obtain ⟨x, hx⟩ : ∃ x, l[0]? = some x := ⟨l[0]'(by omega), by simp⟩
    obtain ⟨b0, o0, e0, hc0⟩ := hl.at_ 0 x hx
    rw [hy] at e0
    cases e0
    exact World.block_lt_of_cell? w _ hc0
  have HAH := hid_of hahead
  unfold frm at ho
  have HO : Hid (o = _) := ho
  clear hl hm hs ho hahead
  go_enter Try.func26, Try.ntmps26
  go_wp2_with fail
  refine (newWriter_any _).mono ?_
  rintro e w1 ⟨rfl, hwa1, hb1, hs1⟩
  obtain ⟨b, hb⟩ : ∃ b, b = w.heap.size := ⟨_, rfl⟩
  rw [← hb] at hwa1 hs1 ⊢
  have HSB : Hid (b = w.heap.size) := hb
  have HW1 := hid_of hwa1
  have HB1 : Hid (Below w.heap.size w w1) := hb1
  clear hwa1 hb1 hb
  go_wp2_with fail
  refine (put_at w1 b _ [] kind 8 HW1.out (by simp) (by decide) _ rfl).mono ?_
  rintro e w2 ⟨rfl, rv2, hw2, hk2, hn2⟩
  have HB2 : Hid (Below w.heap.size w w2) := hk2.below_of HB1.out (fun k hf => by have h1 := (HW1.out.foot k hf).1; have h2 := HSB.out; omega) HB1.out.size
  have HW2 := hid_of hw2
  clear hw2 hk2 hn2
  go_wp2_with fail
  refine (put_at w2 b rv2 _ (l.length : Int) 8 HW2.out (by simp) (by decide) _ rfl).mono ?_
  rintro e w3 ⟨rfl, rv3, hw3, hk3, hn3⟩
  have HB3 : Hid (Below w.heap.size w w3) := hk3.below_of HB2.out (fun k hf => by have h1 := (HW2.out.foot k hf).1; have h2 := HSB.out; omega) HB2.out.size
  have HW3 : Hid (WrAt w3 b rv3 (headD kind l.length)) := by show WrAt _ _ _ _; simpa [headD] using hw3
  have HL3 := hid_of (HL.out.mono HB3.out)
  have HA3 : Hid (∀ y, a = some y → ¬ Wf b rv3 y.block) := ahead HW3.out (fun y hy => by rw [HSB.out]; exact HAH.out y hy)
  have hd3 : (headD kind l.length).length ≤ 1000 := by simp
  clear hw3 hk3 hn3 HW1 HB1 HW2 HB2
  rcases (by omega : kind = 0 ∨ kind = 1 ∨ (2 ≤ kind ∧ kind ≤ 6) ∨ (7 ≤ kind ∧ kind ≤ 18) ∨ kind < 0 ∨ 18 < kind) with rfl | rfl | ⟨h1, h2⟩ | ⟨h1, h2⟩ | h1 | h1
  · have HOO : Hid (o = (if allOne l then some (sampD (l.getD 0 0)) else none).map fun D => headD 0 l.length ++ D) := by
      show _ = _
      rw [HO.out, if_neg (by simp [HM.out]), if_pos rfl]
      by_cases ha : allOne l
      · rw [if_pos ha, if_pos ha]; rfl
      · rw [if_neg ha, if_neg ha]; rfl
    clear HO
    go_wp2_with fail
    refine (pconst_any w3 b cap rv3 _ a l HW3.out HL3.out HA3.out HM.out hd3 _ rfl).mono ?_
    rintro e w4 h4
    obtain ⟨t, rfl⟩ := h4.form
    have H4 := hid_of h4
    clear h4
    go_wp2_with fail
    go_ret2
    exact Wrt.of HSB.out HB3.out HW3.out H4.out HOO.out
  · have HOO : Hid (o = (some (sampsD l)).map fun D => headD 1 l.length ++ D) := by
      show _ = _
      rw [HO.out, if_neg (by simp [HM.out]), if_neg (by decide), if_pos rfl]
      rfl
    clear HO
    go_wp2_with fail
    refine (pputs_any w3 b _ cap rv3 _ a l rfl HW3.out HL3.out.at_ HA3.out HM.out.2.2 (by omega) (by omega) _ rfl).mono ?_
    rintro e w4 ⟨rfl, h4⟩
    have H4 := hid_of h4
    clear h4
    go_wp2_with fail
    go_ret2
    exact Wrt.of (o' := some (sampsD l)) HSB.out HB3.out HW3.out ⟨rfl, H4.out⟩ HOO.out
  · obtain ⟨n, hn⟩ : ∃ n : Nat, (n : Int) = kind - 2 := ⟨(kind - 2).toNat, by omega⟩
    have hkb0 : (kind == 0) = false := beq_eq_false_iff_ne.2 (by omega)
    have hkb1 : (kind == 1) = false := beq_eq_false_iff_ne.2 (by omega)
    have HN := hid_of hn
    have hn4 : n ≤ 4 := by omega
    have HOO : Hid (o = (if l.length < n then none else if okZ (residZ l n) then some (sampsD (l.take n) ++ residD (residZ l n)) else none).map fun D => headD kind l.length ++ D) := by
      show _ = _
      have e : (kind - 2).toNat = n := by omega
      rw [HO.out, if_neg (by simp [HM.out]; omega), if_neg (by omega), if_neg (by omega), if_pos (by omega), e]
      by_cases ha : l.length < n
      · rw [if_pos ha, if_pos (by omega)]; rfl
      · rw [if_neg ha, if_neg (by omega)]
        by_cases hz : okZ (residZ l n)
        · rw [if_pos hz, if_pos hz, List.append_assoc]; rfl
        · rw [if_neg hz, if_neg hz]; rfl
    clear HO hn
    go_wp2_with (go_at_call 40; refine (pfix_any _ _ (by omega) (by omega) _ HN.out).mono ?_; rintro e w4 ⟨rfl, rfl⟩)
    refine (pfixed_any w3 b cap n rv3 _ a l HW3.out HL3.out HA3.out HM.out hn4 hd3 _ rfl).mono ?_
    rintro e w4 h4
    obtain ⟨t, rfl⟩ := h4.form
    have H4 := hid_of h4
    clear h4
    go_wp2_with fail
    go_ret2
    exact Wrt.of HSB.out HB3.out HW3.out H4.out HOO.out
  · obtain ⟨n, hn⟩ : ∃ n : Nat, (n : Int) = kind - 6 := ⟨(kind - 6).toNat, by omega⟩
    have hkb0 : (kind == 0) = false := beq_eq_false_iff_ne.2 (by omega)
    have hkb1 : (kind == 1) = false := beq_eq_false_iff_ne.2 (by omega)
    have HN := hid_of hn
    have hn1 : 1 ≤ n := by omega
    have hn12 : n ≤ 12 := by omega
    have HOO : Hid (o = (if (coOut l (n : Int) s).2 = true then (if okZ (lresidZ l (coOut l (n : Int) s).1) then some (sampsD (l.take n) ++ coefsD (coOut l (n : Int) s).1 ++ residD (lresidZ l (coOut l (n : Int) s).1)) else none) else none).map fun D => headD kind l.length ++ D) := by
      show _ = _
      have e : (kind - 6).toNat = n := by omega
      rw [HO.out, if_neg (by simp [HM.out]; omega), if_neg (by omega), if_neg (by omega), if_neg (by omega), e, ← hn]
      by_cases ha : (coOut l (n : Int) s).2 = true
      · rw [if_pos ha, if_pos ha]
        by_cases hz : okZ (lresidZ l (coOut l (n : Int) s).1)
        · rw [if_pos hz, if_pos hz]; simp only [List.append_assoc]; rfl
        · rw [if_neg hz, if_neg hz]; rfl
      · rw [if_neg ha, if_neg ha]; rfl
    clear HO hn
    go_wp2_with (go_at_call 42; refine (plpc_any _ _ (by omega) (by omega) _ HN.out).mono ?_; rintro e w4 ⟨rfl, rfl⟩)
    refine (plpcs_any w3 b cap n s rv3 _ a l HW3.out HL3.out HA3.out HM.out HS.out hn1 hn12 hd3 _ rfl).mono ?_
    rintro e w4 h4
    obtain ⟨t, rfl⟩ := h4.form
    have H4 := hid_of h4
    clear h4
    go_wp2_with fail
    go_ret2
    exact Wrt.of HSB.out HB3.out HW3.out H4.out HOO.out
  · have HOO : Hid (o = (none : Option (List Bool)).map fun D => headD kind l.length ++ D) := by
      show _ = _
      rw [HO.out, if_pos (.inr (.inl h1))]
      rfl
    have hkb0 : (kind == 0) = false := beq_eq_false_iff_ne.2 (by omega)
    have hkb1 : (kind == 1) = false := beq_eq_false_iff_ne.2 (by omega)
    clear HO
    go_wp2_with fail
    go_ret2
    exact Wrt.of (o' := none) HSB.out HB3.out HW3.out ⟨rfl, _, Wrote.refl HW3.out⟩ HOO.out
  · have HOO : Hid (o = (none : Option (List Bool)).map fun D => headD kind l.length ++ D) := by
      show _ = _
      rw [HO.out, if_pos (.inr (.inr h1))]
      rfl
    have hkb0 : (kind == 0) = false := beq_eq_false_iff_ne.2 (by omega)
    have hkb1 : (kind == 1) = false := beq_eq_false_iff_ne.2 (by omega)
    clear HO
    go_wp2_with fail
    go_ret2
    exact Wrt.of (o' := none) HSB.out HB3.out HW3.out ⟨rfl, _, Wrote.refl HW3.out⟩ HOO.out

/-- A row of bytes of the call's own that is as long as its room. -/
def FullB (v : Value) (n : Nat) : Prop := v = .slice none 0 0 ∧ n = 0 ∨ ∃ g, v = .slice (some ⟨g, 0, none⟩) n n
def FullY (w w' : World) (R : List Nat × Bool) (e : Ending) : Prop := ∃ v, e = .returned (.tuple #[v, .bool R.2]) ∧ OwnBytes w' w.heap.size v R.1 ∧ FullB v R.1.length ∧ Below w.heap.size w w'
def FullN (w w' : World) (R : List Nat × Int) (e : Ending) : Prop := ∃ v, e = .returned (.tuple #[v, .int .i64 R.2]) ∧ OwnBytes w' w.heap.size v R.1 ∧ FullB v R.1.length ∧ Below w.heap.size w w'

set_option maxRecDepth 100000 in
set_option maxHeartbeats 4000000 in
theorem fas_full (w : World) (kind : Int) (s : Nat) (a : Option Addr) (cap : Nat) (l : List Int) (hl : Ns w a cap l) (hll : l.length ≤ 1000000) (hs : mayX l → IsShift (autoZ l 0) s) (R : List Nat × Bool) (hR : R = asOut kind l s) :
    Calls Try.prog 19 #[.int .i64 kind, .slice a l.length cap] w fun e w' => FullY w w' R e := by
  have HL := hid_of hl
  have HS := hid_of hs
  unfold asOut at hR
  clear hl hs
  by_cases hc : 1 ≤ l.length ∧ l.length ≤ 64
  case neg =>
    have HT : Hid (false = decide (1 ≤ (l.length : Int) ∧ (l.length : Int) ≤ 64)) := (decide_eq_false (by omega)).symm
    have HR : Hid (R = ([], false)) := by
      show _ = _
      have e : frm kind l s = none := by unfold frm; rw [if_pos (.inl (fun h => hc ⟨h.1, h.2.1⟩))]
      rw [hR, e]
    clear hR hc
    go_enter Try.func19, Try.ntmps19
    go_wp2_with (go_at_call 24; refine (pcount_any _ _ false HT.out).mono ?_; rintro e w1 ⟨rfl, rfl⟩)
    go_ret2
    rw [HR.out]
    exact ⟨_, rfl, OwnBytes.nil _ _, .inl ⟨rfl, rfl⟩, Below.refl _ _⟩
  obtain ⟨hl1, hl64⟩ := hc
  have HT : Hid (true = decide (1 ≤ (l.length : Int) ∧ (l.length : Int) ≤ 64)) := (decide_eq_true (by omega)).symm
  by_cases hS : allS l
  case neg =>
    have HT2 : Hid (false = decide (allS l)) := (decide_eq_false hS).symm
    have HR : Hid (R = ([], false)) := by
      show _ = _
      have e : frm kind l s = none := by unfold frm; rw [if_pos (.inl (fun h => hS h.2.2))]
      rw [hR, e]
    clear hR hS
    go_enter Try.func19, Try.ntmps19
    go_wp2_with first
      | (go_at_call 24; refine (pcount_any _ _ true HT.out).mono ?_; rintro e w1 ⟨rfl, rfl⟩)
      | (go_at_call 25; refine (pare_any _ _ _ _ HL.out.at_ hll false HT2.out).mono ?_; rintro e w1 ⟨rfl, rfl⟩)
    go_ret2
    rw [HR.out]
    exact ⟨_, rfl, OwnBytes.nil _ _, .inl ⟨rfl, rfl⟩, Below.refl _ _⟩
  have HT2 : Hid (true = decide (allS l)) := (decide_eq_true hS).symm
  have HM : Hid (mayX l) := ⟨hl1, hl64, hS⟩
  cases hF : frm kind l s with
  | none =>
    have HF : Hid (none = frm kind l s) := hF.symm
    have HR : Hid (R = ([], false)) := by show _ = _; rw [hR, hF]
    clear hR hS hF
    go_enter Try.func19, Try.ntmps19
    go_wp2_with first
      | (go_at_call 24; refine (pcount_any _ _ true HT.out).mono ?_; rintro e w1 ⟨rfl, rfl⟩)
      | (go_at_call 25; refine (pare_any _ _ _ _ HL.out.at_ hll true HT2.out).mono ?_; rintro e w1 ⟨rfl, rfl⟩)
    refine (pwritten_any w kind s a cap l HL.out HM.out (HS.out HM.out) _ HF.out).mono ?_
    rintro e w2 ⟨b, rfl, hb2, -, -⟩
    have HB2 := hid_of hb2
    clear hb2
    go_wp2_with fail
    go_ret2
    rw [HR.out]
    exact ⟨_, rfl, OwnBytes.nil _ _, .inl ⟨rfl, rfl⟩, HB2.out⟩
  | some D =>
    have HF : Hid (some D = frm kind l s) := hF.symm
    have hDl := frm_len hF
    obtain ⟨L, hL⟩ : ∃ L, L = pack D := ⟨_, rfl⟩
    have HLP := hid_of hL
    have HR : Hid (R = (L, true)) := by show _ = _; rw [hR, hF, hL]
    clear hR hS hF hL
    go_enter Try.func19, Try.ntmps19
    go_wp2_with first
      | (go_at_call 24; refine (pcount_any _ _ true HT.out).mono ?_; rintro e w1 ⟨rfl, rfl⟩)
      | (go_at_call 25; refine (pare_any _ _ _ _ HL.out.at_ hll true HT2.out).mono ?_; rintro e w1 ⟨rfl, rfl⟩)
    refine (pwritten_any w kind s a cap l HL.out HM.out (HS.out HM.out) _ HF.out).mono ?_
    rintro e w2 ⟨b, rfl, hb2, -, hw2⟩
    obtain ⟨rv, hw⟩ := hw2 D rfl
    have HB2 := hid_of hb2
    have HW2 := hid_of hw
    clear hb2 hw2 hw
    go_wp2_with fail
    refine (bytes_any w2 b rv D L HLP.out HW2.out (by omega)).mono ?_
    rintro e w3 ⟨rfl, h3, hb3⟩
    have HO3 : Hid (OwnBytes w3 w.heap.size (.slice (some ⟨w2.heap.size, 0, none⟩) L.length L.length) L) := ownsRow_base h3 HB2.out.size
    have HB3 : Hid (Below w.heap.size w w3) := HB2.out.trans (hb3.mono HB2.out.size)
    clear h3 hb3
    go_wp2_with fail
    go_ret2
    rw [HR.out]
    exact ⟨_, rfl, HO3.out, .inr ⟨_, rfl⟩, HB3.out⟩

end Go.Proofs.Ythkfaackkcdcoaa

/- frame: Encode. -/
namespace Go.Proofs.Ythkfaackkcdcoaa
set_option linter.unusedVariables false
set_option linter.unusedSimpArgs false
open Go.RowKit Dg

/-- The best writer yet, or none. -/
def BestAt (w wr : World) (p : Value) (ds : List Bool) : Prop :=
  (p = .pointer none ∧ ds = []) ∨ ∃ b rv, p = .pointer (some ⟨b, 0, none⟩) ∧ WrAt wr b rv ds ∧ 0 < ds.length ∧ w.heap.size ≤ b
theorem BestAt.mono {w wr w1 : World} {p : Value} {ds : List Bool} (h : BestAt w wr p ds) (hb : Below wr.heap.size wr w1) : BestAt w w1 p ds := by
  rcases h with h | ⟨b, rv, h1, h2, h3, h4⟩
  · exact .inl h
  · exact .inr ⟨b, rv, h1, h2.below hb, h3, h4⟩
theorem frm_pos {kind : Int} {x : List Int} {s : Nat} {D : List Bool} (h : frm kind x s = some D) : 0 < D.length := by
  have h1 := decP_tail h []
  rw [List.append_nil] at h1
  cases D with
  | nil => simp [decP, takeD] at h1
  | cons d D => simp
theorem bestF_pos {x : List Int} (hm : mayX x) (s : Nat) (j : Nat) (hj : 2 ≤ j) : 0 < (bestF x s j).length := by
  induction j with
  | zero => omega
  | succ j ih =>
    simp only [bestF]
    cases hF : frm (j : Int) x s with
    | none =>
      by_cases hj1 : j = 1
      · subst hj1
        unfold frm at hF
        rw [if_neg (by simp [hm]), if_neg (by decide), if_pos (by decide)] at hF
        cases hF
      · exact ih (by omega)
    | some D =>
      have := frm_pos hF
      simp only
      split
      · exact this
      · rename_i h; omega

set_option maxRecDepth 100000 in
set_option maxHeartbeats 4000000 in
theorem fenc_full (w : World) (s : Nat) (a : Option Addr) (cap : Nat) (l : List Int) (hl : Ns w a cap l) (hll : l.length ≤ 1000000) (hs : mayX l → IsShift (autoZ l 0) s) (R : List Nat × Int) (hR : R = encOut l s) :
    Calls Try.prog 12 #[.slice a l.length cap] w fun e w' => FullN w w' R e := by
  have HL := hid_of hl
  have HS := hid_of hs
  unfold encOut at hR
  clear hl hs
  by_cases hc : l.length < 1 ∨ 64 < l.length
  case pos =>
    have HT : Hid (false = decide (1 ≤ (l.length : Int) ∧ (l.length : Int) ≤ 64)) := (decide_eq_false (by omega)).symm
    rw [if_pos hc] at hR
    have HR := hid_of hR
    clear hR hc
    go_enter Try.func12, Try.ntmps12
    go_wp2_with (go_at_call 24; refine (pcount_any _ _ false HT.out).mono ?_; rintro e w1 ⟨rfl, rfl⟩)
    go_ret2
    rw [HR.out]
    exact ⟨_, rfl, OwnBytes.nil _ _, .inl ⟨rfl, rfl⟩, Below.refl _ _⟩
  rw [if_neg hc] at hR
  have hl1 : 1 ≤ l.length := by omega
  have hl64 : l.length ≤ 64 := by omega
  clear hc
  have HT : Hid (true = decide (1 ≤ (l.length : Int) ∧ (l.length : Int) ≤ 64)) := (decide_eq_true (by omega)).symm
  by_cases hS : allS l
  case neg =>
    have HT2 : Hid (false = decide (allS l)) := (decide_eq_false hS).symm
    rw [if_neg hS] at hR
    have HR := hid_of hR
    clear hR hS
    go_enter Try.func12, Try.ntmps12
    go_wp2_with first
      | (go_at_call 24; refine (pcount_any _ _ true HT.out).mono ?_; rintro e w1 ⟨rfl, rfl⟩)
      | (go_at_call 25; refine (pare_any _ _ _ _ HL.out.at_ hll false HT2.out).mono ?_; rintro e w1 ⟨rfl, rfl⟩)
    go_ret2
    rw [HR.out]
    exact ⟨_, rfl, OwnBytes.nil _ _, .inl ⟨rfl, rfl⟩, Below.refl _ _⟩
  rw [if_pos hS] at hR
  have HR := hid_of hR
  have HT2 : Hid (true = decide (allS l)) := (decide_eq_true hS).symm
  have HM : Hid (mayX l) := ⟨hl1, hl64, hS⟩
  clear hR hS
  go_enter Try.func12, Try.ntmps12
  go_wp2_with first
    | (go_at_call 24; refine (pcount_any _ _ true HT.out).mono ?_; rintro e w1 ⟨rfl, rfl⟩)
    | (go_at_call 25; refine (pare_any _ _ _ _ HL.out.at_ hll true HT2.out).mono ?_; rintro e w1 ⟨rfl, rfl⟩)
  go_loopw [4, 15] (fun p i wr => ∃ j : Nat, j ≤ 19 ∧ i = .int .i64 (j : Int) ∧ Hid (BestAt w wr p (bestF l s j)) ∧ Hid (Below w.heap.size w wr)) (fun _ i _ => 19 - (intOf i).toNat)
  case atStart => exact ⟨0, Nat.zero_le _, rfl, .inl ⟨rfl, rfl⟩, Below.refl _ _⟩
  case round =>
    obtain ⟨j, hj, rfl, hbest, hb⟩ := hrel
    by_cases hj19 : j < 19
    · have HLW : Hid (Ns wr a cap l) := HL.out.mono hb.out
      have hjb : decide ((j : Int) < 19) = true := decide_eq_true (by omega)
      cases hF : frm (j : Int) l s with
      | none =>
        have HF : Hid (none = frm (j : Int) l s) := hF.symm
        have HNX : Hid (bestF l s (j + 1) = bestF l s j) := by show _ = _; simp only [bestF]; rw [hF]
        clear hF
        rcases hbest.out with ⟨rfl, hB⟩ | ⟨b, rv, rfl, hw, hp, hwb⟩
        all_goals
          go_wp2_with fail
          refine (pwritten_any wr _ s a cap l HLW.out HM.out (HS.out HM.out) _ HF.out).mono ?_
          rintro e w2 ⟨b2, rfl, hb2, -, -⟩
          have HB2 : Hid (Below w.heap.size w w2) := hb.out.trans (hb2.mono hb.out.size)
          have HX := hid_of (hbest.out.mono hb2)
          rw [← HNX.out] at HX
          clear hb2
          go_wp2_with fail
          exact ⟨⟨j + 1, by omega, by go_num, HX, HB2⟩, by (simp [intOf]) <;> omega⟩
      | some D =>
        have HF : Hid (some D = frm (j : Int) l s) := hF.symm
        obtain ⟨B, hB⟩ : ∃ B, B = bestF l s j := ⟨_, rfl⟩
        have HNX : Hid (bestF l s (j + 1) = if B.length = 0 ∨ D.length < B.length then D else B) := by show _ = _; rw [hB]; simp only [bestF]; rw [hF]
        have hDp := frm_pos hF
        rw [← hB] at hbest
        clear hF hB
        rcases hbest.out with ⟨rfl, hB0⟩ | ⟨b, rv, rfl, hw, hp, hwb⟩
        · have HE : Hid (bestF l s (j + 1) = D) := by show _ = _; rw [HNX.out, if_pos (.inl (by rw [hB0]; rfl))]
          clear hB0
          go_wp2_with fail
          refine (pwritten_any wr _ s a cap l HLW.out HM.out (HS.out HM.out) _ HF.out).mono ?_
          rintro e w2 ⟨b2, rfl, hb2, hwb2, hw2⟩
          obtain ⟨rv2, hw2⟩ := hw2 D rfl
          have HB2 : Hid (Below w.heap.size w w2) := hb.out.trans (hb2.mono hb.out.size)
          have HX : Hid (BestAt w w2 (.pointer (some ⟨b2, 0, none⟩)) (bestF l s (j + 1))) := by
            rw [HE.out]
            exact .inr ⟨b2, rv2, rfl, hw2, hDp, Nat.le_trans hb.out.size hwb2⟩
          clear hb2 hw2 hwb2
          go_wp2_with fail
          exact ⟨⟨j + 1, by omega, by go_num, HX, HB2⟩, by (simp [intOf]) <;> omega⟩
        · have HWB := hid_of hw
          have HWP := hid_of hwb
          clear hw hwb
          go_wp2_with fail
          refine (pwritten_any wr _ s a cap l HLW.out HM.out (HS.out HM.out) _ HF.out).mono ?_
          rintro e w2 ⟨b2, rfl, hb2, hwb2, hw2⟩
          obtain ⟨rv2, hw2⟩ := hw2 D rfl
          have HB2 : Hid (Below w.heap.size w w2) := hb.out.trans (hb2.mono hb.out.size)
          have HWD := hid_of hw2
          have HWB2 := hid_of (HWB.out.below hb2)
          have HX1 : Hid (BestAt w w2 (.pointer (some ⟨b2, 0, none⟩)) D) := .inr ⟨b2, rv2, rfl, hw2, hDp, Nat.le_trans hb.out.size hwb2⟩
          have HX2 : Hid (BestAt w w2 (.pointer (some ⟨b, 0, none⟩)) B) := .inr ⟨b, rv, rfl, HWB2.out, hp, HWP.out⟩
          clear hb2 hw2 hwb2
          by_cases hlt : D.length < B.length
          · have HE : Hid (bestF l s (j + 1) = D) := by show _ = _; rw [HNX.out, if_pos (.inr hlt)]
            rw [← HE.out] at HX1
            go_wp2_with first
              | (go_at_call_of 27 (Value.pointer (some ⟨b2, 0, none⟩)); refine (len_any _ _ _ _ HWD.out).mono ?_; rintro e w3 ⟨rfl, rfl⟩)
              | (go_at_call_of 27 (Value.pointer (some ⟨b, 0, none⟩)); refine (len_any _ _ _ _ HWB2.out).mono ?_; rintro e w3 ⟨rfl, rfl⟩)
            exact ⟨⟨j + 1, by omega, by go_num, HX1, HB2⟩, by (simp [intOf]) <;> omega⟩
          · have HE : Hid (bestF l s (j + 1) = B) := by show _ = _; rw [HNX.out, if_neg (by omega)]
            rw [← HE.out] at HX2
            go_wp2_with first
              | (go_at_call_of 27 (Value.pointer (some ⟨b2, 0, none⟩)); refine (len_any _ _ _ _ HWD.out).mono ?_; rintro e w3 ⟨rfl, rfl⟩)
              | (go_at_call_of 27 (Value.pointer (some ⟨b, 0, none⟩)); refine (len_any _ _ _ _ HWB2.out).mono ?_; rintro e w3 ⟨rfl, rfl⟩)
            exact ⟨⟨j + 1, by omega, by go_num, HX2, HB2⟩, by (simp [intOf]) <;> omega⟩
    · have e : j = 19 := by omega
      subst e
      have hpos := bestF_pos HM.out s 19 (by decide)
      obtain ⟨L, hL⟩ : ∃ L, L = pack (bestF l s 19) := ⟨_, rfl⟩
      have HLP := hid_of hL
      have HRR : Hid (R = (L, 0)) := by show _ = _; rw [HR.out, hL]
      have hlen := bestF_len l s 19
      rcases hbest.out with ⟨rfl, hB0⟩ | ⟨b, rv, rfl, hw, hp, hwb⟩
      · rw [hB0] at hpos
        exact absurd hpos (by decide)
      · have HW := hid_of hw
        clear hL hw hwb hp hpos
        have hjb : decide (((19 : Nat) : Int) < 19) = false := rfl
        go_wp2_with fail
        refine (bytes_any wr b rv _ L HLP.out HW.out (by omega)).mono ?_
        rintro e w3 ⟨rfl, h3, hb3⟩
        have HO3 : Hid (OwnBytes w3 w.heap.size (.slice (some ⟨wr.heap.size, 0, none⟩) L.length L.length) L) := ownsRow_base h3 hb.out.size
        have HB3 : Hid (Below w.heap.size w w3) := hb.out.trans (hb3.mono hb.out.size)
        clear h3 hb3
        go_wp2_with fail
        go_ret2
        rw [HRR.out]
        exact ⟨_, rfl, HO3.out, .inr ⟨_, rfl⟩, HB3.out⟩

end Go.Proofs.Ythkfaackkcdcoaa

/- The document's own next number: TakeRice. -/
namespace Go.Proofs.Ythkfaackkcdcoaa
set_option linter.unusedVariables false
set_option linter.unusedSimpArgs false
open Go.RowKit Dg

theorem isNum_zero : isNum 0 = true := by decide

end Go.Proofs.Ythkfaackkcdcoaa

/- The document's own samples and residuals out of digits. -/
namespace Go.Proofs.Ythkfaackkcdcoaa
set_option linter.unusedVariables false
set_option linter.unusedSimpArgs false
open Go.RowKit Dg

theorem below_keep {B : Nat} {w w' : World} (h : Below B w w') : Kept (fun k => B ≤ k) w w' := ⟨h.os, h.tape, h.output, h.size, fun k _ hf => h.block k (by omega)⟩
theorem BtAt.under {B : Nat} {w w' : World} {v : Value} {ds : List Bool} (h : BtAt w v ds) (hb : Below B w w') (hv : ∀ k, v.ownBlock = some k → k < B) : BtAt w' v ds :=
  h.kept (below_keep hb) (fun k hk => by have := hv k hk; omega)
theorem takeD_some {ds : List Bool} {n : Nat} (hn : n ≤ 62) (h : n ≤ ds.length) : takeD ds n = some (num (ds.take n), ds.drop n) ∧ getOut ds (n : Int) = (num (ds.take n), n, true) := by
  refine ⟨by unfold takeD; rw [if_pos h], ?_⟩
  unfold getOut
  rw [if_pos ⟨by omega, by omega, by omega⟩, Int.toNat_natCast]
theorem takeD_none {ds : List Bool} {n : Nat} (h : ¬ n ≤ ds.length) : takeD ds n = none ∧ getOut ds (n : Int) = (0, 0, false) := by
  refine ⟨by unfold takeD; rw [if_neg h], ?_⟩
  unfold getOut
  rw [if_neg (fun h1 => h (by omega))]
theorem num_small (ds : List Bool) (n : Nat) : num (ds.take n) < 2 ^ n := by
  have h1 := num_lt (ds.take n)
  have h2 : (2 : Nat) ^ (ds.take n).length ≤ 2 ^ n := Nat.pow_le_pow_right (by decide) (by simp; omega)
  omega
/-- What samples, takeResiduals answer. -/
def TookT (w w' : World) (l : List Nat) (v0 : Value) (T : Option (List Int × List Bool)) (e : Ending) : Prop :=
  match T with
  | none => ∃ x v, e = .returned (.tuple #[x, v, .bool false]) ∧ Below w.heap.size w w'
  | some q => ∃ x v p, e = .returned (.tuple #[x, v, .bool true]) ∧ OwnInts w' w.heap.size x q.1 ∧ BtAt w' v (left l p) ∧ q.2 = left l p ∧ (∀ k, v.ownBlock = some k → v0.ownBlock = some k) ∧ Below w.heap.size w w'

end Go.Proofs.Ythkfaackkcdcoaa
