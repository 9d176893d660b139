/- The texts Ref5, Own, BytesB, CopyB, DkMath, one behind the other. -/
import Derived.Test.YtjmeneddhalodaaPart01
import Derived.Laws.AppendOwnNone
import Derived.Laws.IdiomStrings
import Derived.Lib.AppendZeros
import Derived.Laws.CopyOwn

/- Lend and Intact. -/
namespace Go.Proofs.Ytjmeneddhalodaa
set_option linter.unusedVariables false
set_option linter.unusedSimpArgs false
open Go.RowKit Dg

/-- 'make([]T, n, c)': a new row of c zero elements. -/
theorem wpList_make_cap {P : Program} (w : World) {ops : Array Oper} {rest : List Oper} {o : Oper} {a : Act} {Q : Exit → Act → World → Prop}
    (hg : o.guard = none) (l c : Operand) (t : TypeId) (hop : o.op = Op.makeSlice t l c)
    (e : TypeId) (i : TypeInfo) (z : Value) (h1 : P.underlying t = some (.slice e)) (h2 : P.info? e = some i) (h3 : i.zero = some z)
    (kl kc : IntKind) (L C : Int) (n m : Nat) (hl : a.eval l = .int kl L) (hc : a.eval c = .int kc C) (hL : L = (n : Int)) (hC : C = (m : Int)) (hnm : n ≤ m) (b2 : i.bytes * m ≤ 281474976710656) (b3 : m ≤ maxLen)
    (hK : ∀ cur : Array Value, cur.size = m * i.size → wpList P ops Q rest (a.put o.dst (.slice (some ⟨w.heap.size, 0, none⟩) n m)) (w.alloc (.cells cur e))) :
    wpList P ops Q (o :: rest) a w := by
  refine wpList_plain hg fun K hK' => ?_
  have b3' : (m : Int) ≤ 9223372036854775807 := by unfold maxLen at b3; omega
  have b2' : (i.bytes : Int) * (m : Int) ≤ 281474976710656 := by
    have h : ((i.bytes * m : Nat) : Int) ≤ 281474976710656 := by omega
    rwa [Int.natCast_mul] at h
  have hrun := run_make (P := P) w t e i z h1 h2 h3 kl kc n m (by omega) (by omega) b2' b3'
  simp only [Int.toNat_natCast] at hrun
  subst hL
  subst hC
  unfold Oper.wp
  simp [execOp, hop, hl, hc, hrun, Result.andThen]
  exact hK' _ _ (hK _ (size_madeCells _ _))

/-- A row's cells, all of them. -/
def RowIs (w : World) (g : Nat) (X : List Value) : Prop := w.heap[g]? = some (.cells X.toArray 5 (0, 0))
theorem RowIs.cell {w : World} {g : Nat} {X : List Value} (h : RowIs w g X) {j : Nat} {u : Value} (hu : X[j]? = some u) : w.cell? ⟨g, j, none⟩ = some u := by
  have h' : w.heap[g]? = some (.cells X.toArray 5 (0, 0)) := h
  simp only [World.cell?, h']
  simpa using hu
theorem RowIs.frozen {w : World} {g : Nat} {X : List Value} (h : RowIs w g X) (j : Nat) : w.frozen? ⟨g, j, none⟩ = false := by
  have h' : w.heap[g]? = some (.cells X.toArray 5 (0, 0)) := h
  simp [World.frozen?, h']
theorem RowIs.set {w : World} {g : Nat} {X : List Value} (h : RowIs w g X) (j : Nat) (u : Value) : RowIs (w.setCell ⟨g, j, none⟩ u) g (X.set j u) := by
  have := heap_setCell_of (o := j) (show w.heap[g]? = some (.cells X.toArray 5 (0, 0)) from h) u
  unfold RowIs
  rw [this]
  simp
theorem RowIs.kept {w w' : World} {g : Nat} {X : List Value} {F : Nat → Prop} (h : RowIs w g X) (hk : Kept F w w') (hF : ¬ F g) : RowIs w' g X := by
  have h' : w.heap[g]? = some (.cells X.toArray 5 (0, 0)) := h
  unfold RowIs
  rw [hk.block g (Array.getElem?_eq_some_iff.1 h').1 hF]
  exact h'
theorem RowIs.below {w w' : World} {g : Nat} {X : List Value} (h : RowIs w g X) (hb : Below w.heap.size w w') : RowIs w' g X := h.kept (F := fun _ => False) (Kept.of_below hb) (fun h => h)
theorem RowIs.lt {w : World} {g : Nat} {X : List Value} (h : RowIs w g X) : g < w.heap.size := by
  have h' : w.heap[g]? = some (.cells X.toArray 5 (0, 0)) := h
  exact (Array.getElem?_eq_some_iff.1 h').1

set_option maxRecDepth 100000 in
set_option maxHeartbeats 2000000 in
theorem lend_any (w : World) (v : Value) (l : List Nat) (h : SlAt w v l) (hl : l.length ≤ 1000000) :
    Calls Try.prog 49 #[v] w fun e w' => e = .returned (.slice (some ⟨w.heap.size, 0, none⟩) l.length (l.length + 3)) ∧ RowIs w' w.heap.size (u8s (l ++ [85, 85, 85])) ∧ Below w.heap.size w w' := by
  obtain ⟨i0, hi, hz0, hz1, hz2⟩ := info_parts Try.info5
  obtain ⟨ao, cap, rfl, hc⟩ := h
  have HC : Hid (∀ j x, l[j]? = some x → ∃ b off, ao = some ⟨b, off, none⟩ ∧ w.cell? ⟨b, off + j, none⟩ = some (.int .u8 ((x : Nat) : Int))) := hc
  clear hc
  go_enter Try.func49, Try.ntmps49
  go_wp2_with (at_make; go_must (refine wpList_make_cap _ rfl _ _ 30 rfl 5 i0 (.int .u8 0) Try.underlying30 hi hz0 _ _ _ _ l.length (l.length + 3) rfl rfl rfl (by omega) (by omega) ?b1 ?b2 ?_))
  case b1 => rw [hz2]; omega
  case b2 => unfold maxLen; omega
  intro cur hsz
  have HB : Hid (Below w.heap.size w (w.alloc (.cells cur 5))) := (Below.refl _ _).alloc (Nat.le_refl _) _
  have HCUR : Hid ((w.alloc (.cells cur 5)).heap[w.heap.size]? = some (.cells cur.toList.toArray 5 (0, 0))) := by show (w.alloc (.cells cur 5)).heap[w.heap.size]? = _; rw [heap_alloc_new w _]
  go_wp2_with (refine wpList_copy_splice rfl (.tmp 12) (.tmp 13) 30 30 rfl 5 Try.underlying30 (by simp [hi, hz1]) _ _ _ _ _ _ rfl rfl w.heap.size 0 cur.toList 5 HCUR.out (u8s l) ?c1 ?c2 ?c3 ?c4 w.heap.size w HB.out (Nat.le_refl _) ?_)
  case c1 => show _ = min _ _; simp
  case c2 =>
    intro h0
    have h0' : 0 < l.length := by simpa using h0
    obtain ⟨b, off, hao, hcell⟩ := HC.out 0 l[0] (by simp)
    refine ⟨⟨b, off, none⟩, hao, fun j u hu => ?_⟩
    rw [u8s_get] at hu
    obtain ⟨x, hx, rfl⟩ := Option.map_eq_some_iff.1 hu
    obtain ⟨b', off', hao', hcell'⟩ := HC.out j x hx
    rw [hao] at hao'
    cases hao'
    have hadd : (⟨b, off, none⟩ : Addr).add j = ⟨b, off + j, none⟩ := by simp [Addr.add]
    rw [hadd, HB.out.cell (p := ⟨b, off + j, none⟩) (World.block_lt_of_cell? w _ hcell')]
    exact hcell'
  case c3 => simp; omega
  case c4 => intro u hu; simp [u8s] at hu; obtain ⟨x, _, rfl⟩ := hu; rfl
  intro w2 hg2 hb2
  have HR2 : Hid (RowIs w2 w.heap.size (splice cur.toList 0 (u8s l))) := hg2
  have HB2 : Hid (Below w.heap.size w w2) := hb2
  have HX : Hid (splice cur.toList 0 (u8s l) = u8s l ++ cur.toList.drop l.length) := by show _ = _; simp [splice]
  have hd3 : (cur.toList.drop l.length).length = 3 := by simp; omega
  obtain ⟨g, hg⟩ : ∃ g, g = w.heap.size := ⟨_, rfl⟩
  rw [← hg] at HR2 ⊢
  have HSG : Hid (g = w.heap.size) := hg
  clear hg2 hb2 HCUR HB hg
  go_wp2
  go_loopw [5] (fun i wr => ∃ (j : Nat) (X : List Value), j ≤ 3 ∧ i = .int .i64 ((l.length : Int) + j) ∧ Hid (RowIs wr g X) ∧ X.length = l.length + 3 ∧ Hid (X.take (l.length + j) = u8s (l ++ List.replicate j 85)) ∧ Hid (Below w.heap.size w wr)) (fun i _ => l.length + 3 - (intOf i).toNat)
  case atStart =>
    refine ⟨0, splice cur.toList 0 (u8s l), by omega, by simp, HR2.out, ?_, ?_, HB2.out⟩
    · rw [HX.out]; simp; omega
    · show _ = _
      rw [HX.out]
      simp
  case round =>
    obtain ⟨j, X, hj, rfl, hrow, hXl, hX, hbl⟩ := hrel
    by_cases hj3 : j < 3
    · obtain ⟨u, hu⟩ : ∃ u, X[l.length + j]? = some u := ⟨X[l.length + j], by simp [hXl, hj3]⟩
      have hcell := hrow.out.cell hu
      have hfz := hrow.out.frozen (l.length + j)
      have hlt : l.length + j < l.length + 3 := by omega
      go_wp2
      go_roundw
      case rel =>
        refine ⟨j + 1, X.set (l.length + j) (.int .u8 85), by omega, by go_num, hrow.out.set _ _, by simp [hXl], ?_, hbl.out.setCell (by show _ ≤ g; have := HSG.out; omega) _⟩
        show _ = _
        rw [← Nat.add_assoc, List.take_add_one, List.take_set_of_le (by omega), hX.out, List.getElem?_set_self (by omega), List.replicate_succ', ← List.append_assoc]
        simp [u8s]
      case measure => simp [intOf]; omega
    · have e : j = 3 := by omega
      subst e
      go_wp2
      go_ret
      refine ⟨by rw [← HSG.out]; rfl, ?_, hbl.out⟩
      have h1 := hX.out
      rw [List.take_of_length_le (by omega)] at h1
      have h2 : u8s (l ++ [85, 85, 85]) = X := h1.symm
      rw [h2]
      exact HSG.out ▸ hrow.out

set_option maxRecDepth 100000 in
set_option maxHeartbeats 4000000 in
theorem intact_any (w : World) (g : Nat) (v : Value) (l : List Nat) (hg : RowIs w g (u8s (l ++ [85, 85, 85]))) (h : SlAt w v l) (hl : l.length ≤ 1000000) :
    Calls Try.prog 51 #[.slice (some ⟨g, 0, none⟩) l.length (l.length + 3), v] w fun e w' => e = .returned (.bool true) ∧ ∃ n, w' = w.drewN n := by
  obtain ⟨ao, cap, rfl, hc⟩ := h
  have HC : Hid (∀ j x, l[j]? = some x → ∃ b off, ao = some ⟨b, off, none⟩ ∧ w.cell? ⟨b, off + j, none⟩ = some (.int .u8 ((x : Nat) : Int))) := hc
  have HG : Hid (RowIs w g (u8s (l ++ [85, 85, 85]))) := hg
  clear hc hg
  go_enter Try.func51, Try.ntmps51
  go_wp2
  go_loopw [27] (fun i wr => ∃ k m : Nat, k ≤ l.length + 3 ∧ i = .int .i64 k ∧ wr = w.drewN m) (fun i _ => l.length + 3 - (intOf i).toNat)
  case atStart => exact ⟨0, 0, Nat.zero_le _, rfl, rfl⟩
  case round =>
    obtain ⟨k, m, hk, rfl, rfl⟩ := hrel
    by_cases hkn : k < l.length
    · obtain ⟨b1, o1, rfl, e1⟩ := HC.out k l[k] (by simp [hkn])
      have e2 : w.cell? ⟨g, k, none⟩ = some (.int .u8 ((l[k] : Nat) : Int)) := HG.out.cell (by rw [u8s_get, List.getElem?_append_left hkn]; simp [hkn])
      obtain ⟨x, hx⟩ : ∃ x : Nat, x = l[k] := ⟨_, rfl⟩
      rw [← hx] at e1 e2
      have hlt3 : k < l.length + 3 := by omega
      clear hx
      have hge : decide (l.length ≤ k) = false := by simp; omega
      go_wp2_with fail
      go_quiet (fail)
      go_wp2
      go_roundw
      case rel => exact ⟨k + 1, _, by omega, by go_num, rfl⟩
      case measure => simp [intOf]; omega
    · by_cases hk3 : k < l.length + 3
      · have e2 : w.cell? ⟨g, k, none⟩ = some (.int .u8 85) := HG.out.cell (by
          rw [u8s_get, List.getElem?_append_right (by omega)]
          have : k - l.length = 0 ∨ k - l.length = 1 ∨ k - l.length = 2 := by omega
          rcases this with h | h | h <;> rw [h] <;> rfl)
        have hlt : decide (k < l.length) = false := by simp; omega
        have hge : decide (l.length ≤ k) = true := by simp; omega
        go_wp2_with fail
        go_quiet (fail)
        go_wp2
        go_roundw
        case rel => exact ⟨k + 1, _, by omega, by go_num, rfl⟩
        case measure => simp [intOf]; omega
      · go_wp2
        go_ret
        exact ⟨rfl, m, rfl⟩

end Go.Proofs.Ytjmeneddhalodaa

/- Rows of bytes of the call's own: cells, parts, copies; a cut slice of bytes. -/
namespace Go.Proofs.Ytjmeneddhalodaa
set_option linter.unusedVariables false
set_option linter.unusedSimpArgs false
open Go.RowKit Dg

/-- What a cut slice of bytes is. -/
theorem cut_row {w : World} {a : Option Addr} {len cap n : Nat} {zs : List Int} (hr : IsRow .u8 w a len cap zs) :
    ∃ l : List Nat, l.length = min len n ∧ (∀ x ∈ l, x < 256) ∧ SlAt w (.slice a (min len n) cap) l ∧ len ≤ cap ∧ cap ≤ maxLen ∧ (a = none → len = 0 ∧ cap = 0) := by
  obtain ⟨l0, hl0, hl256, hsl⟩ := hr.bytes
  have hcut : len ≤ cap ∧ cap ≤ maxLen ∧ (a = none → len = 0 ∧ cap = 0) := by
    rcases hr with ⟨rfl, rfl, rfl, rfl⟩ | ⟨x, rfl, hle, hm, hz, hc, hwf⟩
    · exact ⟨Nat.le_refl _, by decide, fun _ => ⟨rfl, rfl⟩⟩
    · exact ⟨hle, hm, fun h => by cases h⟩
  exact ⟨l0.take (min len n), by simp; omega, fun x hx => hl256 x (List.mem_of_mem_take hx), hsl _ (by omega), hcut⟩
theorem SlAt.lt {w : World} {v : Value} {l : List Nat} (h : SlAt w v l) (hne : l ≠ []) : ∀ k, v.ownBlock = some k → k < w.heap.size := by
  obtain ⟨a1, c1, rfl, hc1⟩ := h
  have hpos : 0 < l.length := List.length_pos_iff.2 hne
  obtain ⟨b1, o1, rfl, e⟩ := hc1 0 l[0] (by simp)
  intro k hk
  cases hk
  exact World.block_lt_of_cell? w _ e
theorem SlAt.kept' {w w' : World} {v : Value} {l : List Nat} {F : Nat → Prop} (h : SlAt w v l) (hk : Kept F w w') (hF : l ≠ [] → ∀ k, v.ownBlock = some k → ¬ F k) : SlAt w' v l := by
  by_cases hne : l = []
  · subst hne
    obtain ⟨a1, c1, rfl, _⟩ := h
    exact ⟨a1, c1, rfl, fun j x hx => by simp at hx⟩
  · exact h.kept hk (hF hne)
theorem SlAt.drewN {w : World} {v : Value} {l : List Nat} (h : SlAt w v l) (n : Nat) : SlAt (w.drewN n) v l := h
theorem SlAt.of_row {w : World} {g : Nat} {l r : List Nat} {c : Nat} (h : RowIs w g (u8s (l ++ r))) : SlAt w (.slice (some ⟨g, 0, none⟩) l.length c) l := by
  refine ⟨some ⟨g, 0, none⟩, c, rfl, fun j x hx => ⟨g, 0, rfl, ?_⟩⟩
  have hj : j < l.length := (List.getElem?_eq_some_iff.1 hx).1
  rw [Nat.zero_add]
  exact h.cell (by rw [u8s_get, List.getElem?_append_left hj, hx]; rfl)
/-- A row of bytes of the call's own. -/
def OwnBytes (w : World) (base : Nat) (v : Value) (l : List Nat) : Prop := w.ownsRow base 5 1 v l.length (u8s l)
set_option maxHeartbeats 1000000 in
theorem copyB_any (w : World) (sv : Value) (l : List Nat) (h : SlAt w sv l) (hl : l.length ≤ 1000000) (h0 : ∀ n c, sv = .slice none n c → c = 0) :
    Calls Try.prog 24 #[sv] w fun e w' => ∃ v, e = .returned v ∧ OwnBytes w' w.heap.size v l ∧ Below w.heap.size w w' := by
  obtain ⟨i0, hi, hz0, hz1, hz2⟩ := info_parts Try.info5
  obtain ⟨a1, c1, rfl, hc1⟩ := h
  have HC : Hid (∀ j x, l[j]? = some x → ∃ b off, a1 = some ⟨b, off, none⟩ ∧ w.cell? ⟨b, off + j, none⟩ = some (.int .u8 ((x : Nat) : Int))) := hc1
  clear hc1
  by_cases hne : l = []
  · subst hne
    cases a1 with
    | none =>
      obtain rfl : c1 = 0 := h0 _ _ rfl
      go_enter Try.func24, Try.ntmps24
      go_wp2_with (at_builtin; go_must (refine wpList_append_own_none rfl _ (.tmp 3) 30 rfl w.heap.size 5 i0 1 Try.underlying30 hi (.slice none 0 0) 0 [] rfl (World.ownsRow_nil _ _ _ _) rfl ?_))
      go_ret
      exact ⟨_, rfl, World.ownsRow_nil _ _ _ _, Below.refl _ _⟩
    | some x =>
      go_enter Try.func24, Try.ntmps24
      go_wp2_with (at_builtin; go_must (refine wpList_append_own _ rfl _ (.tmp 3) 30 rfl w.heap.size 5 i0 (.int .u8 0) 1 1 Try.underlying30 hi hz0 hz1 hz2 rfl (by decide) (.slice none 0 0) 0 [] rfl (World.ownsRow_nil _ _ _ _) x 0 c1 [] rfl (by simp) ?c1 ?c2 ?b1 ?b2 (Nat.le_refl _) ?_))
      case c1 => intro j u hu; simp at hu
      case c2 => intro u hu; simp at hu
      case b1 => decide
      case b2 => decide
      intro v' w' ho' hg' _
      have H1 : Hid (OwnBytes w' w.heap.size v' []) := by show World.ownsRow _ _ _ _ _ _ _; simpa [u8s] using ho'
      have H2 : Hid (Below w.heap.size w w') := (Below.refl _ _).grown hg' (Nat.le_refl _) (fun k hk => by cases hk)
      clear ho' hg'
      go_wp2
      go_ret
      exact ⟨_, rfl, H1.out, H2.out⟩
  · have hpos : 0 < l.length := List.length_pos_iff.2 hne
    obtain ⟨b1, o1, rfl, _⟩ := HC.out 0 l[0] (by simp)
    go_enter Try.func24, Try.ntmps24
    go_wp2_with (at_builtin; go_must (refine wpList_append_own _ rfl _ (.tmp 3) 30 rfl w.heap.size 5 i0 (.int .u8 0) 1 1 Try.underlying30 hi hz0 hz1 hz2 rfl (by decide) (.slice none 0 0) 0 [] rfl (World.ownsRow_nil _ _ _ _) ⟨b1, o1, none⟩ l.length c1 (u8s l) rfl (by simp) ?c1 ?c2 ?b1 ?b2 (Nat.le_refl _) ?_))
    case c1 =>
      intro j u hu
      rw [u8s_get] at hu
      obtain ⟨x, hx, rfl⟩ := Option.map_eq_some_iff.1 hu
      obtain ⟨b, off, e, hc⟩ := HC.out j x hx
      cases e
      have hadd : (⟨b1, o1, none⟩ : Addr).add j = ⟨b1, o1 + j, none⟩ := by simp [Addr.add]
      rw [hadd]
      exact hc
    case c2 => intro u hu; simp [u8s] at hu; obtain ⟨x, _, rfl⟩ := hu; rfl
    case b1 => unfold maxLen; omega
    case b2 => omega
    intro v' w' ho' hg' _
    have H1 : Hid (OwnBytes w' w.heap.size v' l) := by show World.ownsRow _ _ _ _ _ _ _; simpa using ho'
    have H2 : Hid (Below w.heap.size w w') := (Below.refl _ _).grown hg' (Nat.le_refl _) (fun k hk => by cases hk)
    clear ho' hg'
    go_wp2
    go_ret
    exact ⟨_, rfl, H1.out, H2.out⟩
set_option maxHeartbeats 400000 in
theorem cutCopyB_any (w : World) (a : Option Addr) (len cap n : Nat) (l : List Nat) (h : SlAt w (.slice a (min len n) cap) l) (hn : n ≤ 4096) (hle : len ≤ cap) (hm : cap ≤ maxLen) (h0 : a = none → len = 0 ∧ cap = 0) :
    Calls Try.prog 30 #[.slice a len cap, .int .i64 n] w fun e w' => ∃ v, e = .returned v ∧ OwnBytes w' w.heap.size v l ∧ Below w.heap.size w w' := by
  have hl : l.length ≤ 1000000 := by
    obtain ⟨a1, c1, e, _⟩ := h
    injection e with _ e2
    omega
  have HC : Hid (Calls Try.prog 24 #[.slice a (min len n) cap] w fun e w' => ∃ v, e = .returned v ∧ OwnBytes w' w.heap.size v l ∧ Below w.heap.size w w') := copyB_any w _ l h hl (fun n c e => by cases a with
    | none => cases e; exact (h0 rfl).2
    | some x => cases e)
  have HD : Hid (Calls Try.prog 21 #[.slice a len cap, .int .i64 n] w fun e w' => e = .returned (.slice a (min len n) cap) ∧ w = w') := cut_any w a len cap n hn hle hm h0
  clear h h0 hle hm
  go_enter Try.func30, Try.ntmps30
  go_wp2_with (first
    | (go_at_call 21; refine HD.out.mono ?_; rintro e w1 ⟨rfl, rfl⟩)
    | (go_at_call 24; refine HC.out.mono ?_; rintro e w1 ⟨v, rfl, ho, hb⟩; have H1 : Hid (OwnBytes w1 w.heap.size v l) := ho; have H2 : Hid (Below w.heap.size w w1) := hb; clear ho hb))
  go_ret
  exact ⟨_, rfl, H1.out, H2.out⟩
set_option maxHeartbeats 1000000 in
/-- Same at unlike bytes. -/
theorem same_not (w : World) (v1 v2 : Value) (l1 l2 : List Nat) (h1 : SlAt w v1 l1) (h2 : SlAt w v2 l2) (hll : l2.length = l1.length) (hl : l1.length ≤ 1000000) (hne : l1 ≠ l2) :
    Calls Try.prog 23 #[v1, v2] w fun e w' => e = .returned (.bool false) ∧ ∃ n, w' = w.drewN n := by
  obtain ⟨a1, c1, rfl, hc1⟩ := h1
  obtain ⟨a2, c2, rfl, hc2⟩ := h2
  rw [hll]
  have H1 : Hid (∀ j x, l1[j]? = some x → ∃ b off, a1 = some ⟨b, off, none⟩ ∧ w.cell? ⟨b, off + j, none⟩ = some (.int .u8 ((x : Nat) : Int))) := hc1
  have H2 : Hid (∀ j x, l2[j]? = some x → ∃ b off, a2 = some ⟨b, off, none⟩ ∧ w.cell? ⟨b, off + j, none⟩ = some (.int .u8 ((x : Nat) : Int))) := hc2
  have HLL : Hid (l2.length = l1.length) := hll
  have HNE : Hid (l1 ≠ l2) := hne
  clear hc1 hc2 hll hne
  go_enter Try.func23, Try.ntmps23
  go_wp2
  go_loopw [5] (fun i wr => ∃ k m : Nat, k ≤ l1.length ∧ i = .int .i64 k ∧ Hid (l1.take k = l2.take k) ∧ wr = w.drewN m) (fun i _ => l1.length - (intOf i).toNat)
  case atStart => exact ⟨0, 0, Nat.zero_le _, rfl, rfl, rfl⟩
  case round =>
    obtain ⟨k, m, hk, rfl, hsame, rfl⟩ := hrel
    by_cases hkn : k < l1.length
    · have hk2 : k < l2.length := by rw [HLL.out]; exact hkn
      obtain ⟨b1, o1, rfl, e1⟩ := H1.out k l1[k] (by simp [hkn])
      obtain ⟨b2, o2, rfl, e2⟩ := H2.out k l2[k] (by simp [hk2])
      obtain ⟨x, hx⟩ : ∃ x : Nat, x = l1[k] := ⟨_, rfl⟩
      obtain ⟨y, hy⟩ : ∃ y : Nat, y = l2[k] := ⟨_, rfl⟩
      have HX : Hid (l1[k]? = some x) := by show _ = _; rw [hx]; simp [hkn]
      have HY : Hid (l2[k]? = some y) := by show _ = _; rw [hy]; simp [hk2]
      rw [← hx] at e1
      rw [← hy] at e2
      clear hx hy H1 H2 hk2
      by_cases hxy : x = y
      · have HXY : Hid (x = y) := hxy
        subst hxy
        go_wp2
        go_region
        all_goals go_wp2
        all_goals go_roundw
        case rel => exact ⟨k + 1, m + 1, by omega, by go_num, by show _ = _; rw [List.take_add_one, List.take_add_one, hsame.out, HX.out, HY.out], rfl⟩
        case measure => simp [intOf]; omega
      · have hxy' : ((x : Int) != (y : Int)) = true := by simp; omega
        go_wp2
        go_region
        all_goals go_wp2
        all_goals go_ret
        all_goals exact ⟨rfl, m + 1, rfl⟩
    · have e : k = l1.length := by omega
      exfalso
      have := hsame.out
      rw [e, List.take_length, List.take_of_length_le (by rw [HLL.out]; exact Nat.le_refl _)] at this
      exact HNE.out this
/-- An append whose run is known, also a guarded one. -/
theorem wpList_append_go {P : Program} (w : World) {ops : Array Oper} {rest : List Oper} {o : Oper} {a : Act} {Q : Exit → Act → World → Prop} (hw : Region.wanted o (yielded ops a.tmps) = true) (s x : Operand) (t tn : TypeId)
    (ho : o.op = .call { callee := .builtin .append, args := #[s, x], argTypes := #[t, tn] }) (vs vx : Value) (hs : a.eval s = vs) (hx : a.eval x = vx)
    (v' : Value) (w' : World) (hr : (Builtin.append_ #[t, tn] o.type #[vs, vx]).run P w = .ok v' w') (h : wpList P ops Q rest (a.put o.dst v') w') : wpList P ops Q (o :: rest) a w :=
  BigFrame.wpList_want hw fun K hK => Lib.wp_append_run w s x t tn ho vs vx hs hx v' w' hr (hK _ _ h)
theorem zeros_u8 (m : Nat) : (Builtin.zeroCells (Value.int .u8 0).cells m).toList = u8s (List.replicate m 0) := by
  apply List.ext_getElem?
  intro k
  by_cases hk : k < m
  · simp [Builtin.zeroCells, u8s, hk, Value.cells, Nat.mod_one]
  · rw [List.getElem?_eq_none (by simp [Builtin.zeroCells, Value.cells]; omega), List.getElem?_eq_none (by simp; omega)]
theorem made_zeros (n : Nat) : (madeCells (Value.int .u8 0).cells (n * 1)).toList = u8s (List.replicate n 0) := by
  apply List.ext_getElem?
  intro k
  by_cases hk : k < n
  · simp [madeCells, u8s, hk, Value.cells, Nat.mod_one]
  · rw [List.getElem?_eq_none (by simp [madeCells]; omega), List.getElem?_eq_none (by simp; omega)]
theorem u8s_append (l m : List Nat) : u8s (l ++ m) = u8s l ++ u8s m := by simp [u8s]
theorem own_cell {w : World} {base g n c : Nat} {l : List Nat} {j x : Nat} (h : w.ownsRow base 5 1 (.slice (some ⟨g, 0, none⟩) n c) n (u8s l)) (hx : l[j]? = some x) :
    w.cell? ⟨g, j, none⟩ = some (.int .u8 (x : Int)) ∧ w.frozen? ⟨g, j, none⟩ = false := by
  have hl : l.length = n := by have := h.1; simpa using this
  have hj : j < l.length := (List.getElem?_eq_some_iff.1 hx).1
  rcases h.2 with ⟨e1, _⟩ | ⟨g', cap', cur, hv, hgb, hh, hncap, _, hcs, htake⟩
  · cases e1
  · cases hv
    refine ⟨?_, by simp [World.frozen?, hh]⟩
    have e : (u8s l)[j]? = some (.int .u8 (x : Int)) := by rw [u8s_get, hx]; rfl
    rw [← htake, List.getElem?_take, if_pos (by omega)] at e
    simp only [World.cell?, hh]
    simpa using e
theorem own_set {w : World} {base g n c : Nat} {l : List Nat} (h : w.ownsRow base 5 1 (.slice (some ⟨g, 0, none⟩) n c) n (u8s l)) (j y : Nat) (hj : j < n) :
    (w.setCell ⟨g, j, none⟩ (.int .u8 (y : Int))).ownsRow base 5 1 (.slice (some ⟨g, 0, none⟩) n c) n (u8s (l.set j y)) := by
  rw [← u8s_set]; exact ownsRow_set h j hj _
theorem own_cap {w : World} {base g n c : Nat} {xs : List Value} (h : w.ownsRow base 5 1 (.slice (some ⟨g, 0, none⟩) n c) n xs) : n ≤ c ∧ c ≤ maxLen := by
  rcases h.2 with ⟨e1, _⟩ | ⟨g', cap', cur, hv, hgb, hh, hncap, hm, _⟩
  · cases e1
  · cases hv
    exact ⟨hncap, hm⟩
/-- A row that has just been made. -/
theorem own_new (w : World) (base : Nat) (Z : Array Value) (N : Nat) (l : List Nat) (hZ : Z.toList = u8s l) (hl : l.length = N) (hN : N ≤ 1000000) (hb : base ≤ w.heap.size) :
    (w.alloc (.cells Z 5)).ownsRow base 5 1 (.slice (some ⟨w.heap.size, 0, none⟩) N N) N (u8s l) := by
  have hs : Z.size = N := by have := congrArg List.length hZ; simpa [hl] using this
  refine ⟨by simp [hl], .inr ⟨w.heap.size, N, Z, rfl, hb, heap_alloc_new w _, Nat.le_refl _, by unfold maxLen; omega, by omega, ?_⟩⟩
  rw [hZ]; exact List.take_of_length_le (by simp [hl])
/-- A part of a row. -/
theorem own_part {w : World} {base g n c : Nat} {l : List Nat} (h : w.ownsRow base 5 1 (.slice (some ⟨g, 0, none⟩) n c) n (u8s l)) (i m c' : Nat) (him : i + m ≤ n) :
    SlAt w (.slice (some ⟨g, i, none⟩) m c') ((l.drop i).take m) := by
  have hl : l.length = n := by have := h.1; simpa using this
  refine ⟨some ⟨g, i, none⟩, c', by simp; omega, fun j x hx => ⟨g, i, rfl, ?_⟩⟩
  have hj : j < m := by have := (List.getElem?_eq_some_iff.1 hx).1; simp at this; omega
  rw [List.getElem?_take, if_pos hj, List.getElem?_drop] at hx
  exact (own_cell h hx).1
theorem sl_cell {w : World} {a : Option Addr} {n cap : Nat} {l : List Nat} {j x : Nat} (h : SlAt w (.slice a n cap) l) (hx : l[j]? = some x) :
    ∃ b off, a = some ⟨b, off, none⟩ ∧ w.cell? ⟨b, off + j, none⟩ = some (.int .u8 ((x : Nat) : Int)) := by
  obtain ⟨a1, c1, e, hc⟩ := h
  cases e
  exact hc j x hx
theorem SlAt.take {w : World} {a : Option Addr} {n cap : Nat} {l : List Nat} (h : SlAt w (.slice a n cap) l) (k : Nat) (hk : k ≤ n) (hl : l.length = n) : SlAt w (.slice a k cap) (l.take k) := by
  refine ⟨a, cap, by simp; omega, fun j x hx => ?_⟩
  rw [List.getElem?_take] at hx
  split at hx
  · exact sl_cell h hx
  · cases hx
theorem SlAt.none_of (w : World) (a : Option Addr) (c : Nat) {n : Nat} (hn : n = 0) : SlAt w (.slice a n c) [] := ⟨a, c, by rw [hn]; rfl, fun j x hx => by simp at hx⟩
theorem SlAt.addr {w : World} {a : Option Addr} {n cap : Nat} {l : List Nat} (h : SlAt w (.slice a n cap) l) (hne : l ≠ []) : ∃ b off, a = some ⟨b, off, none⟩ := by
  have hpos : 0 < l.length := List.length_pos_iff.2 hne
  obtain ⟨b, off, e, _⟩ := sl_cell h (show l[0]? = some l[0] by simp)
  exact ⟨b, off, e⟩
theorem SlAt.drop {w : World} {x : Addr} {n cap c : Nat} {l : List Nat} (h : SlAt w (.slice (some x) n cap) l) (k : Nat) (hk : k ≤ n) (hl : l.length = n) : SlAt w (.slice (some (x.add k)) (n - k) c) (l.drop k) := by
  refine ⟨some (x.add k), c, by simp [hl], fun j y hy => ?_⟩
  rw [List.getElem?_drop] at hy
  obtain ⟨b, off, e, hc⟩ := sl_cell h hy
  cases e
  exact ⟨b, off + k, by simp [Addr.add], by rw [Nat.add_assoc]; exact hc⟩

end Go.Proofs.Ytjmeneddhalodaa

/- Slices of bytes that can be read, their parts; appends of them to rows of the call's own. -/
namespace Go.Proofs.Ytjmeneddhalodaa
set_option linter.unusedVariables false
set_option linter.unusedSimpArgs false
open Go.RowKit Dg

/-- A slice of bytes that can be read, and its room. -/
structure Bs (w : World) (a : Option Addr) (cap : Nat) (l : List Nat) : Prop where
  at_ : SlAt w (.slice a l.length cap) l
  le : l.length ≤ cap
  nil : a = none → cap = 0
theorem Bs.below {w w' : World} {a : Option Addr} {cap : Nat} {l : List Nat} (h : Bs w a cap l) (hb : Below w.heap.size w w') : Bs w' a cap l := ⟨h.at_.below hb, h.le, h.nil⟩
theorem Bs.kept {w w' : World} {a : Option Addr} {cap : Nat} {l : List Nat} {F : Nat → Prop} (h : Bs w a cap l) (hk : Kept F w w') (hF : l ≠ [] → ∀ k, (Value.slice a l.length cap).ownBlock = some k → ¬ F k) : Bs w' a cap l := ⟨h.at_.kept' hk hF, h.le, h.nil⟩
/-- Where b[k:] lies. -/
def lowA (a : Option Addr) (cap k : Nat) : Option Addr := if cap = k then a else a.map (·.add k)
theorem Bs.lo {w : World} {a : Option Addr} {cap : Nat} {l : List Nat} (h : Bs w a cap l) (k : Nat) (hk : k ≤ l.length) : Bs w (lowA a cap k) (cap - k) (l.drop k) := by
  unfold lowA
  by_cases hck : cap = k
  · have hl := h.le
    rw [if_pos hck]
    refine ⟨?_, by simp; omega, fun e => by have := h.nil e; omega⟩
    rw [List.drop_eq_nil_of_le (by omega)]
    exact SlAt.none_of _ _ _ rfl
  · rw [if_neg hck]
    cases a with
    | none => have := h.nil rfl; have := h.le; omega
    | some x =>
      refine ⟨?_, by have := h.le; simp; omega, fun e => by cases e⟩
      rw [List.length_drop]
      exact h.at_.drop k hk rfl
theorem Bs.hi {w : World} {a : Option Addr} {cap : Nat} {l : List Nat} (h : Bs w a cap l) (k : Nat) (hk : k ≤ l.length) : SlAt w (.slice a k cap) (l.take k) := h.at_.take k hk rfl
theorem Bs.of_row {w : World} {a : Option Addr} {len cap n : Nat} {zs : List Int} (hr : IsRow .u8 w a len cap zs) : ∃ l : List Nat, l.length = min len n ∧ (∀ x ∈ l, x < 256) ∧ Bs w a cap l ∧ len ≤ cap ∧ cap ≤ maxLen ∧ (a = none → len = 0 ∧ cap = 0) := by
  obtain ⟨l, hll, h256, hsl, hc1, hc2, hc3⟩ := cut_row (n := n) hr
  exact ⟨l, hll, h256, ⟨by rw [hll]; exact hsl, by omega, fun e => (hc3 e).2⟩, hc1, hc2, hc3⟩
theorem OwnBytes.bs {w : World} {base : Nat} {v : Value} {l : List Nat} (h : OwnBytes w base v l) : ∃ a cap, v = .slice a l.length cap ∧ Bs w a cap l := by
  have h' : w.ownsRow base 5 1 v l.length (u8s l) := h
  rcases h.2 with ⟨rfl, hn⟩ | ⟨g, cap, cur, rfl, hb, hh, hn, _, hcs, htake⟩
  · exact ⟨none, 0, by rw [hn], by rw [hn]; exact SlAt.of_owns h', by omega, fun _ => rfl⟩
  · exact ⟨some ⟨g, 0, none⟩, cap, rfl, SlAt.of_owns h', hn, fun e => by cases e⟩

theorem slice_hi (a : Option Addr) (n cap k : Nat) (hk : k ≤ cap) (W : World) : (Instr.sliceAt 30 (.slice a n cap) none (some (.int .i64 (k : Int))) none).run Try.prog W = .ok (.slice a k cap) W := by
  obtain ⟨i0, hi, hz0, hz1, hz2⟩ := info_parts Try.info5
  simp [Instr.sliceAt, Instr.slice, Instr.sliceBounds, Instr.sliceBound, asIntOf, run_underlying Try.underlying30, sizeOf, typeInfo, hi, hk]
  cases a <;> simp [Addr.add]
theorem slice_lo (a : Option Addr) (n cap k : Nat) (hk : k ≤ n) (W : World) : (Instr.sliceAt 30 (.slice a n cap) (some (.int .i64 (k : Int))) none none).run Try.prog W = .ok (.slice (lowA a cap k) (n - k) (cap - k)) W := by
  obtain ⟨i0, hi, hz0, hz1, hz2⟩ := info_parts Try.info5
  simp [Instr.sliceAt, Instr.slice, Instr.sliceBounds, Instr.sliceBound, asIntOf, run_underlying Try.underlying30, sizeOf, typeInfo, hi, hz1, hk, lowA]

/-- 'append(s, x...)' of bytes to a row of the call's own. -/
theorem wpList_append_bytes (w : World) {ops : Array Oper} {rest : List Oper} {o : Oper} {a : Act} {Q : Exit → Act → World → Prop}
    (hgd : o.guard = none) (s x : Operand) (ho : o.op = .call { callee := .builtin .append, args := #[s, x], argTypes := #[30, 30] })
    (base : Nat) (v : Value) (l : List Nat) (hs : a.eval s = v) (hown : OwnBytes w base v l) (xa : Option Addr) (xc : Nat) (m : List Nat) (hx : a.eval x = .slice xa m.length xc) (hm : Bs w xa xc m)
    (hl : l.length + m.length ≤ 1000000) (hbase : base ≤ w.heap.size)
    (h : ∀ v' w', Hid (OwnBytes w' base v' (l ++ m)) → Hid (Kept (fun k => v.ownBlock = some k) w w') → Hid (∀ k, v'.ownBlock = some k → v.ownBlock = some k ∨ w.heap.size ≤ k) → wpList Try.prog ops Q rest (a.put o.dst v') w') : wpList Try.prog ops Q (o :: rest) a w := by
  obtain ⟨i0, hi, hz0, hz1, hz2⟩ := info_parts Try.info5
  have hown' : w.ownsRow base 5 1 v l.length (u8s l) := hown
  cases xa with
  | none =>
    have hc := hm.nil rfl
    have hle := hm.le
    have hm0 : m = [] := List.eq_nil_of_length_eq_zero (by omega)
    subst hm0 hc
    refine wpList_append_own_none hgd s x 30 ho base 5 i0 1 Try.underlying30 hi v l.length (u8s l) hs hown' hx ?_
    refine h v w ?_ (Kept.refl _ _) (fun k hk => .inl hk)
    rw [List.append_nil]; exact hown
  | some ad =>
    have hcell : ∀ j u, (u8s m)[j]? = some u → w.cell? (ad.add j) = some u := by
      intro j u hu
      rw [u8s_get] at hu
      obtain ⟨y, hy, rfl⟩ := Option.map_eq_some_iff.1 hu
      obtain ⟨b, off, e, hc⟩ := sl_cell hm.at_ hy
      cases e
      have hadd : (⟨b, off, none⟩ : Addr).add j = ⟨b, off + j, none⟩ := by simp [Addr.add]
      rw [hadd]
      exact hc
    have hone : ∀ u ∈ u8s m, u.oneCell' = true := by intro u hu; simp [u8s] at hu; obtain ⟨y, _, rfl⟩ := hu; rfl
    by_cases hne : m = []
    · subst hne
      rcases hown'.2 with ⟨hv, hn⟩ | ⟨g, cap, cur, hv, hb, hh, hn, hcm, hcs, htake⟩
      · refine wpList_append_own _ hgd s x 30 ho base 5 i0 (.int .u8 0) 1 1 Try.underlying30 hi hz0 hz1 hz2 rfl (by decide) v l.length (u8s l) hs hown' ad 0 xc [] hx rfl (fun j u hu => by simp at hu) (fun u hu => by simp at hu) (by unfold maxLen; omega) (by omega) hbase ?_
        intro v' w' h1 h2 h3
        have hv' : v' = .slice none 0 0 := h3.2 ⟨hv, rfl⟩
        refine h v' w' ?_ (Kept.grown h2) (fun k hk => by rw [hv'] at hk; cases hk)
        show World.ownsRow _ _ _ _ _ _ _
        simpa [u8s_append] using h1
      · refine wpList_append_fits w hgd s x 30 ho base 5 i0 1 Try.underlying30 hi hz1 g l.length cap (u8s l) (hs.trans hv) (hv ▸ hown') ad 0 xc [] hx rfl (fun j u hu => by simp at hu) (fun u hu => by simp at hu) (by omega) ?_
        intro w' h1 h2
        refine h _ w' ?_ ?_ (fun k hk => .inl ?_)
        · show World.ownsRow _ _ _ _ _ _ _
          simpa [u8s_append] using h1
        · have := Kept.grown h2
          rw [hv]; exact this
        · rw [hv]; exact hk
    · refine wpList_append_mine _ hgd s x 30 ho base 5 i0 (.int .u8 0) 1 1 Try.underlying30 hi hz0 hz1 hz2 rfl (by decide) v l.length (u8s l) hs hown' ad m.length xc (u8s m) hx (by simp) hcell hone (List.length_pos_iff.2 hne) (by unfold maxLen; omega) (by omega) hbase ?_
      intro g cap w' h1 h2 h3
      refine h _ w' ?_ (Kept.grown h2.out) (fun k hk => ?_)
      · show World.ownsRow _ _ _ _ _ _ _
        rw [u8s_append, List.length_append]; exact h1.out
      · simp [Value.ownBlock] at hk
        subst hk
        exact h3.out

end Go.Proofs.Ytjmeneddhalodaa

/- 'copy(b, s)': bytes over the head of a row of bytes of the call's own. -/
namespace Go.Proofs.Ytjmeneddhalodaa
set_option linter.unusedVariables false
set_option linter.unusedSimpArgs false
open Go.RowKit Dg

/-- The bytes of l that fit laid over the head of L. -/
def over (l L : List Nat) : List Nat := l.take L.length ++ L.drop (min l.length L.length)
theorem length_over (l L : List Nat) : (over l L).length = L.length := by unfold over; simp; omega
theorem over_zeros {l : List Nat} {n : Nat} (h : l.length ≤ n) : over l (List.replicate n 0) = l ++ List.replicate (n - l.length) 0 := by
  unfold over
  rw [List.length_replicate, List.take_of_length_le h, List.drop_replicate, Nat.min_eq_left h]
theorem over_long {l L : List Nat} (h : L.length ≤ l.length) : over l L = l.take L.length := by
  unfold over
  rw [Nat.min_eq_right h, List.drop_length, List.append_nil]
theorem Kept.setRow (w : World) (g : Nat) (cs : Array Value) : Kept (fun k => k = g) w (w.setRow g cs) := ⟨rfl, rfl, rfl, by simp [World.setRow], fun k hk hf => setRow_other w g k cs hf⟩

theorem wpList_copy_bytes {P : Program} {w : World} {ops : Array Oper} {rest : List Oper} {o : Oper} {a : Act} {Q : Exit → Act → World → Prop} (hgd : o.guard = none) (d s : Operand) (dT sT : TypeId)
    (ho : o.op = .call { callee := .builtin .copy, args := #[d, s], argTypes := #[dT, sT] }) (hu : P.underlying dT = some (.slice 5)) (hsz : (P.info? 5).map (·.size) = some 1)
    (B g c : Nat) (L : List Nat) (hown : OwnBytes w B (.slice (some ⟨g, 0, none⟩) L.length c) L) (sp : Option Addr) (sCap : Nat) (l : List Nat) (hS : SlAt w (.slice sp l.length sCap) l)
    (hd : a.eval d = .slice (some ⟨g, 0, none⟩) L.length c) (hs : a.eval s = .slice sp l.length sCap)
    (h : ∀ w', Hid (OwnBytes w' B (.slice (some ⟨g, 0, none⟩) L.length c) (over l L)) → Hid (Kept (fun k => k = g) w w') → wpList P ops Q rest (a.put o.dst (goInt ((min l.length L.length : Nat) : Int))) w') : wpList P ops Q (o :: rest) a w := by
  by_cases h0 : min l.length L.length = 0
  · refine wpList_copy_nothing hgd d s dT sT ho 5 hu hsz _ _ _ _ _ _ hd hs h0 ?_
    have e : over l L = L := by
      unfold over
      rw [h0, List.drop_zero]
      have h1 : (l.take L.length).length = 0 := by rw [List.length_take]; omega
      rw [List.eq_nil_of_length_eq_zero h1]
      rfl
    have h2 := h w (by rw [e]; exact hown) (Kept.refl _ _)
    rw [h0] at h2
    exact h2
  · rcases hown.2 with ⟨e1, _⟩ | ⟨g', cap', cur, hv, hgb, hh, hncap, hm, hcs, htake⟩
    · cases e1
    · cases hv
      obtain ⟨ao, cp, hv2, hc⟩ := hS
      cases hv2
      obtain ⟨b, off, rfl, -⟩ := hc 0 (l[0]'(by omega)) (by rw [List.getElem?_eq_getElem])
      have hlen : (u8s (l.take L.length)).length = min l.length L.length := by simp [Nat.min_comm]
      have hcsz : L.length ≤ cur.size := by
        have h3 := congrArg List.length htake
        simp at h3
        omega
      refine wpList_copy_own hgd d s dT sT ho 5 hu hsz g 0 L.length c ⟨b, off, none⟩ l.length sCap hd hs cur 5 hh (u8s (l.take L.length)) hlen ?_ (by rw [hlen]; omega) ?_ ?_
      · intro j v hj
        rw [u8s_get] at hj
        obtain ⟨x, hx, rfl⟩ := Option.map_eq_some_iff.1 hj
        rw [List.getElem?_take] at hx
        split at hx
        · obtain ⟨b', off', hao, hcell⟩ := hc j x hx
          cases hao
          have hadd : (⟨b, off, none⟩ : Addr).add j = ⟨b, off + j, none⟩ := by simp [Addr.add]
          rw [hadd]
          exact hcell
        · cases hx
      · intro v hv
        obtain ⟨x, -, rfl⟩ := List.mem_map.1 hv
        rfl
      · have h4 := h (w.setRow g (cur.toList.take 0 ++ (u8s (l.take L.length) ++ cur.toList.drop (0 + (u8s (l.take L.length)).length))).toArray) ?_ (Kept.setRow _ _ _)
        · rw [hlen]
          rw [hlen] at h4
          exact h4
        · show OwnBytes _ _ _ _
          unfold OwnBytes
          rw [length_over]
          refine ⟨by simp [length_over], .inr ⟨g, c, _, rfl, hgb, setRow_heap w g _ _ 5 _ hh, hncap, hm, ?_, ?_⟩⟩
          · rw [hlen]; simp; omega
          · rw [hlen]
            unfold over
            have e1 : u8s (L.drop (min l.length L.length)) = (u8s L).drop (min l.length L.length) := by simp [u8s]
            rw [u8s_append, e1, ← htake, List.take_zero, List.nil_append, Nat.zero_add, List.take_append, hlen, List.drop_take, List.take_of_length_le (by rw [hlen]; omega)]

/-- The same over a row whose length is given by a number. -/
theorem wpList_copy_n {P : Program} {w : World} {ops : Array Oper} {rest : List Oper} {o : Oper} {a : Act} {Q : Exit → Act → World → Prop} (hgd : o.guard = none) (d s : Operand) (dT sT : TypeId)
    (ho : o.op = .call { callee := .builtin .copy, args := #[d, s], argTypes := #[dT, sT] }) (hu : P.underlying dT = some (.slice 5)) (hsz : (P.info? 5).map (·.size) = some 1)
    (B g c n : Nat) (L : List Nat) (hn : L.length = n) (hown : w.ownsRow B 5 1 (.slice (some ⟨g, 0, none⟩) n c) n (u8s L)) (sp : Option Addr) (sCap : Nat) (l : List Nat) (hS : SlAt w (.slice sp l.length sCap) l)
    (hd : a.eval d = .slice (some ⟨g, 0, none⟩) n c) (hs : a.eval s = .slice sp l.length sCap)
    (h : ∀ w' (k : Nat), Hid (w'.ownsRow B 5 1 (.slice (some ⟨g, 0, none⟩) n c) n (u8s (over l L))) → Hid (Kept (fun k => k = g) w w') → wpList P ops Q rest (a.put o.dst (goInt (k : Int))) w') : wpList P ops Q (o :: rest) a w := by
  subst hn
  refine wpList_copy_bytes hgd d s dT sT ho hu hsz B g c L hown sp sCap l hS hd hs (fun w' h1 h2 => h w' _ ?_ h2)
  have h3 := h1.out
  unfold OwnBytes at h3
  rw [length_over] at h3
  exact h3

/-- The bytes of l laid into L from place off on. -/
def into (L : List Nat) (off : Nat) (l : List Nat) : List Nat := L.take off ++ (l ++ L.drop (off + l.length))
theorem length_into {L l : List Nat} {off : Nat} (h : off + l.length ≤ L.length) : (into L off l).length = L.length := by unfold into; simp; omega
/-- 'copy(b[off:], s)': bytes into the midst of a row of the call's own, as a step of a region. -/
theorem run_copy_into {P : Program} {w : World} (dT sT ty : TypeId) (hu : P.underlying dT = some (.slice 5)) (hsz : (P.info? 5).map (·.size) = some 1)
    (B g c n off k dc : Nat) (L : List Nat) (hn : L.length = n) (hown : w.ownsRow B 5 1 (.slice (some ⟨g, 0, none⟩) n c) n (u8s L)) (b0 o0 sCap : Nat) (l : List Nat) (hk : l.length = k) (hfit : off + k ≤ n) (hS : SlAt w (.slice (some ⟨b0, o0, none⟩) k sCap) l) :
    ∃ w', (Builtin.copy_ #[dT, sT] ty #[.slice (some ⟨g, off, none⟩) k dc, .slice (some ⟨b0, o0, none⟩) k sCap]).run P w = .ok (goInt (k : Int)) w' ∧ w'.ownsRow B 5 1 (.slice (some ⟨g, 0, none⟩) n c) n (u8s (into L off l)) ∧ Kept (fun k => k = g) w w' := by
  subst hn hk
  rcases hown.2 with ⟨e1, _⟩ | ⟨g', cap', cur, hv, hgb, hh, hncap, hm, hcs, htake⟩
  · cases e1
  · cases hv
    have hlen : (u8s l).length = l.length := by simp
    have hcsz : L.length ≤ cur.size := by
      have h3 := congrArg List.length htake
      simp at h3
      omega
    have hrun := run_copy_row (P := P) w dT sT ty 5 g off l.length dc ⟨b0, o0, none⟩ l.length sCap cur 5 (u8s l) hu hsz hh (by rw [hlen]; exact (Nat.min_self _).symm) ?_ (by rw [hlen]; omega) ?_
    · rw [hlen] at hrun
      refine ⟨_, hrun, ?_, Kept.setRow _ _ _⟩
      refine ⟨by simp [length_into hfit], .inr ⟨g, c, _, rfl, hgb, setRow_heap w g _ _ 5 _ hh, hncap, hm, ?_, ?_⟩⟩
      · simp; omega
      · unfold into
        rw [u8s_append, u8s_append]
        have e1 : u8s (L.take off) = (u8s L).take off := by simp [u8s]
        have e2 : u8s (L.drop (off + l.length)) = (u8s L).drop (off + l.length) := by simp [u8s]
        rw [e1, e2, ← htake, Nat.mul_one, List.take_take, List.drop_take, Nat.min_eq_left (by omega : off ≤ L.length)]
        have h5 : (cur.toList.take off).length = off := by simp; omega
        simp only [List.toList_toArray]
        generalize cur.toList.take off = A at h5 ⊢
        generalize cur.toList.drop (off + l.length) = D
        rw [List.append_assoc, List.take_append, h5, List.take_append, hlen, List.take_of_length_le (l := A) (by omega), List.take_of_length_le (l := u8s l) (by rw [hlen]; omega), Nat.sub_sub]
    · intro j v hj
      rw [u8s_get] at hj
      obtain ⟨x, hx, rfl⟩ := Option.map_eq_some_iff.1 hj
      obtain ⟨ao, cp, hv2, hc⟩ := hS
      cases hv2
      obtain ⟨b', off'', hao, hcell⟩ := hc j x hx
      cases hao
      have hadd : (⟨b0, o0, none⟩ : Addr).add j = ⟨b0, o0 + j, none⟩ := by simp [Addr.add]
      rw [hadd]
      exact hcell
    · intro v hv
      obtain ⟨x, -, rfl⟩ := List.mem_map.1 hv
      rfl

end Go.Proofs.Ytjmeneddhalodaa

/- Disks: what is kept, what waits, and what each call answers; no program. -/
namespace Go.Proofs.Ytjmeneddhalodaa
set_option linter.unusedVariables false
set_option linter.unusedSimpArgs false
open Go.RowKit Dg

/-- A disk: the bytes that are kept; the writes that wait; is it dead; behind how many writes it stops; counts. -/
structure Sk where
  B : List Nat
  W : List (Nat × List Nat)
  dead : Bool
  stop : Option Nat
  reads : Nat
  writes : Nat
  flushes : Nat
/-- A disk that may be. -/
structure Sk.Fine (s : Sk) : Prop where
  n : ∃ n, 1 ≤ n ∧ n ≤ 4096 ∧ s.B.length = n * 128
  b256 : ∀ x ∈ s.B, x < 256
  w : ∀ p ∈ s.W, p.1 * 128 + 128 ≤ s.B.length ∧ p.2.length = 128 ∧ ∀ x ∈ p.2, x < 256
theorem Sk.Fine.le {s : Sk} (h : s.Fine) : s.B.length ≤ 524288 := by obtain ⟨n, h1, h2, h3⟩ := h.n; omega
theorem Sk.Fine.pos {s : Sk} (h : s.Fine) : 128 ≤ s.B.length := by obtain ⟨n, h1, h2, h3⟩ := h.n; omega
/-- There is such a sector. -/
def Sk.fits (s : Sk) (i : Int) : Prop := 0 ≤ i ∧ i < ((s.B.length / 128 : Nat) : Int)
instance (s : Sk) (i : Int) : Decidable (s.fits i) := by unfold Sk.fits; infer_instance
theorem Sk.fits.nat {s : Sk} {i : Int} (h : s.fits i) : ∃ k : Nat, i = (k : Int) ∧ k < s.B.length / 128 := ⟨i.toNat, by have := h.1; omega, by have h1 := h.1; have h2 := h.2; omega⟩
theorem Sk.fits.room {s : Sk} {k : Nat} (h : s.fits (k : Int)) : k * 128 + 128 ≤ s.B.length := by have h2 := h.2; omega
def newS (n : Nat) : Sk := ⟨List.replicate (n * 128) 0, [], false, none, 0, 0, 0⟩
def fromS (b : List Nat) : Sk := ⟨b, [], false, none, 0, 0, 0⟩
theorem newS_fine {n : Nat} (h1 : 1 ≤ n) (h2 : n ≤ 4096) : (newS n).Fine := ⟨⟨n, h1, h2, by simp [newS]⟩, fun x hx => by have := (List.mem_replicate.1 hx).2; omega, fun p hp => by simp [newS] at hp⟩
/-- A sector of what is kept. -/
def sec (B : List Nat) (k : Nat) : List Nat := (B.drop (k * 128)).take 128
theorem length_sec {B : List Nat} {k : Nat} (h : k * 128 + 128 ≤ B.length) : (sec B k).length = 128 := by unfold sec; simp; omega
/-- The last write of a sector that waits, of the first j. -/
def lastW (W : List (Nat × List Nat)) (k : Nat) : Nat → Option (List Nat)
  | 0 => none
  | j + 1 => match W[j]? with
    | some p => if p.1 = k then some p.2 else lastW W k j
    | none => lastW W k j
def Sk.now (s : Sk) (k : Nat) : List Nat := (lastW s.W k s.W.length).getD (sec s.B k)
def Sk.readR (s : Sk) (i : Int) : List Nat × Int := if ¬ s.fits i then ([], 1) else if s.dead then ([], 9) else (s.now i.toNat, 0)
def Sk.readS (s : Sk) (i : Int) : Sk := if s.fits i ∧ s.dead = false then { s with reads := s.reads + 1 } else s
/-- Is it dead, or does it stop now. -/
def Sk.arm (s : Sk) : Sk := if s.stop = some 0 then { s with dead := true } else s
def Sk.writeR (s : Sk) (i : Int) (b : List Nat) : Int := if ¬ s.fits i ∨ b.length ≠ 128 then 1 else if s.arm.dead then 9 else 0
def Sk.writeS (s : Sk) (i : Int) (b : List Nat) : Sk := if ¬ s.fits i ∨ b.length ≠ 128 then s else if s.arm.dead then s.arm else { s.arm with W := s.W ++ [(i.toNat, b)], stop := s.stop.map (· - 1), writes := s.writes + 1 }
/-- A write laid over what is kept. -/
def keepB (B : List Nat) (p : Nat × List Nat) : List Nat := into B (p.1 * 128) p.2
/-- What is kept behind the first j that wait, those that are kept. -/
def keepTo (B : List Nat) (W : List (Nat × List Nat)) (f : Nat → Bool) : Nat → List Nat
  | 0 => B
  | j + 1 => if f j then keepB (keepTo B W f j) (W.getD j (0, [])) else keepTo B W f j
def Sk.flushR (s : Sk) : Int := if s.arm.dead then 9 else 0
def Sk.flushS (s : Sk) : Sk := if s.arm.dead then s.arm else { s.arm with B := keepTo s.B s.W (fun _ => true) s.W.length, W := [], flushes := s.flushes + 1 }
def Sk.stopS (s : Sk) (at_ : Int) : Sk := { s with stop := some at_.toNat }
def Sk.crashS (s : Sk) (keep : List Bool) : Sk := { s with B := keepTo s.B s.W (fun j => keep.getD j false) s.W.length, W := [], dead := false, stop := none }
/-- A byte turned by a mask. -/
def flipB (l : List Nat) (j m : Nat) : List Nat := l.set j (l.getD j 0 ^^^ m)
def Sk.pokes (s : Sk) (i dg : Int) : Prop := s.fits i ∧ 0 ≤ dg ∧ dg < 1024
instance (s : Sk) (i dg : Int) : Decidable (s.pokes i dg) := by unfold Sk.pokes; infer_instance
def maskOf (dg : Nat) : Nat := 128 / 2 ^ (dg % 8)
def pokeW (k dg : Nat) (p : Nat × List Nat) : Nat × List Nat := if p.1 = k then (p.1, flipB p.2 (dg / 8) (maskOf dg)) else p
def Sk.pokeS (s : Sk) (i dg : Int) : Sk := if s.pokes i dg then { s with B := flipB s.B (i.toNat * 128 + dg.toNat / 8) (maskOf dg.toNat), W := s.W.map (pokeW i.toNat dg.toNat) } else s

theorem length_flipB (l : List Nat) (j m : Nat) : (flipB l j m).length = l.length := by simp [flipB]
theorem maskOf_lt (dg : Nat) : maskOf dg < 256 := Nat.lt_of_le_of_lt (Nat.div_le_self _ _) (by decide)
theorem xor_lt256 {a b : Nat} (ha : a < 256) (hb : b < 256) : a ^^^ b < 256 := Nat.xor_lt_two_pow (n := 8) ha hb
theorem flipB_lt {l : List Nat} (h : ∀ x ∈ l, x < 256) (j m : Nat) (hm : m < 256) : ∀ x ∈ flipB l j m, x < 256 := by
  intro x hx
  rcases List.mem_or_eq_of_mem_set hx with h1 | h1
  · exact h x h1
  · rw [h1]
    refine xor_lt256 ?_ hm
    by_cases hj : j < l.length
    · rw [List.getD_eq_getElem?_getD, List.getElem?_eq_getElem hj]; exact h _ (List.getElem_mem hj)
    · rw [List.getD_eq_getElem?_getD, List.getElem?_eq_none (by omega)]; decide
theorem length_keepB {B : List Nat} {p : Nat × List Nat} (h : p.1 * 128 + 128 ≤ B.length) (hp : p.2.length = 128) : (keepB B p).length = B.length := length_into (by rw [hp]; exact h)
theorem keepB_lt {B : List Nat} {p : Nat × List Nat} (hB : ∀ x ∈ B, x < 256) (hp : ∀ x ∈ p.2, x < 256) : ∀ x ∈ keepB B p, x < 256 := by
  intro x hx
  unfold keepB into at hx
  rcases List.mem_append.1 hx with h1 | h1
  · exact hB x (List.mem_of_mem_take h1)
  · rcases List.mem_append.1 h1 with h2 | h2
    · exact hp x h2
    · exact hB x (List.mem_of_mem_drop h2)
theorem keepTo_fine {s : Sk} (h : s.Fine) (f : Nat → Bool) : ∀ j, j ≤ s.W.length → (keepTo s.B s.W f j).length = s.B.length ∧ ∀ x ∈ keepTo s.B s.W f j, x < 256
  | 0, _ => ⟨rfl, h.b256⟩
  | j + 1, hj => by
    obtain ⟨h1, h2⟩ := keepTo_fine h f j (by omega)
    have e : s.W.getD j (0, []) = s.W[j] := by rw [List.getD_eq_getElem?_getD, List.getElem?_eq_getElem (by omega)]; rfl
    obtain ⟨h3, h4, h5⟩ := h.w _ (List.getElem_mem (by omega : j < s.W.length))
    unfold keepTo
    split
    · rw [e]
      exact ⟨by rw [length_keepB (by rw [h1]; exact h3) h4, h1], keepB_lt h2 h5⟩
    · exact ⟨h1, h2⟩
theorem Sk.arm_fine {s : Sk} (h : s.Fine) : s.arm.Fine := by unfold Sk.arm; split <;> exact ⟨h.n, h.b256, h.w⟩
theorem Sk.readS_fine {s : Sk} (h : s.Fine) (i : Int) : (s.readS i).Fine := by unfold Sk.readS; split <;> exact ⟨h.n, h.b256, h.w⟩
theorem Sk.arm_W (s : Sk) : s.arm.W = s.W := by unfold Sk.arm; split <;> rfl
theorem Sk.arm_B (s : Sk) : s.arm.B = s.B := by unfold Sk.arm; split <;> rfl
theorem Sk.arm_stop (s : Sk) : s.arm.stop = s.stop := by unfold Sk.arm; split <;> rfl
theorem Sk.arm_counts (s : Sk) : s.arm.reads = s.reads ∧ s.arm.writes = s.writes ∧ s.arm.flushes = s.flushes := by unfold Sk.arm; split <;> exact ⟨rfl, rfl, rfl⟩
theorem Sk.writeS_fine {s : Sk} (h : s.Fine) (i : Int) (b : List Nat) (hb : ∀ x ∈ b, x < 256) : (s.writeS i b).Fine := by
  unfold Sk.writeS
  split
  · exact h
  · rename_i h0
    have h1 : s.fits i := Decidable.byContradiction fun e => h0 (.inl e)
    have h2 : b.length = 128 := Decidable.byContradiction fun e => h0 (.inr e)
    split
    · exact s.arm_fine h
    · refine ⟨by show ∃ n, _ ∧ _ ∧ s.arm.B.length = _; rw [s.arm_B]; exact h.n, by show ∀ x ∈ s.arm.B, _; rw [s.arm_B]; exact h.b256, fun p hp => ?_⟩
      show _ ≤ s.arm.B.length ∧ _
      rw [s.arm_B]
      rcases List.mem_append.1 hp with h3 | h3
      · exact h.w p h3
      · rw [List.mem_singleton.1 h3]
        obtain ⟨k, rfl, hk⟩ := h1.nat
        exact ⟨h1.room, h2, hb⟩
theorem Sk.flushS_fine {s : Sk} (h : s.Fine) : s.flushS.Fine := by
  unfold Sk.flushS
  split
  · exact s.arm_fine h
  · obtain ⟨h1, h2⟩ := keepTo_fine h (fun _ => true) s.W.length (Nat.le_refl _)
    obtain ⟨n, h3, h4, h5⟩ := h.n
    exact ⟨⟨n, h3, h4, h1.trans h5⟩, h2, fun p hp => by simp at hp⟩
theorem Sk.stopS_fine {s : Sk} (h : s.Fine) (a : Int) : (s.stopS a).Fine := ⟨h.n, h.b256, h.w⟩
theorem Sk.crashS_fine {s : Sk} (h : s.Fine) (keep : List Bool) : (s.crashS keep).Fine := by
  obtain ⟨h1, h2⟩ := keepTo_fine h (fun j => keep.getD j false) s.W.length (Nat.le_refl _)
  obtain ⟨n, h3, h4, h5⟩ := h.n
  exact ⟨⟨n, h3, h4, h1.trans h5⟩, h2, fun p hp => by simp [Sk.crashS] at hp⟩
theorem Sk.pokeS_fine {s : Sk} (h : s.Fine) (i dg : Int) : (s.pokeS i dg).Fine := by
  unfold Sk.pokeS
  split
  · obtain ⟨n, h3, h4, h5⟩ := h.n
    refine ⟨⟨n, h3, h4, (length_flipB _ _ _).trans h5⟩, flipB_lt h.b256 _ _ (maskOf_lt _), fun p hp => ?_⟩
    obtain ⟨q, hq, rfl⟩ := List.mem_map.1 hp
    obtain ⟨h6, h7, h8⟩ := h.w q hq
    show _ ≤ (flipB _ _ _).length ∧ _
    rw [length_flipB]
    unfold pokeW
    split
    · exact ⟨h6, by rw [length_flipB]; exact h7, flipB_lt h8 _ _ (maskOf_lt _)⟩
    · exact ⟨h6, h7, h8⟩
  · exact h
theorem lastW_fine {s : Sk} (h : s.Fine) (k : Nat) : ∀ j, j ≤ s.W.length → ∀ b, lastW s.W k j = some b → b.length = 128 ∧ ∀ x ∈ b, x < 256
  | 0, _, b, e => by cases e
  | j + 1, hj, b, e => by
    unfold lastW at e
    rw [List.getElem?_eq_getElem (by omega : j < s.W.length)] at e
    simp only at e
    split at e
    · cases e
      exact (h.w _ (List.getElem_mem (by omega : j < s.W.length))).2
    · exact lastW_fine h k j (by omega) b e
theorem Sk.now_fine {s : Sk} (h : s.Fine) {k : Nat} (hk : k * 128 + 128 ≤ s.B.length) : (s.now k).length = 128 ∧ ∀ x ∈ s.now k, x < 256 := by
  unfold Sk.now
  cases e : lastW s.W k s.W.length with
  | none => exact ⟨length_sec hk, fun x hx => h.b256 x (List.mem_of_mem_drop (List.mem_of_mem_take hx))⟩
  | some b => exact lastW_fine h k _ (Nat.le_refl _) b e

end Go.Proofs.Ytjmeneddhalodaa
