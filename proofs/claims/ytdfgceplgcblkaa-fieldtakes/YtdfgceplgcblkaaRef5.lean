/- Lend and Intact. -/
import Derived.Test.YtdfgceplgcblkaaRef4
namespace Go.Proofs.Ytdfgceplgcblkaa
set_option linter.unusedVariables false
set_option linter.unusedSimpArgs false
open Go.RowKit Dg

/-- 'make([]T, n, c)': a new row of c zero elements. -/
theorem wpList_make_cap {P : Program} (w : World) {ops : Array Oper} {rest : List Oper} {o : Oper} {a : Act} {Q : Exit → Act → World → Prop}
    (hg : o.guard = none) (l c : Operand) (t : TypeId) (hop : o.op = Op.makeSlice t l c)
    (e : TypeId) (i : TypeInfo) (z : Value) (h1 : P.underlying t = some (.slice e)) (h2 : P.info? e = some i) (h3 : i.zero = some z)
    (kl kc : IntKind) (L C : Int) (n m : Nat) (hl : a.eval l = .int kl L) (hc : a.eval c = .int kc C) (hL : L = (n : Int)) (hC : C = (m : Int)) (hnm : n ≤ m) (b2 : i.bytes * m ≤ 281474976710656) (b3 : m ≤ maxLen)
    (hK : ∀ cur : Array Value, cur.size = m * i.size → wpList P ops Q rest (a.put o.dst (.slice (some ⟨w.heap.size, 0, none⟩) n m)) (w.alloc (.cells cur e))) :
    wpList P ops Q (o :: rest) a w := by
  refine wpList_plain hg fun K hK' => ?_
  have b3' : (m : Int) ≤ 9223372036854775807 := by unfold maxLen at b3; omega
  have b2' : (i.bytes : Int) * (m : Int) ≤ 281474976710656 := by
    have h : ((i.bytes * m : Nat) : Int) ≤ 281474976710656 := by omega
    rwa [Int.natCast_mul] at h
  have hrun := run_make (P := P) w t e i z h1 h2 h3 kl kc n m (by omega) (by omega) b2' b3'
  simp only [Int.toNat_natCast] at hrun
  subst hL
  subst hC
  unfold Oper.wp
  simp [execOp, hop, hl, hc, hrun, Result.andThen]
  exact hK' _ _ (hK _ (size_madeCells _ _))

/-- A row's cells, all of them. -/
def RowIs (w : World) (g : Nat) (X : List Value) : Prop := w.heap[g]? = some (.cells X.toArray 5 (0, 0))
theorem RowIs.cell {w : World} {g : Nat} {X : List Value} (h : RowIs w g X) {j : Nat} {u : Value} (hu : X[j]? = some u) : w.cell? ⟨g, j, none⟩ = some u := by
  have h' : w.heap[g]? = some (.cells X.toArray 5 (0, 0)) := h
  simp only [World.cell?, h']
  simpa using hu
theorem RowIs.frozen {w : World} {g : Nat} {X : List Value} (h : RowIs w g X) (j : Nat) : w.frozen? ⟨g, j, none⟩ = false := by
  have h' : w.heap[g]? = some (.cells X.toArray 5 (0, 0)) := h
  simp [World.frozen?, h']
theorem RowIs.set {w : World} {g : Nat} {X : List Value} (h : RowIs w g X) (j : Nat) (u : Value) : RowIs (w.setCell ⟨g, j, none⟩ u) g (X.set j u) := by
  have := heap_setCell_of (o := j) (show w.heap[g]? = some (.cells X.toArray 5 (0, 0)) from h) u
  unfold RowIs
  rw [this]
  simp
theorem RowIs.kept {w w' : World} {g : Nat} {X : List Value} {F : Nat → Prop} (h : RowIs w g X) (hk : Kept F w w') (hF : ¬ F g) : RowIs w' g X := by
  have h' : w.heap[g]? = some (.cells X.toArray 5 (0, 0)) := h
  unfold RowIs
  rw [hk.block g (Array.getElem?_eq_some_iff.1 h').1 hF]
  exact h'
theorem RowIs.below {w w' : World} {g : Nat} {X : List Value} (h : RowIs w g X) (hb : Below w.heap.size w w') : RowIs w' g X := h.kept (F := fun _ => False) (Kept.of_below hb) (fun h => h)
theorem RowIs.lt {w : World} {g : Nat} {X : List Value} (h : RowIs w g X) : g < w.heap.size := by
  have h' : w.heap[g]? = some (.cells X.toArray 5 (0, 0)) := h
  exact (Array.getElem?_eq_some_iff.1 h').1

set_option maxHeartbeats 2000000 in
theorem lend_any (w : World) (v : Value) (l : List Nat) (h : SlAt w v l) (hl : l.length ≤ 1000000) :
    Calls Try.prog 18 #[v] w fun e w' => e = .returned (.slice (some ⟨w.heap.size, 0, none⟩) l.length (l.length + 3)) ∧ RowIs w' w.heap.size (u8s (l ++ [85, 85, 85])) ∧ Below w.heap.size w w' := by
  obtain ⟨i0, hi, hz0, hz1, hz2⟩ := info_parts Try.info5
  obtain ⟨ao, cap, rfl, hc⟩ := h
  have HC : Hid (∀ j x, l[j]? = some x → ∃ b off, ao = some ⟨b, off, none⟩ ∧ w.cell? ⟨b, off + j, none⟩ = some (.int .u8 ((x : Nat) : Int))) := hc
  clear hc
  go_enter Try.func18, Try.ntmps18
  go_wp2_with (at_make; go_must (refine wpList_make_cap _ rfl _ _ 23 rfl 5 i0 (.int .u8 0) Try.underlying23 hi hz0 _ _ _ _ l.length (l.length + 3) rfl rfl rfl (by omega) (by omega) ?b1 ?b2 ?_))
  case b1 => rw [hz2]; omega
  case b2 => unfold maxLen; omega
  intro cur hsz
  have HB : Hid (Below w.heap.size w (w.alloc (.cells cur 5))) := (Below.refl _ _).alloc (Nat.le_refl _) _
  have HCUR : Hid ((w.alloc (.cells cur 5)).heap[w.heap.size]? = some (.cells cur.toList.toArray 5 (0, 0))) := by show (w.alloc (.cells cur 5)).heap[w.heap.size]? = _; rw [heap_alloc_new w _]
  go_wp2_with (refine wpList_copy_splice rfl (.tmp 12) (.tmp 13) 23 23 rfl 5 Try.underlying23 (by simp [hi, hz1]) _ _ _ _ _ _ rfl rfl w.heap.size 0 cur.toList 5 HCUR.out (u8s l) ?c1 ?c2 ?c3 ?c4 w.heap.size w HB.out (Nat.le_refl _) ?_)
  case c1 => show _ = min _ _; simp
  case c2 =>
    intro h0
    have h0' : 0 < l.length := by simpa using h0
    obtain ⟨b, off, hao, hcell⟩ := HC.out 0 l[0] (by simp)
    refine ⟨⟨b, off, none⟩, hao, fun j u hu => ?_⟩
    rw [u8s_get] at hu
    obtain ⟨x, hx, rfl⟩ := Option.map_eq_some_iff.1 hu
    obtain ⟨b', off', hao', hcell'⟩ := HC.out j x hx
    rw [hao] at hao'
    cases hao'
    have hadd : (⟨b, off, none⟩ : Addr).add j = ⟨b, off + j, none⟩ := by simp [Addr.add]
    rw [hadd, HB.out.cell (p := ⟨b, off + j, none⟩) (World.block_lt_of_cell? w _ hcell')]
    exact hcell'
  case c3 => simp; omega
  case c4 => intro u hu; simp [u8s] at hu; obtain ⟨x, _, rfl⟩ := hu; rfl
  intro w2 hg2 hb2
  have HR2 : Hid (RowIs w2 w.heap.size (splice cur.toList 0 (u8s l))) := hg2
  have HB2 : Hid (Below w.heap.size w w2) := hb2
  have HX : Hid (splice cur.toList 0 (u8s l) = u8s l ++ cur.toList.drop l.length) := by show _ = _; simp [splice]
  have hd3 : (cur.toList.drop l.length).length = 3 := by simp; omega
  obtain ⟨g, hg⟩ : ∃ g, g = w.heap.size := ⟨_, rfl⟩
  rw [← hg] at HR2 ⊢
  have HSG : Hid (g = w.heap.size) := hg
  clear hg2 hb2 HCUR HB hg
  go_wp2
  go_loopw [5] (fun i wr => ∃ (j : Nat) (X : List Value), j ≤ 3 ∧ i = .int .i64 ((l.length : Int) + j) ∧ Hid (RowIs wr g X) ∧ X.length = l.length + 3 ∧ Hid (X.take (l.length + j) = u8s (l ++ List.replicate j 85)) ∧ Hid (Below w.heap.size w wr)) (fun i _ => l.length + 3 - (intOf i).toNat)
  case atStart =>
    refine ⟨0, splice cur.toList 0 (u8s l), by omega, by simp, HR2.out, ?_, ?_, HB2.out⟩
    · rw [HX.out]; simp; omega
    · show _ = _
      rw [HX.out]
      simp
  case round =>
    obtain ⟨j, X, hj, rfl, hrow, hXl, hX, hbl⟩ := hrel
    by_cases hj3 : j < 3
    · obtain ⟨u, hu⟩ : ∃ u, X[l.length + j]? = some u := ⟨X[l.length + j], by simp [hXl, hj3]⟩
      have hcell := hrow.out.cell hu
      have hfz := hrow.out.frozen (l.length + j)
      have hlt : l.length + j < l.length + 3 := by omega
      go_wp2
      go_roundw
      case rel =>
        refine ⟨j + 1, X.set (l.length + j) (.int .u8 85), by omega, by go_num, hrow.out.set _ _, by simp [hXl], ?_, hbl.out.setCell (by show _ ≤ g; have := HSG.out; omega) _⟩
        show _ = _
        rw [← Nat.add_assoc, List.take_add_one, List.take_set_of_le (by omega), hX.out, List.getElem?_set_self (by omega), List.replicate_succ', ← List.append_assoc]
        simp [u8s]
      case measure => simp [intOf]; omega
    · have e : j = 3 := by omega
      subst e
      go_wp2
      go_ret
      refine ⟨by rw [← HSG.out]; rfl, ?_, hbl.out⟩
      have h1 := hX.out
      rw [List.take_of_length_le (by omega)] at h1
      have h2 : u8s (l ++ [85, 85, 85]) = X := h1.symm
      rw [h2]
      exact HSG.out ▸ hrow.out

set_option maxHeartbeats 4000000 in
theorem intact_any (w : World) (g : Nat) (v : Value) (l : List Nat) (hg : RowIs w g (u8s (l ++ [85, 85, 85]))) (h : SlAt w v l) (hl : l.length ≤ 1000000) :
    Calls Try.prog 23 #[.slice (some ⟨g, 0, none⟩) l.length (l.length + 3), v] w fun e w' => e = .returned (.bool true) ∧ ∃ n, w' = w.drewN n := by
  obtain ⟨ao, cap, rfl, hc⟩ := h
  have HC : Hid (∀ j x, l[j]? = some x → ∃ b off, ao = some ⟨b, off, none⟩ ∧ w.cell? ⟨b, off + j, none⟩ = some (.int .u8 ((x : Nat) : Int))) := hc
  have HG : Hid (RowIs w g (u8s (l ++ [85, 85, 85]))) := hg
  clear hc hg
  go_enter Try.func23, Try.ntmps23
  go_wp2
  go_loopw [27] (fun i wr => ∃ k m : Nat, k ≤ l.length + 3 ∧ i = .int .i64 k ∧ wr = w.drewN m) (fun i _ => l.length + 3 - (intOf i).toNat)
  case atStart => exact ⟨0, 0, Nat.zero_le _, rfl, rfl⟩
  case round =>
    obtain ⟨k, m, hk, rfl, rfl⟩ := hrel
    by_cases hkn : k < l.length
    · obtain ⟨b1, o1, rfl, e1⟩ := HC.out k l[k] (by simp [hkn])
      have e2 : w.cell? ⟨g, k, none⟩ = some (.int .u8 ((l[k] : Nat) : Int)) := HG.out.cell (by rw [u8s_get, List.getElem?_append_left hkn]; simp [hkn])
      obtain ⟨x, hx⟩ : ∃ x : Nat, x = l[k] := ⟨_, rfl⟩
      rw [← hx] at e1 e2
      have hlt3 : k < l.length + 3 := by omega
      clear hx
      have hge : decide (l.length ≤ k) = false := by simp; omega
      go_wp2_with fail
      go_quiet (fail)
      go_wp2
      go_roundw
      case rel => exact ⟨k + 1, _, by omega, by go_num, rfl⟩
      case measure => simp [intOf]; omega
    · by_cases hk3 : k < l.length + 3
      · have e2 : w.cell? ⟨g, k, none⟩ = some (.int .u8 85) := HG.out.cell (by
          rw [u8s_get, List.getElem?_append_right (by omega)]
          have : k - l.length = 0 ∨ k - l.length = 1 ∨ k - l.length = 2 := by omega
          rcases this with h | h | h <;> rw [h] <;> rfl)
        have hlt : decide (k < l.length) = false := by simp; omega
        have hge : decide (l.length ≤ k) = true := by simp; omega
        go_wp2_with fail
        go_quiet (fail)
        go_wp2
        go_roundw
        case rel => exact ⟨k + 1, _, by omega, by go_num, rfl⟩
        case measure => simp [intOf]; omega
      · go_wp2
        go_ret
        exact ⟨rfl, m, rfl⟩

end Go.Proofs.Ytdfgceplgcblkaa
