/- Parts of slices of bytes; rows of bytes behind a row of one's own; Join; Same at like numbers. -/
import Derived.Test.YtdfgceplgcblkaaFld2
import Derived.Test.YtdfgceplgcblkaaLists
namespace Go.Proofs.Ytdfgceplgcblkaa
set_option linter.unusedVariables false
set_option linter.unusedSimpArgs false
open Go.RowKit Dg

/-- A slice of bytes that can be read, and its room. -/
structure Bs (w : World) (a : Option Addr) (cap : Nat) (l : List Nat) : Prop where
  at_ : SlAt w (.slice a l.length cap) l
  le : l.length ≤ cap
  nil : a = none → cap = 0
theorem Bs.below {w w' : World} {a : Option Addr} {cap : Nat} {l : List Nat} (h : Bs w a cap l) (hb : Below w.heap.size w w') : Bs w' a cap l := ⟨h.at_.below hb, h.le, h.nil⟩
theorem Bs.kept {w w' : World} {a : Option Addr} {cap : Nat} {l : List Nat} {F : Nat → Prop} (h : Bs w a cap l) (hk : Kept F w w') (hF : l ≠ [] → ∀ k, (Value.slice a l.length cap).ownBlock = some k → ¬ F k) : Bs w' a cap l := ⟨h.at_.kept' hk hF, h.le, h.nil⟩
/-- Where b[k:] lies. -/
def lowA (a : Option Addr) (cap k : Nat) : Option Addr := if cap = k then a else a.map (·.add k)
theorem Bs.lo {w : World} {a : Option Addr} {cap : Nat} {l : List Nat} (h : Bs w a cap l) (k : Nat) (hk : k ≤ l.length) : Bs w (lowA a cap k) (cap - k) (l.drop k) := by
  unfold lowA
  by_cases hck : cap = k
  · have hl := h.le
    rw [if_pos hck]
    refine ⟨?_, by simp; omega, fun e => by have := h.nil e; omega⟩
    rw [List.drop_eq_nil_of_le (by omega)]
    exact SlAt.none_of _ _ _ rfl
  · rw [if_neg hck]
    cases a with
    | none => have := h.nil rfl; have := h.le; omega
    | some x =>
      refine ⟨?_, by have := h.le; simp; omega, fun e => by cases e⟩
      rw [List.length_drop]
      exact h.at_.drop k hk rfl
theorem Bs.hi {w : World} {a : Option Addr} {cap : Nat} {l : List Nat} (h : Bs w a cap l) (k : Nat) (hk : k ≤ l.length) : SlAt w (.slice a k cap) (l.take k) := h.at_.take k hk rfl
theorem Bs.of_row {w : World} {a : Option Addr} {len cap n : Nat} {zs : List Int} (hr : IsRow .u8 w a len cap zs) : ∃ l : List Nat, l.length = min len n ∧ (∀ x ∈ l, x < 256) ∧ Bs w a cap l ∧ len ≤ cap ∧ cap ≤ maxLen ∧ (a = none → len = 0 ∧ cap = 0) := by
  obtain ⟨l, hll, h256, hsl, hc1, hc2, hc3⟩ := cut_row (n := n) hr
  exact ⟨l, hll, h256, ⟨by rw [hll]; exact hsl, by omega, fun e => (hc3 e).2⟩, hc1, hc2, hc3⟩
theorem OwnBytes.bs {w : World} {base : Nat} {v : Value} {l : List Nat} (h : OwnBytes w base v l) : ∃ a cap, v = .slice a l.length cap ∧ Bs w a cap l := by
  have h' : w.ownsRow base 5 1 v l.length (u8s l) := h
  rcases h.2 with ⟨rfl, hn⟩ | ⟨g, cap, cur, rfl, hb, hh, hn, _, hcs, htake⟩
  · exact ⟨none, 0, by rw [hn], by rw [hn]; exact SlAt.of_owns h', by omega, fun _ => rfl⟩
  · exact ⟨some ⟨g, 0, none⟩, cap, rfl, SlAt.of_owns h', hn, fun e => by cases e⟩

theorem slice_hi (a : Option Addr) (n cap k : Nat) (hk : k ≤ cap) (W : World) : (Instr.sliceAt 23 (.slice a n cap) none (some (.int .i64 (k : Int))) none).run Try.prog W = .ok (.slice a k cap) W := by
  obtain ⟨i0, hi, hz0, hz1, hz2⟩ := info_parts Try.info5
  simp [Instr.sliceAt, Instr.slice, Instr.sliceBounds, Instr.sliceBound, asIntOf, run_underlying Try.underlying23, sizeOf, typeInfo, hi, hk]
  cases a <;> simp [Addr.add]
theorem slice_lo (a : Option Addr) (n cap k : Nat) (hk : k ≤ n) (W : World) : (Instr.sliceAt 23 (.slice a n cap) (some (.int .i64 (k : Int))) none none).run Try.prog W = .ok (.slice (lowA a cap k) (n - k) (cap - k)) W := by
  obtain ⟨i0, hi, hz0, hz1, hz2⟩ := info_parts Try.info5
  simp [Instr.sliceAt, Instr.slice, Instr.sliceBounds, Instr.sliceBound, asIntOf, run_underlying Try.underlying23, sizeOf, typeInfo, hi, hz1, hk, lowA]

/-- 'append(s, x...)' of bytes to a row of the call's own. -/
theorem wpList_append_bytes (w : World) {ops : Array Oper} {rest : List Oper} {o : Oper} {a : Act} {Q : Exit → Act → World → Prop}
    (hgd : o.guard = none) (s x : Operand) (ho : o.op = .call { callee := .builtin .append, args := #[s, x], argTypes := #[23, 23] })
    (base : Nat) (v : Value) (l : List Nat) (hs : a.eval s = v) (hown : OwnBytes w base v l) (xa : Option Addr) (xc : Nat) (m : List Nat) (hx : a.eval x = .slice xa m.length xc) (hm : Bs w xa xc m)
    (hl : l.length + m.length ≤ 1000000) (hbase : base ≤ w.heap.size)
    (h : ∀ v' w', Hid (OwnBytes w' base v' (l ++ m)) → Hid (Kept (fun k => v.ownBlock = some k) w w') → Hid (∀ k, v'.ownBlock = some k → v.ownBlock = some k ∨ w.heap.size ≤ k) → wpList Try.prog ops Q rest (a.put o.dst v') w') : wpList Try.prog ops Q (o :: rest) a w := by
  obtain ⟨i0, hi, hz0, hz1, hz2⟩ := info_parts Try.info5
  have hown' : w.ownsRow base 5 1 v l.length (u8s l) := hown
  cases xa with
  | none =>
    have hc := hm.nil rfl
    have hle := hm.le
    have hm0 : m = [] := List.eq_nil_of_length_eq_zero (by omega)
    subst hm0 hc
    refine wpList_append_own_none hgd s x 23 ho base 5 i0 1 Try.underlying23 hi v l.length (u8s l) hs hown' hx ?_
    refine h v w ?_ (Kept.refl _ _) (fun k hk => .inl hk)
    rw [List.append_nil]; exact hown
  | some ad =>
    have hcell : ∀ j u, (u8s m)[j]? = some u → w.cell? (ad.add j) = some u := by
      intro j u hu
      rw [u8s_get] at hu
      obtain ⟨y, hy, rfl⟩ := Option.map_eq_some_iff.1 hu
      obtain ⟨b, off, e, hc⟩ := sl_cell hm.at_ hy
      cases e
      have hadd : (⟨b, off, none⟩ : Addr).add j = ⟨b, off + j, none⟩ := by simp [Addr.add]
      rw [hadd]
      exact hc
    have hone : ∀ u ∈ u8s m, u.oneCell' = true := by intro u hu; simp [u8s] at hu; obtain ⟨y, _, rfl⟩ := hu; rfl
    by_cases hne : m = []
    · subst hne
      rcases hown'.2 with ⟨hv, hn⟩ | ⟨g, cap, cur, hv, hb, hh, hn, hcm, hcs, htake⟩
      · refine wpList_append_own _ hgd s x 23 ho base 5 i0 (.int .u8 0) 1 1 Try.underlying23 hi hz0 hz1 hz2 rfl (by decide) v l.length (u8s l) hs hown' ad 0 xc [] hx rfl (fun j u hu => by simp at hu) (fun u hu => by simp at hu) (by unfold maxLen; omega) (by omega) hbase ?_
        intro v' w' h1 h2 h3
        have hv' : v' = .slice none 0 0 := h3.2 ⟨hv, rfl⟩
        refine h v' w' ?_ (Kept.grown h2) (fun k hk => by rw [hv'] at hk; cases hk)
        show World.ownsRow _ _ _ _ _ _ _
        simpa [u8s_append] using h1
      · refine wpList_append_fits w hgd s x 23 ho base 5 i0 1 Try.underlying23 hi hz1 g l.length cap (u8s l) (hs.trans hv) (hv ▸ hown') ad 0 xc [] hx rfl (fun j u hu => by simp at hu) (fun u hu => by simp at hu) (by omega) ?_
        intro w' h1 h2
        refine h _ w' ?_ ?_ (fun k hk => .inl ?_)
        · show World.ownsRow _ _ _ _ _ _ _
          simpa [u8s_append] using h1
        · have := Kept.grown h2
          rw [hv]; exact this
        · rw [hv]; exact hk
    · refine wpList_append_mine _ hgd s x 23 ho base 5 i0 (.int .u8 0) 1 1 Try.underlying23 hi hz0 hz1 hz2 rfl (by decide) v l.length (u8s l) hs hown' ad m.length xc (u8s m) hx (by simp) hcell hone (List.length_pos_iff.2 hne) (by unfold maxLen; omega) (by omega) hbase ?_
      intro g cap w' h1 h2 h3
      refine h _ w' ?_ (Kept.grown h2.out) (fun k hk => ?_)
      · show World.ownsRow _ _ _ _ _ _ _
        rw [u8s_append, List.length_append]; exact h1.out
      · simp [Value.ownBlock] at hk
        subst hk
        exact h3.out

/-- Rows of bytes in a slice. -/
def RowsOf (w : World) (a : Option Addr) (R : List ((Option Addr × Nat) × List Nat)) : Prop :=
  ∀ r p, R[r]? = some p → ∃ b off, a = some ⟨b, off, none⟩ ∧ w.cell? ⟨b, off + r, none⟩ = some (.slice p.1.1 p.2.length p.1.2) ∧ Bs w p.1.1 p.1.2 p.2
/-- All rows, one behind the other. -/
def joined (R : List ((Option Addr × Nat) × List Nat)) : List Nat := (R.map (·.2)).flatten
theorem joined_take (R : List ((Option Addr × Nat) × List Nat)) (j : Nat) (p : (Option Addr × Nat) × List Nat) (h : R[j]? = some p) : joined (R.take (j + 1)) = joined (R.take j) ++ p.2 := by
  unfold joined
  rw [List.take_add_one, h]
  simp
theorem joined_le (R : List ((Option Addr × Nat) × List Nat)) (j : Nat) : (joined (R.take j)).length ≤ (joined R).length := by
  have : joined R = joined (R.take j) ++ joined (R.drop j) := by
    unfold joined
    rw [← List.flatten_append, ← List.map_append, List.take_append_drop]
  rw [this]; simp

set_option maxHeartbeats 1000000 in
theorem fjoin_any (w : World) (a : Option Addr) (cap : Nat) (R : List ((Option Addr × Nat) × List Nat)) (h : RowsOf w a R) (hn : R.length ≤ 1000000) (hl : (joined R).length ≤ 1000000) :
    Calls Try.prog 22 #[.slice a R.length cap] w fun e w' => ∃ v, e = .returned v ∧ OwnBytes w' w.heap.size v (joined R) ∧ Below w.heap.size w w' := by
  have HR : Hid (RowsOf w a R) := h
  clear h
  go_enter Try.func22, Try.ntmps22
  go_wp2
  go_loopw [3, 8] (fun v i wr => ∃ j : Nat, j ≤ R.length ∧ i = .int .i64 j ∧ Hid (OwnBytes wr w.heap.size v (joined (R.take j))) ∧ Hid (Below w.heap.size w wr)) (fun _ i _ => R.length - (intOf i).toNat)
  case atStart => exact ⟨0, Nat.zero_le _, rfl, World.ownsRow_nil _ _ _ _, Below.refl _ _⟩
  case round =>
    obtain ⟨j, hj, rfl, ho, hb⟩ := hrel
    by_cases hjn : j < R.length
    · obtain ⟨⟨⟨pa, pc⟩, pl⟩, hp⟩ : ∃ p, R[j]? = some p := ⟨R[j], by simp [hjn]⟩
      obtain ⟨b, off, rfl, hcell, hbs⟩ := HR.out j _ hp
      have hcell' : wr.cell? ⟨b, off + j, none⟩ = some (.slice pa pl.length pc) := by
        rw [hb.out.cell (p := ⟨b, off + j, none⟩) (World.block_lt_of_cell? w _ hcell)]
        exact hcell
      have HBS : Hid (Bs wr pa pc pl) := hbs.below hb.out
      have HJ : Hid (joined (R.take (j + 1)) = joined (R.take j) ++ pl) := joined_take R j _ hp
      have hlen : (joined (R.take j)).length + pl.length ≤ 1000000 := by
        have := joined_le R (j + 1)
        rw [HJ.out] at this
        simp at this
        omega
      have hsz : w.heap.size ≤ wr.heap.size := hb.out.size
      clear hcell hbs hp
      go_wp2_with (at_builtin; go_must (refine wpList_append_bytes _ rfl (.tmp 12) (.tmp 13) rfl w.heap.size _ _ rfl ho.out pa pc pl rfl HBS.out hlen hsz ?_))
      intro v' w' h1 h2 h3
      rw [← HJ.out] at h1
      have HB' : Hid (Below w.heap.size w w') := h2.out.below_of hb.out (fun k hk => (World.ownsRow.lt ho.out k hk).1) hsz
      clear h2 h3
      go_wp2_with fail
      refine ⟨⟨j + 1, by omega, by go_num, h1, HB'⟩, by (simp [intOf]) <;> omega⟩
    · have e : j = R.length := by omega
      subst e
      rw [List.take_length] at ho
      go_wp2_with fail
      go_ret
      exact ⟨_, rfl, ho.out, hb.out⟩

set_option maxHeartbeats 1000000 in
theorem sameInt_any (w : World) (a1 a2 : Option Addr) (c1 c2 : Nat) (l : List Int) (h1 : IntsAt w a1 l) (h2 : IntsAt w a2 l) (hl : l.length ≤ 1000000) :
    Calls Try.prog 21 #[.slice a1 l.length c1, .slice a2 l.length c2] w fun e w' => e = .returned (.bool true) ∧ ∃ n, w' = w.drewN n := by
  have H1 : Hid (IntsAt w a1 l) := h1
  have H2 : Hid (IntsAt w a2 l) := h2
  clear h1 h2
  go_enter Try.func21, Try.ntmps21
  go_wp2
  go_loopw [5] (fun i wr => ∃ k m : Nat, k ≤ l.length ∧ i = .int .i64 k ∧ wr = w.drewN m) (fun i _ => l.length - (intOf i).toNat)
  case atStart => exact ⟨0, 0, Nat.zero_le _, rfl, rfl⟩
  case round =>
    obtain ⟨k, m, hk, rfl, rfl⟩ := hrel
    by_cases hkn : k < l.length
    · obtain ⟨b1, o1, rfl, e1⟩ := H1.out k l[k] (by simp [hkn])
      obtain ⟨b2, o2, rfl, e2⟩ := H2.out k l[k] (by simp [hkn])
      obtain ⟨x, hx⟩ : ∃ x : Int, x = l[k] := ⟨_, rfl⟩
      rw [← hx] at e1 e2
      clear hx H1 H2
      go_wp2
      go_region
      all_goals go_wp2
      all_goals go_roundw
      case rel => exact ⟨k + 1, m + 1, by omega, by go_num, rfl⟩
      case measure => simp [intOf]; omega
    · go_wp2
      go_ret
      exact ⟨rfl, m, rfl⟩

end Go.Proofs.Ytdfgceplgcblkaa
