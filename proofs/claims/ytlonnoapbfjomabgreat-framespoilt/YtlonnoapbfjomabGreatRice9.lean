/- What is put is got again: the digits; a writer beside a row of numbers. -/
import Derived.Test.YtlonnoapbfjomabGreatRice7
import Derived.Test.YtlonnoapbfjomabGreatRice3
namespace Go.Proofs.YtlonnoapbfjomabGreat
set_option linter.unusedVariables false
set_option linter.unusedSimpArgs false
open Go.RowKit Dg

theorem lead_replicate (q m : Nat) (ds : List Bool) (h : q < m) : lead (List.replicate q true ++ (false :: ds)) m = q := by
  induction q generalizing m with
  | zero => cases m with
    | zero => omega
    | succ m => rfl
  | succ q ih => cases m with
    | zero => omega
    | succ m => simp only [List.replicate_succ, List.cons_append, lead]; rw [ih m (by omega)]
theorem lead_full (m : Nat) (ds : List Bool) : lead (List.replicate m true ++ ds) m = m := by
  induction m with
  | zero => cases ds <;> rfl
  | succ m ih => simp only [List.replicate_succ, List.cons_append, lead]; rw [ih]

theorem getOut_app (es fs : List Bool) (n : Nat) (hn : n ≤ 62) (hl : es.length = n) : getOut (es ++ fs) n = (num es, n, true) := by
  unfold getOut
  rw [if_pos ⟨by omega, by omega, by simp; omega⟩]
  have e : ((n : Nat) : Int).toNat = n := by omega
  rw [e, List.take_left' hl]

theorem num_dig_nat (y : Int) (n : Nat) : ((num (dig y n) : Nat) : Int) = y % 2 ^ n := num_dig y n

/-- What was put with a parameter is got with it. -/
theorem riceOut_dig (y : Int) (k : Nat) (rest : List Bool) (hy0 : 0 ≤ y) (hy : y < 4294967296) (hk : k ≤ 24) : riceOut (riceDig y k ++ rest) k = (y.toNat, (riceDig y k).length, true) := by
  have hp : isPar (k : Int) = true := by simp [isPar]; omega
  have hkn : ((k : Nat) : Int).toNat = k := by omega
  have hq0 := quot_le y k hy0
  have ep : ((2 : Int) ^ k) = ((2 ^ k : Nat) : Int) := (pow_cast k).symm
  by_cases hr : 24 ≤ y / 2 ^ k
  · have e1 : riceDig y k = List.replicate 24 true ++ dig y 32 := by simp only [riceDig]; rw [if_pos hr]
    have eo : onesOut (riceDig y k ++ rest) 24 = (24, 24, true) := by
      unfold onesOut
      rw [if_pos (by decide)]
      have : lead (riceDig y k ++ rest) 24 = 24 := by rw [e1, List.append_assoc]; exact lead_full 24 _
      exact if_pos this
    have ed : (riceDig y k ++ rest).drop 24 = dig y 32 ++ rest := by rw [e1, List.append_assoc]; exact List.drop_left' (by simp)
    have eg : getOut (dig y 32 ++ rest) 32 = (num (dig y 32), 32, true) := getOut_app (dig y 32) rest 32 (by decide) (by simp)
    have en : num (dig y 32) = y.toNat := by
      have h1 := num_dig y 32
      have : y % 2 ^ 32 = y := Int.emod_eq_of_lt hy0 hy
      omega
    have hc : 24 ≤ y.toNat / 2 ^ k := by
      rw [ep] at hr
      have : y = (y.toNat : Int) := by omega
      rw [this] at hr
      exact_mod_cast hr
    have el : (riceDig y k).length = 56 := by rw [e1]; simp
    unfold riceOut
    rw [if_pos hp, eo]
    simp only [if_true, ed, eg, en, hkn, hc, and_self, el]
  · have e1 : riceDig y k = (List.replicate (y / 2 ^ k).toNat true ++ [false]) ++ dig y k := by simp only [riceDig]; rw [if_neg hr]
    obtain ⟨q, hq⟩ : ∃ q : Nat, q = (y / 2 ^ k).toNat := ⟨_, rfl⟩
    have hqi : y / 2 ^ k = (q : Int) := by omega
    rw [← hq] at e1
    have hq24 : q < 24 := by omega
    have ec : riceDig y k ++ rest = List.replicate q true ++ (false :: (dig y k ++ rest)) := by rw [e1]; simp
    have hlead : lead (riceDig y k ++ rest) 24 = q := by rw [ec]; exact lead_replicate q 24 _ hq24
    have hlen : ¬ q = (riceDig y k ++ rest).length := by rw [ec]; simp
    have eo : onesOut (riceDig y k ++ rest) 24 = (q, q + 1, true) := by
      unfold onesOut
      rw [if_pos (by decide)]
      show (if lead (riceDig y k ++ rest) 24 = 24 then _ else if lead (riceDig y k ++ rest) 24 = (riceDig y k ++ rest).length then _ else (lead (riceDig y k ++ rest) 24, lead (riceDig y k ++ rest) 24 + 1, true)) = _
      rw [hlead, if_neg (by omega), if_neg hlen]
    have ed : (riceDig y k ++ rest).drop (q + 1) = dig y k ++ rest := by
      have : riceDig y k ++ rest = (List.replicate q true ++ [false]) ++ (dig y k ++ rest) := by rw [e1]; simp
      rw [this]
      exact List.drop_left' (by simp)
    have eg : getOut (dig y k ++ rest) k = (num (dig y k), k, true) := getOut_app (dig y k) rest k (by omega) (by simp)
    have en : q * 2 ^ k + num (dig y k) = y.toNat := by
      have h1 := num_dig y k
      have h2 := Int.mul_ediv_add_emod y (2 ^ k)
      rw [hqi, ← h1, ep] at h2
      generalize num (dig y k) = N at h2 ⊢
      have h3 : ((q * 2 ^ k + N : Nat) : Int) = y := by
        rw [← h2, Nat.mul_comm]; push_cast; rfl
      omega
    have el : (riceDig y k).length = q + 1 + k := by rw [e1]; simp; omega
    unfold riceOut
    rw [if_pos hp, eo]
    simp only [if_true, ed, eg, hkn, el, en]
    rw [if_neg (by omega)]

/-- The digits of numbers, one behind the other. -/
def digs (l : List Int) (k : Nat) : List Bool := (l.map fun y => riceDig y k).flatten
theorem digs_snoc (l : List Int) (k : Nat) (y : Int) : digs (l ++ [y]) k = digs l k ++ riceDig y k := by simp [digs]
theorem digs_app (l m : List Int) (k : Nat) : digs (l ++ m) k = digs l k ++ digs m k := by simp [digs]
theorem digs_cons (y : Int) (l : List Int) (k : Nat) : digs (y :: l) k = riceDig y k ++ digs l k := by simp [digs]
theorem length_digs (l : List Int) (k : Nat) (h : ∀ x ∈ l, isNum x = true) (hk : k ≤ 24) : ((digs l k).length : Int) = sumSize l k ∧ (digs l k).length ≤ 56 * l.length := by
  induction l with
  | nil => simp [digs, sumSize]
  | cons y l ih =>
    have hy := h y (by simp)
    have ih' := ih (fun x hx => h x (by simp [hx]))
    have h1 := length_riceDig y k (isNum_true hy).1
    have h2 := length_riceDig_le y k (isNum_true hy).1 hk
    have hp : isPar (k : Int) = true := by simp [isPar]; omega
    have e : sumSize (y :: l) k = sizeIn y k + sumSize l k := by
      simp [sumSize, sizeOf1, hy, hp]
    rw [digs_cons, e]
    simp only [List.length_append, List.length_cons]
    omega

/-- What is ahead of a reader behind the first j numbers. -/
theorem left_digs (zs : List Int) (k j : Nat) (y : Int) (l : List Nat) (hl : l = pack (digs zs k)) (hj : zs[j]? = some y) :
    ∃ rest, left l (digs (zs.take j) k).length = riceDig y k ++ rest := by
  have hs : zs = zs.take j ++ (y :: zs.drop (j + 1)) := by
    have hlt : j < zs.length := (List.getElem?_eq_some_iff.1 hj).1
    have := List.take_append_drop j zs
    rw [List.drop_eq_getElem_cons hlt] at this
    have e : zs[j] = y := (List.getElem?_eq_some_iff.1 hj).2
    rw [e] at this
    exact this.symm
  obtain ⟨p, hp⟩ : ∃ p, unpack l = digs zs k ++ p := ⟨_, by rw [hl, unpack_pack]⟩
  have h2 : digs zs k = digs (zs.take j) k ++ (riceDig y k ++ digs (zs.drop (j + 1)) k) := by
    rw [← digs_cons, ← digs_app, ← hs]
  refine ⟨digs (zs.drop (j + 1)) k ++ p, ?_⟩
  unfold left
  rw [hp, h2, List.append_assoc, List.drop_left, List.append_assoc]

/-- A writer beside a row of numbers. -/
structure BackAt (W wr : World) (b : Nat) (rv v : Value) (ds : List Bool) (zs : List Int) : Prop where
  wt : WrAt wr b rv ds
  own : OwnInts wr W.heap.size v zs
  ap : ∀ i, v.ownBlock = some i → ¬ Wf b rv i
  bel : Below W.heap.size W wr

theorem BackAt.wrote {W wr w2 : World} {b : Nat} {rv v : Value} {ds ds2 : List Bool} {zs : List Int} (h : BackAt W wr b rv v ds zs) (hb : W.heap.size ≤ b) (hw : Wrote wr w2 b rv ds2) : ∃ rv2, BackAt W w2 b rv2 v ds2 zs := by
  obtain ⟨rv2, hw2, hk2, hn2⟩ := hw
  have hfoot := h.wt.foot
  refine ⟨rv2, hw2, ownsRow_other h.own hk2 h.ap, fun i hi hf => ?_, hk2.below_of h.bel (fun k hk => ?_) ?_⟩
  · rcases hf with rfl | hf
    · exact h.ap _ hi (Or.inl rfl)
    · rcases hn2 i hf with h2 | h2
      · exact h.ap i hi (Or.inr h2)
      · have := (World.ownsRow.lt h.own i hi).2; omega
  · have := (hfoot k hk).1; omega
  · have := h.wt.lt; omega

/-- 'append(z, n)' of one number that was just built, beside a writer. -/
theorem wpList_append_back {P : Program} (W w0 : World) {ops : Array Oper} {rest : List Oper} {o : Oper} {a : Act} {Q : Exit → Act → World → Prop}
    (hgd : o.guard = none) (s x : Operand) (t : TypeId) (ho : o.op = .call { callee := .builtin .append, args := #[s, x], argTypes := #[t, t] })
    (i : TypeInfo) (ht : P.underlying t = some (.slice 3)) (hi : P.info? 3 = some i) (hz : i.zero = some (.int .i64 0)) (hsize : i.size = 1) (hby : i.bytes = 8)
    (b : Nat) (rv v : Value) (ds : List Bool) (l : List Int) (hs : a.eval s = v) (hbk : BackAt W w0 b rv v ds l) (hbW : W.heap.size ≤ b) (y : Int) (hx : a.eval x = .slice (some ⟨w0.heap.size, 0, none⟩) 1 1)
    (hl : l.length ≤ 1000000)
    (h : ∀ v' w', Hid (BackAt W w' b rv v' ds (l ++ [y])) → wpList P ops Q rest (a.put o.dst v') w') : wpList P ops Q (o :: rest) a (w0.alloc (.cells #[.int .i64 y] 3)) := by
  have hsz : W.heap.size ≤ w0.heap.size := hbk.bel.size
  refine wpList_append_mine _ hgd s x t ho W.heap.size 3 i (.int .i64 0) 1 8 ht hi hz hsize hby rfl (by decide) v l.length (i64s l) hs (World.ownsRow.alloc hbk.own _) ⟨w0.heap.size, 0, none⟩ 1 1 [.int .i64 y] hx rfl ?c1 ?c2 (by decide) ?b1 ?b2 ?b3 ?_
  case c1 => intro j u hj; match j, hj with | 0, hj => simp at hj; subst hj; simp [Addr.add]
  case c2 => intro u hu; simp at hu; subst hu; rfl
  case b1 => unfold maxLen; omega
  case b2 => omega
  case b3 => simp; omega
  intro g cap w' H1 HG HN
  have hka : Kept (fun i => v.ownBlock = some i) w0 w' := (Kept.alloc _ w0 _).trans (Kept.grown HG.out)
  refine h _ w' ⟨hbk.wt.other hka (fun k hk hv => hbk.ap k hv hk), ?_, ?_, ?_⟩
  · show World.ownsRow _ _ _ _ _ _ _
    have := H1.out
    simpa [i64s] using this
  · intro i hi hf
    simp [Value.ownBlock] at hi
    subst hi
    rcases HN.out with h2 | h2
    · exact hbk.ap _ h2 hf
    · have := (hbk.wt.foot _ hf).2
      simp at h2
      omega
  · exact (hbk.bel.alloc hsz _).grown HG.out (by simp; omega) (fun k hk => (World.ownsRow.lt hbk.own k hk).1)

end Go.Proofs.YtlonnoapbfjomabGreat
