/- How long frames are: small numbers, samples that are all alike, lines; no program. -/
import Derived.Test.YtlonnoapbfjomabGreatFrmMore
namespace Go.Proofs.YtlonnoapbfjomabGreat
set_option linter.unusedVariables false
set_option linter.unusedSimpArgs false
open Go.RowKit Dg

theorem len_residD {l : List Int} (h : okZ l) : ((residD l).length : Int) = 5 + sumSize (zigs l) (parOf l : Int) := by
  have := (length_digs (zigs l) (parOf l) (okZ_num h) (parOf_le l)).1
  unfold residD
  simp only [List.length_append, length_dig]
  omega
theorem best_le (l : List Int) (k : Nat) (hk : k ≤ 24) : sumSize (zigs l) (parOf l : Int) ≤ sumSize (zigs l) (k : Int) := by
  have h1 := bestTo_size (zigs l) 24
  have h2 := (bestTo_least (zigs l) 24 k hk).1
  unfold parOf
  rw [h1] at h2
  exact h2
theorem sumSize_cons (z : Int) (l : List Int) (k : Int) : sumSize (z :: l) k = sizeOf1 z k + sumSize l k := by simp [sumSize]
theorem sumSize_app (l m : List Int) (k : Int) : sumSize (l ++ m) k = sumSize l k + sumSize m k := by
  induction l with
  | nil => simp [sumSize]
  | cons z l ih => rw [List.cons_append, sumSize_cons, sumSize_cons, ih]; omega
theorem sumSize_le {l : List Int} {k M : Int} (h : ∀ z ∈ l, sizeOf1 z k ≤ M) : sumSize l k ≤ M * (l.length : Int) := by
  induction l with
  | nil => simp [sumSize]
  | cons z l ih =>
    have h1 := h z (by simp)
    have h2 := ih (fun y hy => h y (by simp [hy]))
    rw [sumSize_cons, List.length_cons]
    have e : M * ((l.length + 1 : Nat) : Int) = M * (l.length : Int) + M := by rw [show ((l.length + 1 : Nat) : Int) = (l.length : Int) + 1 by omega, Int.mul_add, Int.mul_one]
    omega
theorem sizeOf1_at {z : Int} {k : Nat} (hz : isNum z = true) (hk : k ≤ 24) : sizeOf1 z (k : Int) = sizeIn z k := by
  unfold sizeOf1
  rw [if_pos ⟨hz, by simp [isPar]; omega⟩, Int.toNat_natCast]
theorem sizeIn_ge {z : Int} (hz : 0 ≤ z) {k : Nat} (hk : k ≤ 24) : 1 + (k : Int) ≤ sizeIn z k := by
  have := quot_le z k hz
  unfold sizeIn
  split <;> omega
theorem sumSize_ge {l : List Int} {k : Nat} (h : ∀ z ∈ l, isNum z = true) (hk : k ≤ 24) : (l.length : Int) ≤ sumSize l (k : Int) := by
  induction l with
  | nil => simp [sumSize]
  | cons z l ih =>
    have h1 := h z (by simp)
    have h2 := ih (fun y hy => h y (by simp [hy]))
    have h3 := sizeIn_ge (isNum_true h1).1 hk
    rw [sumSize_cons, List.length_cons, sizeOf1_at h1 hk]
    omega
theorem residZ_zero (x : List Int) : residZ x 0 = x := by
  unfold residZ
  refine List.ext_getElem? (fun i => ?_)
  by_cases hi : i < x.length
  · rw [List.getElem?_map, List.getElem?_range (by omega)]
    have e : guessZ (x.take (0 + i)) (coefs ((0 : Nat) : Int)) = 0 := rfl
    simp only [Option.map_some]
    rw [e, Nat.zero_add, Int.sub_zero]
    simp [List.getD, hi]
  · rw [List.getElem?_eq_none (by simp; omega), List.getElem?_eq_none (by omega)]
/-- The frame of order 0. -/
theorem frm_two {x : List Int} (h : mayX x) (hz : okZ x) (s : Nat) : frm 2 x s = some (headD 2 x.length ++ [] ++ residD x) := by
  unfold frm
  rw [if_neg (by simp [h]), if_neg (by decide), if_neg (by decide), if_pos (by decide)]
  have e : ((2 : Int) - 2).toNat = 0 := rfl
  rw [e, residZ_zero, if_neg (by omega), if_pos hz]
  rfl
theorem best_small {x : List Int} (h : mayX x) (hs : ∀ v ∈ x, 0 ≤ v ∧ v ≤ 15) (s : Nat) : (bestF x s 19).length ≤ 21 + 6 * x.length := by
  have hzz : ∀ v ∈ x, zigOf v = 2 * v := fun v hv => by
    have := hs v hv
    unfold zigOf
    rw [if_neg (by omega), if_neg (by omega)]
  have hok : okZ x := by
    intro z hz
    obtain ⟨v, hv, rfl⟩ := List.mem_map.1 hz
    rw [hzz v hv]
    have := hs v hv
    omega
  obtain ⟨i, -, -, h3⟩ := bestF_any h s
  have h4 := (h3 2 _ (by decide) (frm_two h hok s)).1
  have h5 := len_residD hok
  have h6 := best_le x 4 (by decide)
  have h7 : sumSize (zigs x) ((4 : Nat) : Int) ≤ 6 * ((zigs x).length : Int) := by
    refine sumSize_le (fun z hz => ?_)
    rw [sizeOf1_at (okZ_num hok z hz) (by decide)]
    obtain ⟨v, hv, rfl⟩ := List.mem_map.1 hz
    rw [hzz v hv]
    have := hs v hv
    unfold sizeIn
    split
    · omega
    · omega
  rw [length_zigs] at h7
  simp at h4
  omega
theorem okZ_len {l : List Int} (h : okZ l) : 5 + l.length ≤ (residD l).length := by
  have h1 := len_residD h
  have h2 := sumSize_ge (okZ_num h) (parOf_le l)
  rw [length_zigs] at h2
  omega
/-- Every frame that is no constant has more digits than one, where there are 20 samples and more. -/
theorem frm_long {k : Nat} {x : List Int} {s : Nat} {D : List Bool} (h : frm (k : Int) x s = some D) (hk : k ≠ 0) (hx : 20 ≤ x.length) : 41 ≤ D.length := by
  unfold frm at h
  by_cases hb : ¬ mayX x ∨ (k : Int) < 0 ∨ 18 < (k : Int)
  · rw [if_pos hb] at h; cases h
  rw [if_neg hb, if_neg (by omega)] at h
  by_cases h1 : (k : Int) = 1
  · rw [if_pos h1] at h; cases h; simp; omega
  rw [if_neg h1] at h
  by_cases h6 : (k : Int) ≤ 6
  · rw [if_pos h6] at h
    by_cases hl : (x.length : Int) < (k : Int) - 2
    · rw [if_pos hl] at h; cases h
    rw [if_neg hl] at h
    by_cases hz : okZ (residZ x ((k : Int) - 2).toNat)
    · rw [if_pos hz] at h
      cases h
      have := okZ_len hz
      simp at this ⊢
      omega
    · rw [if_neg hz] at h; cases h
  rw [if_neg h6] at h
  obtain ⟨⟨c, b⟩, hc⟩ : ∃ R, R = coOut x ((k : Int) - 6) s := ⟨_, rfl⟩
  rw [← hc] at h
  simp only at h
  cases b with
  | false => simp at h
  | true =>
    rw [if_pos rfl] at h
    obtain ⟨g1, g2, g3, g4, g5⟩ := coOut_true hc.symm
    by_cases hz : okZ (lresidZ x c)
    · rw [if_pos hz] at h
      cases h
      have := okZ_len hz
      simp at this ⊢
      omega
    · rw [if_neg hz] at h; cases h
theorem best_const {x : List Int} (h : mayX x) (hall : allOne x) (hx : 20 ≤ x.length) (s : Nat) : frm 0 x s = some (bestF x s 19) ∧ (bestF x s 19).length = 40 := by
  have h0 : frm 0 x s = some (headD 0 x.length ++ sampD (x.getD 0 0)) := by
    unfold frm
    rw [if_neg (by simp [h]), if_pos rfl, if_pos hall]
  obtain ⟨i, h1, h2, h3⟩ := bestF_any h s
  have h4 := (h3 0 _ (by decide) h0).1
  simp at h4
  by_cases hi : i = 0
  · subst hi
    have h5 : frm 0 x s = some (bestF x s 19) := h2
    rw [h0] at h5
    refine ⟨h2, ?_⟩
    have h6 := Option.some.inj h5
    rw [← h6]
    simp
  · have := frm_long h2 hi hx
    omega
/-- Two numbers that lie ten apart have no few digits. -/
theorem pair_ge {a b : Int} (ha : isNum (zigOf a) = true) (hb : isNum (zigOf b) = true) (hs1 : -2000000 ≤ a ∧ a ≤ 2000000) (hs2 : -2000000 ≤ b ∧ b ≤ 2000000) (h : a + 10 ≤ b) {k : Nat} (hk : k ≤ 24) : 8 ≤ sizeOf1 (zigOf a) (k : Int) + sizeOf1 (zigOf b) (k : Int) := by
  rw [sizeOf1_at ha hk, sizeOf1_at hb hk]
  have h1 := sizeIn_ge (isNum_true ha).1 hk
  have h2 := sizeIn_ge (isNum_true hb).1 hk
  by_cases h3 : 3 ≤ k
  · omega
  · have ez : 18 ≤ zigOf a + zigOf b := by
      have za : zigOf a = if a < 0 then -2 * a - 1 else 2 * a := by unfold zigOf; rw [if_neg (by omega)]
      have zb : zigOf b = if b < 0 then -2 * b - 1 else 2 * b := by unfold zigOf; rw [if_neg (by omega)]
      rw [za, zb]
      split <;> split <;> omega
    have hz1 := (isNum_true ha).1
    have hz2 := (isNum_true hb).1
    unfold sizeIn
    rcases (by omega : k = 0 ∨ k = 1 ∨ k = 2) with rfl | rfl | rfl
    · split <;> split <;> omega
    · split <;> split <;> omega
    · split <;> split <;> omega
theorem pairs_ge (A B : List Int) (k : Nat) (hl : A.length = B.length) (h : ∀ (i : Nat) (a b : Int), A[i]? = some a → B[i]? = some b → 8 ≤ sizeOf1 a (k : Int) + sizeOf1 b (k : Int)) : 8 * (A.length : Int) ≤ sumSize A (k : Int) + sumSize B (k : Int) := by
  induction A generalizing B with
  | nil => cases B with
    | nil => simp [sumSize]
    | cons b B => simp at hl
  | cons a A ih => cases B with
    | nil => simp at hl
    | cons b B =>
      have h1 := h 0 a b rfl rfl
      have h2 := ih B (by simpa using hl) (fun i x y hx hy => h (i + 1) x y (by simpa using hx) (by simpa using hy))
      rw [sumSize_cons, sumSize_cons, List.length_cons]
      omega
/-- A line. -/
structure Line (x : List Int) (v st : Int) : Prop where
  len1 : 20 ≤ x.length
  len2 : x.length ≤ 64
  at_ : ∀ i : Nat, i < x.length → x[i]? = some (v + st * (i : Int))
  v1 : -524288 ≤ v
  v2 : v ≤ 524288
  st1 : 1 ≤ st
  st2 : st ≤ 1000
theorem Line.small {x : List Int} {v st : Int} (h : Line x v st) {y : Int} (hy : y ∈ x) : -2000000 ≤ y ∧ y ≤ 2000000 := by
  obtain ⟨i, hi, e⟩ := List.getElem_of_mem hy
  have h1 := h.at_ i hi
  rw [List.getElem?_eq_getElem hi, e] at h1
  cases h1
  have h2 : 0 ≤ st * (i : Int) := Int.mul_nonneg (by have := h.st1; omega) (by omega)
  have h3 : st * (i : Int) ≤ 1000 * (i : Int) := Int.mul_le_mul_of_nonneg_right h.st2 (by omega)
  have := h.v1
  have := h.v2
  have := h.len2
  omega
theorem Line.may {x : List Int} {v st : Int} (h : Line x v st) : mayX x := ⟨by have := h.len1; omega, h.len2, fun y hy => by have := h.small hy; unfold isS; omega⟩
theorem Line.get {x : List Int} {v st : Int} (h : Line x v st) {i : Nat} (hi : i < x.length) : at0 x i = v + st * (i : Int) := getD_of (h.at_ i hi)
theorem Line.resid {x : List Int} {v st : Int} (h : Line x v st) : residZ x 2 = List.replicate (x.length - 2) 0 := by
  refine List.eq_replicate_iff.2 ⟨by simp, fun y hy => ?_⟩
  obtain ⟨j, hj, e⟩ := List.getElem_of_mem hy
  have hj' : 2 + j < x.length := by simp at hj; omega
  have h1 := residZ_at x 2 j (by decide) hj'
  rw [List.getElem?_eq_getElem hj, e] at h1
  have h2 := Option.some.inj h1
  rw [h2]
  have e2 : tell 2 (at0 x) (2 + j) = 2 * at0 x (1 + j) - at0 x j := by
    show 2 * at0 x (2 + j - 1) - at0 x (2 + j - 2) = _
    rw [show 2 + j - 1 = 1 + j by omega, show 2 + j - 2 = j by omega]
  rw [e2, h.get hj', h.get (by omega), h.get (by omega)]
  have b1 : ((2 + j : Nat) : Int) = (j : Int) + 2 := by omega
  have b2 : ((1 + j : Nat) : Int) = (j : Int) + 1 := by omega
  rw [b1, b2]
  grind
theorem zeros_ok (m : Nat) : okZ (List.replicate m 0) := by
  intro z hz
  obtain ⟨v, hv, rfl⟩ := List.mem_map.1 hz
  have := List.eq_of_mem_replicate hv
  subst this
  decide
theorem zeros_sum (m : Nat) : sumSize (zigs (List.replicate m 0)) ((0 : Nat) : Int) = (m : Int) := by
  induction m with
  | zero => rfl
  | succ m ih =>
    have e : zigs (List.replicate (m + 1) 0) = 0 :: zigs (List.replicate m 0) := rfl
    rw [e, sumSize_cons, ih]
    have : sizeOf1 0 ((0 : Nat) : Int) = 1 := by decide
    omega
theorem Line.four {x : List Int} {v st : Int} (h : Line x v st) (s : Nat) : ∃ D, frm 4 x s = some D ∧ D.length ≤ 67 + x.length := by
  have hz := zeros_ok (x.length - 2)
  have h1 := h.len1
  refine ⟨headD 4 x.length ++ sampsD (x.take 2) ++ residD (List.replicate (x.length - 2) 0), ?_, ?_⟩
  · unfold frm
    rw [if_neg (by simp [h.may]), if_neg (by decide), if_neg (by decide), if_pos (by decide)]
    have e : ((4 : Int) - 2).toNat = 2 := rfl
    rw [e, h.resid, if_neg (by omega), if_pos hz]
  · have h2 := len_residD hz
    have h3 := best_le (List.replicate (x.length - 2) 0) 0 (by decide)
    rw [zeros_sum] at h3
    simp
    omega
theorem Line.zig_num {x : List Int} {v st : Int} (h : Line x v st) : okZ x := by
  intro z hz
  obtain ⟨y, hy, rfl⟩ := List.mem_map.1 hz
  have := h.small hy
  unfold zigOf
  rw [if_neg (by omega)]
  split <;> omega
theorem Line.sum {x : List Int} {v st : Int} (h : Line x v st) {k : Nat} (hk : k ≤ 24) : 60 + (x.length : Int) ≤ sumSize (zigs x) (k : Int) := by
  have hl := h.len1
  have e : zigs x = zigs (x.take 10) ++ (zigs ((x.drop 10).take 10) ++ zigs (x.drop 20)) := by
    unfold zigs
    rw [← List.map_append, ← List.map_append]
    congr 1
    have e1 : x.drop 20 = (x.drop 10).drop 10 := by rw [List.drop_drop]
    rw [e1, List.take_append_drop, List.take_append_drop]
  have hn := okZ_num h.zig_num
  have h1 : 8 * ((zigs (x.take 10)).length : Int) ≤ sumSize (zigs (x.take 10)) (k : Int) + sumSize (zigs ((x.drop 10).take 10)) (k : Int) := by
    refine pairs_ge _ _ k (by simp; omega) (fun i a b ha hb => ?_)
    unfold zigs at ha hb
    rw [List.getElem?_map] at ha hb
    obtain ⟨p, hp, rfl⟩ := Option.map_eq_some_iff.1 ha
    obtain ⟨q, hq, rfl⟩ := Option.map_eq_some_iff.1 hb
    have hi : i < 10 := by have := (List.getElem?_eq_some_iff.1 hp).1; simp at this; omega
    rw [List.getElem?_take, if_pos hi] at hp hq
    rw [List.getElem?_drop] at hq
    have gp := h.at_ i (by omega)
    have gq := h.at_ (10 + i) (by omega)
    rw [hp] at gp
    rw [hq] at gq
    have mp := List.mem_of_getElem? hp
    have mq := List.mem_of_getElem? hq
    refine pair_ge (hn _ (List.mem_map.2 ⟨p, mp, rfl⟩)) (hn _ (List.mem_map.2 ⟨q, mq, rfl⟩)) (h.small mp) (h.small mq) ?_ hk
    cases gp
    cases gq
    have e3 : st * ((10 + i : Nat) : Int) = st * 10 + st * (i : Int) := by rw [show ((10 + i : Nat) : Int) = 10 + (i : Int) by omega, Int.mul_add]
    have := h.st1
    rw [e3]
    omega
  have h2 : ((zigs (x.drop 20)).length : Int) ≤ sumSize (zigs (x.drop 20)) (k : Int) := by
    refine sumSize_ge (fun z hz => hn z ?_) hk
    rw [e]
    simp [hz]
  rw [e, sumSize_app, sumSize_app]
  simp at h1 h2
  omega
/-- The shortest frame of a line has a predictor. -/
theorem Line.best {x : List Int} {v st : Int} (h : Line x v st) (s : Nat) : ∃ i : Nat, 3 ≤ i ∧ i < 19 ∧ frm (i : Int) x s = some (bestF x s 19) ∧ ∃ D, frm 4 x s = some D ∧ (bestF x s 19).length ≤ D.length := by
  obtain ⟨D, hD, hDl⟩ := h.four s
  obtain ⟨i, h1, h2, h3⟩ := bestF_any h.may s
  have h4 := (h3 4 D (by decide) hD).1
  have hl := h.len1
  refine ⟨i, ?_, h1, h2, D, hD, h4⟩
  rcases (by omega : i = 0 ∨ i = 1 ∨ i = 2 ∨ 3 ≤ i) with rfl | rfl | rfl | hi
  · exfalso
    have h5 : frm 0 x s = some (bestF x s 19) := h2
    unfold frm at h5
    rw [if_neg (by simp [h.may]), if_pos rfl] at h5
    by_cases ha : allOne x
    · have g0 := h.at_ 0 (by omega)
      have g1 := h.at_ 1 (by omega)
      have a1 := ha _ (List.mem_of_getElem? g1)
      rw [getD_of g0] at a1
      have := h.st1
      simp at a1
      omega
    · rw [if_neg ha] at h5; cases h5
  · exfalso
    have h5 : frm 1 x s = some (bestF x s 19) := h2
    rw [frm_verb h.may] at h5
    have h6 := Option.some.inj h5
    rw [← h6] at h4
    simp at h4
    omega
  · exfalso
    have h5 : frm 2 x s = some (bestF x s 19) := h2
    rw [frm_two h.may h.zig_num] at h5
    have h6 := Option.some.inj h5
    rw [← h6] at h4
    have h7 := len_residD h.zig_num
    have h8 := h.sum (parOf_le x)
    simp at h4
    omega
  · exact hi

end Go.Proofs.YtlonnoapbfjomabGreat
