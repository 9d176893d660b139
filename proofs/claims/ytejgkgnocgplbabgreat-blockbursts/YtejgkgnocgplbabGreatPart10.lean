/- The texts FrmSize, FrmW, Crc1, Crc7, BlkMath, one behind the other. -/
import Derived.Test.YtejgkgnocgplbabGreatPart09
import Derived.Test.YtejgkgnocgplbabGreatPart01

/- How long frames are: small numbers, samples that are all alike, lines; no program. -/
namespace Go.Proofs.YtejgkgnocgplbabGreat
set_option linter.unusedVariables false
set_option linter.unusedSimpArgs false
open Go.RowKit Dg

theorem len_residD {l : List Int} (h : okZ l) : ((residD l).length : Int) = 5 + sumSize (zigs l) (parOf l : Int) := by
  have := (length_digs (zigs l) (parOf l) (okZ_num h) (parOf_le l)).1
  unfold residD
  simp only [List.length_append, length_dig]
  omega
theorem best_le (l : List Int) (k : Nat) (hk : k ≤ 24) : sumSize (zigs l) (parOf l : Int) ≤ sumSize (zigs l) (k : Int) := by
  have h1 := bestTo_size (zigs l) 24
  have h2 := (bestTo_least (zigs l) 24 k hk).1
  unfold parOf
  rw [h1] at h2
  exact h2
theorem sumSize_cons (z : Int) (l : List Int) (k : Int) : sumSize (z :: l) k = sizeOf1 z k + sumSize l k := by simp [sumSize]
theorem sumSize_app (l m : List Int) (k : Int) : sumSize (l ++ m) k = sumSize l k + sumSize m k := by
  induction l with
  | nil => simp [sumSize]
  | cons z l ih => rw [List.cons_append, sumSize_cons, sumSize_cons, ih]; omega
theorem sumSize_le {l : List Int} {k M : Int} (h : ∀ z ∈ l, sizeOf1 z k ≤ M) : sumSize l k ≤ M * (l.length : Int) := by
  induction l with
  | nil => simp [sumSize]
  | cons z l ih =>
    have h1 := h z (by simp)
    have h2 := ih (fun y hy => h y (by simp [hy]))
    rw [sumSize_cons, List.length_cons]
    have e : M * ((l.length + 1 : Nat) : Int) = M * (l.length : Int) + M := by rw [show ((l.length + 1 : Nat) : Int) = (l.length : Int) + 1 by omega, Int.mul_add, Int.mul_one]
    omega
theorem sizeOf1_at {z : Int} {k : Nat} (hz : isNum z = true) (hk : k ≤ 24) : sizeOf1 z (k : Int) = sizeIn z k := by
  unfold sizeOf1
  rw [if_pos ⟨hz, by simp [isPar]; omega⟩, Int.toNat_natCast]
theorem sizeIn_ge {z : Int} (hz : 0 ≤ z) {k : Nat} (hk : k ≤ 24) : 1 + (k : Int) ≤ sizeIn z k := by
  have := quot_le z k hz
  unfold sizeIn
  split <;> omega
theorem sumSize_ge {l : List Int} {k : Nat} (h : ∀ z ∈ l, isNum z = true) (hk : k ≤ 24) : (l.length : Int) ≤ sumSize l (k : Int) := by
  induction l with
  | nil => simp [sumSize]
  | cons z l ih =>
    have h1 := h z (by simp)
    have h2 := ih (fun y hy => h y (by simp [hy]))
    have h3 := sizeIn_ge (isNum_true h1).1 hk
    rw [sumSize_cons, List.length_cons, sizeOf1_at h1 hk]
    omega
theorem residZ_zero (x : List Int) : residZ x 0 = x := by
  unfold residZ
  refine List.ext_getElem? (fun i => ?_)
  by_cases hi : i < x.length
  · rw [List.getElem?_map, List.getElem?_range (by omega)]
    have e : guessZ (x.take (0 + i)) (coefs ((0 : Nat) : Int)) = 0 := rfl
    simp only [Option.map_some]
    rw [e, Nat.zero_add, Int.sub_zero]
    simp [List.getD, hi]
  · rw [List.getElem?_eq_none (by simp; omega), List.getElem?_eq_none (by omega)]
/-- The frame of order 0. -/
theorem frm_two {x : List Int} (h : mayX x) (hz : okZ x) (s : Nat) : frm 2 x s = some (headD 2 x.length ++ [] ++ residD x) := by
  unfold frm
  rw [if_neg (by simp [h]), if_neg (by decide), if_neg (by decide), if_pos (by decide)]
  have e : ((2 : Int) - 2).toNat = 0 := rfl
  rw [e, residZ_zero, if_neg (by omega), if_pos hz]
  rfl
theorem best_small {x : List Int} (h : mayX x) (hs : ∀ v ∈ x, 0 ≤ v ∧ v ≤ 15) (s : Nat) : (bestF x s 19).length ≤ 21 + 6 * x.length := by
  have hzz : ∀ v ∈ x, zigOf v = 2 * v := fun v hv => by
    have := hs v hv
    unfold zigOf
    rw [if_neg (by omega), if_neg (by omega)]
  have hok : okZ x := by
    intro z hz
    obtain ⟨v, hv, rfl⟩ := List.mem_map.1 hz
    rw [hzz v hv]
    have := hs v hv
    omega
  obtain ⟨i, -, -, h3⟩ := bestF_any h s
  have h4 := (h3 2 _ (by decide) (frm_two h hok s)).1
  have h5 := len_residD hok
  have h6 := best_le x 4 (by decide)
  have h7 : sumSize (zigs x) ((4 : Nat) : Int) ≤ 6 * ((zigs x).length : Int) := by
    refine sumSize_le (fun z hz => ?_)
    rw [sizeOf1_at (okZ_num hok z hz) (by decide)]
    obtain ⟨v, hv, rfl⟩ := List.mem_map.1 hz
    rw [hzz v hv]
    have := hs v hv
    unfold sizeIn
    split
    · omega
    · omega
  rw [length_zigs] at h7
  simp at h4
  omega
theorem okZ_len {l : List Int} (h : okZ l) : 5 + l.length ≤ (residD l).length := by
  have h1 := len_residD h
  have h2 := sumSize_ge (okZ_num h) (parOf_le l)
  rw [length_zigs] at h2
  omega
/-- Every frame that is no constant has more digits than one, where there are 20 samples and more. -/
theorem frm_long {k : Nat} {x : List Int} {s : Nat} {D : List Bool} (h : frm (k : Int) x s = some D) (hk : k ≠ 0) (hx : 20 ≤ x.length) : 41 ≤ D.length := by
  unfold frm at h
  by_cases hb : ¬ mayX x ∨ (k : Int) < 0 ∨ 18 < (k : Int)
  · rw [if_pos hb] at h; cases h
  rw [if_neg hb, if_neg (by omega)] at h
  by_cases h1 : (k : Int) = 1
  · rw [if_pos h1] at h; cases h; simp; omega
  rw [if_neg h1] at h
  by_cases h6 : (k : Int) ≤ 6
  · rw [if_pos h6] at h
    by_cases hl : (x.length : Int) < (k : Int) - 2
    · rw [if_pos hl] at h; cases h
    rw [if_neg hl] at h
    by_cases hz : okZ (residZ x ((k : Int) - 2).toNat)
    · rw [if_pos hz] at h
      cases h
      have := okZ_len hz
      simp at this ⊢
      omega
    · rw [if_neg hz] at h; cases h
  rw [if_neg h6] at h
  obtain ⟨⟨c, b⟩, hc⟩ : ∃ R, R = coOut x ((k : Int) - 6) s := ⟨_, rfl⟩
  rw [← hc] at h
  simp only at h
  cases b with
  | false => simp at h
  | true =>
    rw [if_pos rfl] at h
    obtain ⟨g1, g2, g3, g4, g5⟩ := coOut_true hc.symm
    by_cases hz : okZ (lresidZ x c)
    · rw [if_pos hz] at h
      cases h
      have := okZ_len hz
      simp at this ⊢
      omega
    · rw [if_neg hz] at h; cases h
theorem best_const {x : List Int} (h : mayX x) (hall : allOne x) (hx : 20 ≤ x.length) (s : Nat) : frm 0 x s = some (bestF x s 19) ∧ (bestF x s 19).length = 40 := by
  have h0 : frm 0 x s = some (headD 0 x.length ++ sampD (x.getD 0 0)) := by
    unfold frm
    rw [if_neg (by simp [h]), if_pos rfl, if_pos hall]
  obtain ⟨i, h1, h2, h3⟩ := bestF_any h s
  have h4 := (h3 0 _ (by decide) h0).1
  simp at h4
  by_cases hi : i = 0
  · subst hi
    have h5 : frm 0 x s = some (bestF x s 19) := h2
    rw [h0] at h5
    refine ⟨h2, ?_⟩
    have h6 := Option.some.inj h5
    rw [← h6]
    simp
  · have := frm_long h2 hi hx
    omega
/-- Two numbers that lie ten apart have no few digits. -/
theorem pair_ge {a b : Int} (ha : isNum (zigOf a) = true) (hb : isNum (zigOf b) = true) (hs1 : -2000000 ≤ a ∧ a ≤ 2000000) (hs2 : -2000000 ≤ b ∧ b ≤ 2000000) (h : a + 10 ≤ b) {k : Nat} (hk : k ≤ 24) : 8 ≤ sizeOf1 (zigOf a) (k : Int) + sizeOf1 (zigOf b) (k : Int) := by
  rw [sizeOf1_at ha hk, sizeOf1_at hb hk]
  have h1 := sizeIn_ge (isNum_true ha).1 hk
  have h2 := sizeIn_ge (isNum_true hb).1 hk
  by_cases h3 : 3 ≤ k
  · omega
  · have ez : 18 ≤ zigOf a + zigOf b := by
      have za : zigOf a = if a < 0 then -2 * a - 1 else 2 * a := by unfold zigOf; rw [if_neg (by omega)]
      have zb : zigOf b = if b < 0 then -2 * b - 1 else 2 * b := by unfold zigOf; rw [if_neg (by omega)]
      rw [za, zb]
      split <;> split <;> omega
    have hz1 := (isNum_true ha).1
    have hz2 := (isNum_true hb).1
    unfold sizeIn
    rcases (by omega : k = 0 ∨ k = 1 ∨ k = 2) with rfl | rfl | rfl
    · split <;> split <;> omega
    · split <;> split <;> omega
    · split <;> split <;> omega
theorem pairs_ge (A B : List Int) (k : Nat) (hl : A.length = B.length) (h : ∀ (i : Nat) (a b : Int), A[i]? = some a → B[i]? = some b → 8 ≤ sizeOf1 a (k : Int) + sizeOf1 b (k : Int)) : 8 * (A.length : Int) ≤ sumSize A (k : Int) + sumSize B (k : Int) := by
  induction A generalizing B with
  | nil => cases B with
    | nil => simp [sumSize]
    | cons b B => simp at hl
  | cons a A ih => cases B with
    | nil => simp at hl
    | cons b B =>
      have h1 := h 0 a b rfl rfl
      have h2 := ih B (by simpa using hl) (fun i x y hx hy => h (i + 1) x y (by simpa using hx) (by simpa using hy))
      rw [sumSize_cons, sumSize_cons, List.length_cons]
      omega
/-- A line. -/
structure Line (x : List Int) (v st : Int) : Prop where
  len1 : 20 ≤ x.length
  len2 : x.length ≤ 64
  at_ : ∀ i : Nat, i < x.length → x[i]? = some (v + st * (i : Int))
  v1 : -524288 ≤ v
  v2 : v ≤ 524288
  st1 : 1 ≤ st
  st2 : st ≤ 1000
theorem Line.small {x : List Int} {v st : Int} (h : Line x v st) {y : Int} (hy : y ∈ x) : -2000000 ≤ y ∧ y ≤ 2000000 := by
  obtain ⟨i, hi, e⟩ := List.getElem_of_mem hy
  have h1 := h.at_ i hi
  rw [List.getElem?_eq_getElem hi, e] at h1
  cases h1
  have h2 : 0 ≤ st * (i : Int) := Int.mul_nonneg (by have := h.st1; omega) (by omega)
  have h3 : st * (i : Int) ≤ 1000 * (i : Int) := Int.mul_le_mul_of_nonneg_right h.st2 (by omega)
  have := h.v1
  have := h.v2
  have := h.len2
  omega
theorem Line.may {x : List Int} {v st : Int} (h : Line x v st) : mayX x := ⟨by have := h.len1; omega, h.len2, fun y hy => by have := h.small hy; unfold isS; omega⟩
theorem Line.get {x : List Int} {v st : Int} (h : Line x v st) {i : Nat} (hi : i < x.length) : at0 x i = v + st * (i : Int) := getD_of (h.at_ i hi)
theorem Line.resid {x : List Int} {v st : Int} (h : Line x v st) : residZ x 2 = List.replicate (x.length - 2) 0 := by
  refine List.eq_replicate_iff.2 ⟨by simp, fun y hy => ?_⟩
  obtain ⟨j, hj, e⟩ := List.getElem_of_mem hy
  have hj' : 2 + j < x.length := by simp at hj; omega
  have h1 := residZ_at x 2 j (by decide) hj'
  rw [List.getElem?_eq_getElem hj, e] at h1
  have h2 := Option.some.inj h1
  rw [h2]
  have e2 : tell 2 (at0 x) (2 + j) = 2 * at0 x (1 + j) - at0 x j := by
    show 2 * at0 x (2 + j - 1) - at0 x (2 + j - 2) = _
    rw [show 2 + j - 1 = 1 + j by omega, show 2 + j - 2 = j by omega]
  rw [e2, h.get hj', h.get (by omega), h.get (by omega)]
  have b1 : ((2 + j : Nat) : Int) = (j : Int) + 2 := by omega
  have b2 : ((1 + j : Nat) : Int) = (j : Int) + 1 := by omega
  rw [b1, b2]
  grind
theorem zeros_ok (m : Nat) : okZ (List.replicate m 0) := by
  intro z hz
  obtain ⟨v, hv, rfl⟩ := List.mem_map.1 hz
  have := List.eq_of_mem_replicate hv
  subst this
  decide
theorem zeros_sum (m : Nat) : sumSize (zigs (List.replicate m 0)) ((0 : Nat) : Int) = (m : Int) := by
  induction m with
  | zero => rfl
  | succ m ih =>
    have e : zigs (List.replicate (m + 1) 0) = 0 :: zigs (List.replicate m 0) := rfl
    rw [e, sumSize_cons, ih]
    have : sizeOf1 0 ((0 : Nat) : Int) = 1 := by decide
    omega
theorem Line.four {x : List Int} {v st : Int} (h : Line x v st) (s : Nat) : ∃ D, frm 4 x s = some D ∧ D.length ≤ 67 + x.length := by
  have hz := zeros_ok (x.length - 2)
  have h1 := h.len1
  refine ⟨headD 4 x.length ++ sampsD (x.take 2) ++ residD (List.replicate (x.length - 2) 0), ?_, ?_⟩
  · unfold frm
    rw [if_neg (by simp [h.may]), if_neg (by decide), if_neg (by decide), if_pos (by decide)]
    have e : ((4 : Int) - 2).toNat = 2 := rfl
    rw [e, h.resid, if_neg (by omega), if_pos hz]
  · have h2 := len_residD hz
    have h3 := best_le (List.replicate (x.length - 2) 0) 0 (by decide)
    rw [zeros_sum] at h3
    simp
    omega
theorem Line.zig_num {x : List Int} {v st : Int} (h : Line x v st) : okZ x := by
  intro z hz
  obtain ⟨y, hy, rfl⟩ := List.mem_map.1 hz
  have := h.small hy
  unfold zigOf
  rw [if_neg (by omega)]
  split <;> omega
theorem Line.sum {x : List Int} {v st : Int} (h : Line x v st) {k : Nat} (hk : k ≤ 24) : 60 + (x.length : Int) ≤ sumSize (zigs x) (k : Int) := by
  have hl := h.len1
  have e : zigs x = zigs (x.take 10) ++ (zigs ((x.drop 10).take 10) ++ zigs (x.drop 20)) := by
    unfold zigs
    rw [← List.map_append, ← List.map_append]
    congr 1
    have e1 : x.drop 20 = (x.drop 10).drop 10 := by rw [List.drop_drop]
    rw [e1, List.take_append_drop, List.take_append_drop]
  have hn := okZ_num h.zig_num
  have h1 : 8 * ((zigs (x.take 10)).length : Int) ≤ sumSize (zigs (x.take 10)) (k : Int) + sumSize (zigs ((x.drop 10).take 10)) (k : Int) := by
    refine pairs_ge _ _ k (by simp; omega) (fun i a b ha hb => ?_)
    unfold zigs at ha hb
    rw [List.getElem?_map] at ha hb
    obtain ⟨p, hp, rfl⟩ := Option.map_eq_some_iff.1 ha
    obtain ⟨q, hq, rfl⟩ := Option.map_eq_some_iff.1 hb
    have hi : i < 10 := by have := (List.getElem?_eq_some_iff.1 hp).1; simp at this; omega
    rw [List.getElem?_take, if_pos hi] at hp hq
    rw [List.getElem?_drop] at hq
    have gp := h.at_ i (by omega)
    have gq := h.at_ (10 + i) (by omega)
    rw [hp] at gp
    rw [hq] at gq
    have mp := List.mem_of_getElem? hp
    have mq := List.mem_of_getElem? hq
    refine pair_ge (hn _ (List.mem_map.2 ⟨p, mp, rfl⟩)) (hn _ (List.mem_map.2 ⟨q, mq, rfl⟩)) (h.small mp) (h.small mq) ?_ hk
    cases gp
    cases gq
    have e3 : st * ((10 + i : Nat) : Int) = st * 10 + st * (i : Int) := by rw [show ((10 + i : Nat) : Int) = 10 + (i : Int) by omega, Int.mul_add]
    have := h.st1
    rw [e3]
    omega
  have h2 : ((zigs (x.drop 20)).length : Int) ≤ sumSize (zigs (x.drop 20)) (k : Int) := by
    refine sumSize_ge (fun z hz => hn z ?_) hk
    rw [e]
    simp [hz]
  rw [e, sumSize_app, sumSize_app]
  simp at h1 h2
  omega
/-- The shortest frame of a line has a predictor. -/
theorem Line.best {x : List Int} {v st : Int} (h : Line x v st) (s : Nat) : ∃ i : Nat, 3 ≤ i ∧ i < 19 ∧ frm (i : Int) x s = some (bestF x s 19) ∧ ∃ D, frm 4 x s = some D ∧ (bestF x s 19).length ≤ D.length := by
  obtain ⟨D, hD, hDl⟩ := h.four s
  obtain ⟨i, h1, h2, h3⟩ := bestF_any h.may s
  have h4 := (h3 4 D (by decide) hD).1
  have hl := h.len1
  refine ⟨i, ?_, h1, h2, D, hD, h4⟩
  rcases (by omega : i = 0 ∨ i = 1 ∨ i = 2 ∨ 3 ≤ i) with rfl | rfl | rfl | hi
  · exfalso
    have h5 : frm 0 x s = some (bestF x s 19) := h2
    unfold frm at h5
    rw [if_neg (by simp [h.may]), if_pos rfl] at h5
    by_cases ha : allOne x
    · have g0 := h.at_ 0 (by omega)
      have g1 := h.at_ 1 (by omega)
      have a1 := ha _ (List.mem_of_getElem? g1)
      rw [getD_of g0] at a1
      have := h.st1
      simp at a1
      omega
    · rw [if_neg ha] at h5; cases h5
  · exfalso
    have h5 : frm 1 x s = some (bestF x s 19) := h2
    rw [frm_verb h.may] at h5
    have h6 := Option.some.inj h5
    rw [← h6] at h4
    simp at h4
    omega
  · exfalso
    have h5 : frm 2 x s = some (bestF x s 19) := h2
    rw [frm_two h.may h.zig_num] at h5
    have h6 := Option.some.inj h5
    rw [← h6] at h4
    have h7 := len_residD h.zig_num
    have h8 := h.sum (parOf_le x)
    simp at h4
    omega
  · exact hi

end Go.Proofs.YtejgkgnocgplbabGreat

/- The document's example of law08. -/
namespace Go.Proofs.YtejgkgnocgplbabGreat
set_option linter.unusedVariables false
set_option linter.unusedSimpArgs false
open Go.RowKit Dg

theorem shift_may (l : List Int) : ∃ s, mayX l → IsShift (autoZ l 0) s := by
  by_cases h : mayX l
  · have := autoZ_small h.2.2 h.2.1 0
    obtain ⟨s, -, hs⟩ := shift_exists (autoZ_zero l) (by omega)
    exact ⟨s, fun _ => hs⟩
  · exact ⟨0, fun h' => absurd h' h⟩
theorem encOut_may {x : List Int} (h : mayX x) (s : Nat) : encOut x s = (pack (bestF x s 19), 0) := by
  unfold encOut
  rw [if_neg (by have := h.1; have := h.2.1; omega), if_pos h.2.2]
/-- Every frame but a constant, verbatim and order 0 has at least 45 digits. -/
theorem frm_min {k : Nat} {x : List Int} {s : Nat} {D : List Bool} (h : frm (k : Int) x s = some D) (hk : 3 ≤ k) : 45 ≤ D.length := by
  unfold frm at h
  by_cases hb : ¬ mayX x ∨ (k : Int) < 0 ∨ 18 < (k : Int)
  · rw [if_pos hb] at h; cases h
  rw [if_neg hb, if_neg (by omega), if_neg (by omega)] at h
  by_cases h6 : (k : Int) ≤ 6
  · rw [if_pos h6] at h
    by_cases hl : (x.length : Int) < (k : Int) - 2
    · rw [if_pos hl] at h; cases h
    rw [if_neg hl] at h
    by_cases hz : okZ (residZ x ((k : Int) - 2).toNat)
    · rw [if_pos hz] at h
      cases h
      have := okZ_len hz
      simp at this ⊢
      omega
    · rw [if_neg hz] at h; cases h
  rw [if_neg h6] at h
  obtain ⟨⟨c, b⟩, hc⟩ : ∃ R, R = coOut x ((k : Int) - 6) s := ⟨_, rfl⟩
  rw [← hc] at h
  simp only at h
  cases b with
  | false => simp at h
  | true =>
    rw [if_pos rfl] at h
    obtain ⟨g1, g2, g3, g4, g5⟩ := coOut_true hc.symm
    by_cases hz : okZ (lresidZ x c)
    · rw [if_pos hz] at h
      cases h
      have := okZ_len hz
      simp at this ⊢
      omega
    · rw [if_neg hz] at h; cases h
theorem wake_best (s : Nat) : frm 2 [7, 7, 7] s = some (bestF [7, 7, 7] s 19) ∧ (bestF [7, 7, 7] s 19).length = 36 := by
  have hm : mayX [7, 7, 7] := by decide
  have hz : okZ [7, 7, 7] := by decide
  have e2 := frm_two hm hz s
  have e0 : frm 0 [7, 7, 7] s = some (headD 0 3 ++ sampD 7) := by
    unfold frm
    rw [if_neg (by simp [hm]), if_pos rfl, if_pos (by decide)]
    rfl
  have hl : (residD [7, 7, 7]).length = 20 := by decide +kernel
  obtain ⟨i, h1, h2, h3⟩ := bestF_any hm s
  have h4 := (h3 2 _ (by decide) e2).1
  simp [hl] at h4
  rcases (by omega : i = 0 ∨ i = 1 ∨ i = 2 ∨ 3 ≤ i) with rfl | rfl | rfl | hi
  · exfalso
    have h5 : frm 0 [7, 7, 7] s = some (bestF [7, 7, 7] s 19) := h2
    rw [e0] at h5
    have h6 := Option.some.inj h5
    rw [← h6] at h4
    simp at h4
  · exfalso
    have h5 : frm 1 [7, 7, 7] s = some (bestF [7, 7, 7] s 19) := h2
    rw [frm_verb hm] at h5
    have h6 := Option.some.inj h5
    rw [← h6] at h4
    simp at h4
  · refine ⟨h2, ?_⟩
    have h5 : frm 2 [7, 7, 7] s = some (bestF [7, 7, 7] s 19) := h2
    rw [e2] at h5
    have h6 := Option.some.inj h5
    rw [← h6]
    simp [hl]
  · have := frm_min h2 hi
    omega

end Go.Proofs.YtejgkgnocgplbabGreat

/- Plain mathematics of a sum of 32 binary digits: a digit at a step, a byte at a step, bursts: no program in sight. -/
namespace Go.Proofs.YtejgkgnocgplbabGreat.Cr
set_option linter.unusedVariables false
set_option linter.unusedSimpArgs false
open Dg

/-- A sum moved up by one digit. -/
def up (v : BitVec 32) : BitVec 32 := (v <<< 1) ^^^ (if v.msb then 0x04C11DB7#32 else 0#32)
/-- By n digits. -/
def upN : Nat → BitVec 32 → BitVec 32
  | 0, v => v
  | n + 1, v => upN n (up v)
/-- A byte more. -/
def stepB (v : BitVec 32) (c : Nat) : BitVec 32 := upN 8 (v ^^^ (BitVec.ofNat 32 c <<< 24))
/-- A row of bytes more. -/
def crc (v : BitVec 32) (l : List Nat) : BitVec 32 := l.foldl stepB v
/-- The sum of a row. -/
def ones : BitVec 32 := 0xFFFFFFFF#32

theorem up_zero : up 0#32 = 0#32 := by decide
theorem up_xor (a b : BitVec 32) : up (a ^^^ b) = up a ^^^ up b := by
  unfold up
  rw [BitVec.msb_xor, BitVec.shiftLeft_xor_distrib]
  cases a.msb <;> cases b.msb <;> simp
  · ac_rfl
  · ac_rfl
  · have : ∀ x y z : BitVec 32, x ^^^ z ^^^ (y ^^^ z) = x ^^^ y := fun x y z => by
      rw [BitVec.xor_assoc, BitVec.xor_comm y z, ← BitVec.xor_assoc z z y, BitVec.xor_self, BitVec.zero_xor]
    exact (this _ _ _).symm
theorem up_get0 (v : BitVec 32) : (up v).getLsbD 0 = v.msb := by
  unfold up
  rw [BitVec.getLsbD_xor, BitVec.getLsbD_shiftLeft]
  cases v.msb <;> simp
theorem up_eq_zero {v : BitVec 32} (h : up v = 0#32) : v = 0#32 := by
  have hm : v.msb = false := by rw [← up_get0, h]; simp
  have h2 : v <<< 1 = 0#32 := by unfold up at h; rw [hm] at h; simpa using h
  apply BitVec.eq_of_getLsbD_eq
  intro i hi
  by_cases h31 : i = 31
  · subst h31; rw [BitVec.msb_eq_getLsbD_last] at hm; simpa using hm
  · have h3 := congrArg (fun x => x.getLsbD (i + 1)) h2
    simp only [BitVec.getLsbD_shiftLeft] at h3
    have : i + 1 < 32 := by omega
    simpa [this] using h3
theorem upN_zero : ∀ n, upN n 0#32 = 0#32
  | 0 => rfl
  | n + 1 => by rw [upN, up_zero, upN_zero n]
theorem upN_xor : ∀ (n : Nat) (a b : BitVec 32), upN n (a ^^^ b) = upN n a ^^^ upN n b
  | 0, a, b => rfl
  | n + 1, a, b => by rw [upN, up_xor, upN_xor n]; rfl
theorem upN_eq_zero : ∀ (n : Nat) {v : BitVec 32}, upN n v = 0#32 → v = 0#32
  | 0, v, h => h
  | n + 1, v, h => up_eq_zero (upN_eq_zero n h)
theorem xor_eq_zero {a b : BitVec 32} (h : a ^^^ b = 0#32) : a = b := by
  have h1 : (a ^^^ b) ^^^ b = b := by rw [h, BitVec.zero_xor]
  rw [BitVec.xor_assoc, BitVec.xor_self, BitVec.xor_zero] at h1
  exact h1
theorem upN_inj {n : Nat} {a b : BitVec 32} (h : upN n a = upN n b) : a = b := by
  apply xor_eq_zero
  apply upN_eq_zero n
  rw [upN_xor, h, BitVec.xor_self]
theorem upN_add : ∀ (m n : Nat) (v : BitVec 32), upN n (upN m v) = upN (m + n) v
  | 0, n, v => by simp [upN]
  | m + 1, n, v => by rw [upN, upN_add m n, Nat.add_right_comm, upN]

theorem crc_nil (v : BitVec 32) : crc v [] = v := rfl
theorem crc_cons (v : BitVec 32) (c : Nat) (l : List Nat) : crc v (c :: l) = crc (stepB v c) l := rfl
theorem crc_append (v : BitVec 32) (l m : List Nat) : crc v (l ++ m) = crc (crc v l) m := by simp [crc]
theorem crc_snoc (v : BitVec 32) (l : List Nat) (c : Nat) : crc v (l ++ [c]) = stepB (crc v l) c := by simp [crc]
theorem crc_take (v : BitVec 32) (l : List Nat) (k c : Nat) (h : l[k]? = some c) : crc v (l.take (k + 1)) = stepB (crc v (l.take k)) c := by
  rw [List.take_add_one, h]; exact crc_snoc _ _ _

theorem xor_swap4 (a b c d : BitVec 32) : a ^^^ b ^^^ (c ^^^ d) = a ^^^ c ^^^ (b ^^^ d) := by
  rw [BitVec.xor_assoc, BitVec.xor_assoc, ← BitVec.xor_assoc b c d, BitVec.xor_comm b c, BitVec.xor_assoc c b d]

/-- By the table. -/
theorem low_up (w : BitVec 32) : ∀ (k : Nat), (∀ i, 32 - k ≤ i → i < 32 → w.getLsbD i = false) → k ≤ 32 → upN k w = w <<< k
  | 0, _, _ => by simp [upN]
  | k + 1, h, hk => by
    have hm : w.msb = false := by rw [BitVec.msb_eq_getLsbD_last]; simp; exact h 31 (by omega) (by omega)
    have e : up w = w <<< 1 := by unfold up; rw [hm]; simp
    rw [upN, e, low_up (w <<< 1) k]
    · rw [← BitVec.shiftLeft_add, Nat.add_comm]
    · intro i h1 h2
      rw [BitVec.getLsbD_shiftLeft]
      by_cases h0 : i < 1
      · simp [h0]
      · simp only [h2, h0, decide_true, decide_false, Bool.not_false, Bool.true_and]
        exact h (i - 1) (by omega) (by omega)
    · omega

theorem split24 (v c : BitVec 32) : v ^^^ (c <<< 24) = (((v >>> 24) ^^^ c) <<< 24) ^^^ (v &&& 0xFFFFFF#32) := by
  apply BitVec.eq_of_getLsbD_eq
  intro i hi
  have e : (0xFFFFFF#32 : BitVec 32).getLsbD i = decide (i < 24) := by
    have : ∀ j : Fin 32, (0xFFFFFF#32 : BitVec 32).getLsbD j = decide (j.val < 24) := by decide
    exact this ⟨i, hi⟩
  simp only [BitVec.getLsbD_xor, BitVec.getLsbD_shiftLeft, BitVec.getLsbD_and, BitVec.getLsbD_ushiftRight, e, hi, decide_true, Bool.true_and]
  by_cases h : i < 24
  · simp [h]
  · have e2 : 24 + (i - 24) = i := by omega
    simp [h, e2]

theorem step_table (v : BitVec 32) (c : Nat) : stepB v c = (v <<< 8) ^^^ upN 8 (((v >>> 24) ^^^ BitVec.ofNat 32 c) <<< 24) := by
  unfold stepB
  have e : (v &&& 0xFFFFFF#32) <<< 8 = v <<< 8 := by
    apply BitVec.eq_of_getLsbD_eq
    intro i hi
    have : ∀ j : Fin 32, (0xFFFFFF#32 : BitVec 32).getLsbD j = decide (j.val < 24) := by decide
    simp only [BitVec.getLsbD_shiftLeft, BitVec.getLsbD_and]
    by_cases h : i < 8
    · simp [h]
    · have := this ⟨i - 8, by omega⟩
      simp only at this
      rw [this]
      simp [show i - 8 < 24 by omega]
  rw [split24, upN_xor, low_up (v &&& 0xFFFFFF#32) 8 _ (by decide), e, BitVec.xor_comm]
  intro i h1 h2
  have : ∀ j : Fin 32, 24 ≤ j.val → (0xFFFFFF#32 : BitVec 32).getLsbD j = false := by decide
  rw [BitVec.getLsbD_and, this ⟨i, h2⟩ h1, Bool.and_false]

/-- A digit more. -/
def feed (v : BitVec 32) (d : Bool) : BitVec 32 := up (v ^^^ (if d then 0x80000000#32 else 0#32))
def feeds (v : BitVec 32) (ds : List Bool) : BitVec 32 := ds.foldl feed v
theorem feeds_append (v : BitVec 32) (ds es : List Bool) : feeds v (ds ++ es) = feeds (feeds v ds) es := by simp [feeds]
theorem feed_xor (a b : BitVec 32) (d e : Bool) : feed (a ^^^ b) (d ^^ e) = feed a d ^^^ feed b e := by
  unfold feed
  rw [← up_xor]
  congr 1
  rw [xor_swap4]
  congr 1
  cases d <;> cases e <;> decide
theorem feeds_xor : ∀ (ds es : List Bool) (a b : BitVec 32), ds.length = es.length → feeds (a ^^^ b) (List.zipWith (· ^^ ·) ds es) = feeds a ds ^^^ feeds b es
  | [], [], a, b, _ => rfl
  | [], e :: es, a, b, h => by simp at h
  | d :: ds, [], a, b, h => by simp at h
  | d :: ds, e :: es, a, b, h => by
    have h' : ds.length = es.length := by simpa using h
    show feeds (feed (a ^^^ b) (d ^^ e)) (List.zipWith (· ^^ ·) ds es) = feeds (feed a d) ds ^^^ feeds (feed b e) es
    rw [feed_xor, feeds_xor ds es _ _ h']
theorem feeds_noughts : ∀ (n : Nat) (v : BitVec 32), feeds v (List.replicate n false) = upN n v
  | 0, v => rfl
  | n + 1, v => by
    show feeds (feed v false) (List.replicate n false) = _
    rw [feeds_noughts n]; simp [feed, upN]
theorem feeds_split (v : BitVec 32) (ds : List Bool) : feeds v ds = upN ds.length v ^^^ feeds 0#32 ds := by
  have h := feeds_xor (List.replicate ds.length false) ds v 0#32 (by simp)
  rw [feeds_noughts, BitVec.xor_zero] at h
  rw [← h]
  congr 1
  apply List.ext_getElem?
  intro i
  by_cases hi : i < ds.length
  · simp [List.getElem?_zipWith, hi]
  · simp [List.getElem?_zipWith, hi]

theorem step_split (v : BitVec 32) (c : Nat) : stepB v c = upN 8 v ^^^ stepB 0#32 c := by
  unfold stepB; rw [upN_xor, BitVec.zero_xor]
theorem step_digits0 : ∀ x : Fin 256, feeds 0#32 ((List.range 8).map (digitOf x.val)) = stepB 0#32 x.val := by decide +kernel
theorem step_digits (v : BitVec 32) (x : Nat) (hx : x < 256) : feeds v ((List.range 8).map (digitOf x)) = stepB v x := by
  rw [feeds_split, step_split]
  congr 1
  exact step_digits0 ⟨x, hx⟩
theorem crc_digits : ∀ (l : List Nat) (v : BitVec 32), (∀ x ∈ l, x < 256) → crc v l = feeds v (unpack l)
  | [], v, _ => rfl
  | x :: l, v, h => by
    rw [crc_cons, unpack_cons, feeds_append, step_digits v x (h x (by simp)), crc_digits l _ (fun y hy => h y (by simp [hy]))]

/-- Digits at the top of a sum. -/
def top : List Bool → BitVec 32
  | [] => 0#32
  | d :: ds => (if d then 0x80000000#32 else 0#32) ^^^ (top ds >>> 1)
theorem top_get : ∀ (ds : List Bool) (i : Nat), i < 32 → (top ds).getLsbD i = ds.getD (31 - i) false
  | [], i, _ => by simp [top]
  | d :: ds, i, hi => by
    rw [top, BitVec.getLsbD_xor, BitVec.getLsbD_ushiftRight]
    have e : (if d then 0x80000000#32 else 0#32).getLsbD i = (decide (i = 31) && d) := by
      have : ∀ j : Fin 32, (0x80000000#32 : BitVec 32).getLsbD j = decide (j.val = 31) := by decide
      cases d
      · simp
      · simpa using this ⟨i, hi⟩
    rw [e]
    by_cases h : i = 31
    · subst h; simp
    · rw [Nat.add_comm 1 i, top_get ds (i + 1) (by omega)]
      have : 31 - i = (31 - (i + 1)) + 1 := by omega
      rw [this]
      simp [h]
theorem feeds_top : ∀ (ds : List Bool) (v : BitVec 32), ds.length ≤ 32 → feeds v ds = upN ds.length (v ^^^ top ds)
  | [], v, _ => by simp [feeds, upN, top]
  | d :: ds, v, h => by
    have hl : ds.length ≤ 31 := by simpa using h
    have e : up (top ds >>> 1) = top ds := by
      have hm : (top ds >>> 1).msb = false := by rw [BitVec.msb_eq_getLsbD_last, BitVec.getLsbD_ushiftRight]; simp
      unfold up
      rw [hm]
      apply BitVec.eq_of_getLsbD_eq
      intro i hi
      by_cases h0 : i = 0
      · subst h0
        rw [top_get ds 0 (by decide)]
        simp [List.getElem?_eq_none (show ds.length ≤ 31 from hl)]
      · have e1 : 1 + (i - 1) = i := by omega
        simp [BitVec.getLsbD_shiftLeft, BitVec.getLsbD_ushiftRight, hi, h0, e1]
    show feeds (feed v d) ds = upN ds.length (up (v ^^^ top (d :: ds)))
    rw [feeds_top ds _ (by omega)]
    congr 1
    rw [top, ← BitVec.xor_assoc, up_xor, e]
    rfl
theorem top_zero (ds : List Bool) (hl : ds.length ≤ 32) (h : top ds = 0#32) : ∀ j, ds.getD j false = false := by
  intro j
  by_cases hj : j < 32
  · have := top_get ds (31 - j) (by omega)
    rw [h, show 31 - (31 - j) = j by omega] at this
    rw [← this]; simp
  · simp [List.getD, List.getElem?_eq_none (show ds.length ≤ j by omega)]

/-- A burst is told. -/
theorem burst (a c : Nat) (bs : List Bool) (hl : bs.length ≤ 32) (j : Nat) (hj : bs.getD j false = true) :
    feeds 0#32 (List.replicate a false ++ bs ++ List.replicate c false) ≠ 0#32 := by
  intro h
  rw [feeds_append, feeds_append, feeds_noughts, feeds_noughts, upN_zero, feeds_top bs _ hl, BitVec.zero_xor] at h
  have := top_zero bs hl (upN_eq_zero _ (upN_eq_zero _ h)) j
  rw [hj] at this
  cases this

/-- A sum as four bytes, the greatest first. -/
def bytes4 (s : Nat) : List Nat := [s / 16777216 % 256, s / 65536 % 256, s / 256 % 256, s % 256]
@[simp] theorem length_bytes4 (s : Nat) : (bytes4 s).length = 4 := rfl
theorem bytes4_lt (s : Nat) : ∀ x ∈ bytes4 s, x < 256 := by
  intro x hx; simp [bytes4] at hx; omega
theorem top_bytes4 (v : BitVec 32) : top (unpack (bytes4 v.toNat)) = v := by
  apply BitVec.eq_of_getLsbD_eq
  intro i hi
  rw [top_get _ _ hi, List.getD_eq_getElem?_getD, unpack_get]
  have hd : ∀ x j, digitOf x j = x.testBit (7 - j) := fun x j => by
    rw [Nat.testBit_eq_decide_div_mod_eq]; unfold digitOf
    by_cases h : x / 2 ^ (7 - j) % 2 = 1 <;> simp [h]
  have e : v.getLsbD i = v.toNat.testBit i := rfl
  have hq : (31 - i) / 8 = 0 ∨ (31 - i) / 8 = 1 ∨ (31 - i) / 8 = 2 ∨ (31 - i) / 8 = 3 := by omega
  have p : ∀ (s k a : Nat), s / 2 ^ a % 256 = (s >>> a) % 2 ^ 8 := fun s k a => by rw [Nat.shiftRight_eq_div_pow]
  rcases hq with h | h | h | h <;> rw [h]
  · have := p v.toNat 0 24
    simp only [bytes4, List.getElem?_cons_zero, Option.map_some, Option.getD_some, hd]
    rw [show (16777216 : Nat) = 2 ^ 24 by decide, this, Nat.testBit_mod_two_pow, Nat.testBit_shiftRight, e]
    simp only [show 7 - (31 - i) % 8 < 8 by omega, decide_true, Bool.true_and]
    congr 1; omega
  · have := p v.toNat 0 16
    simp only [bytes4, List.getElem?_cons_zero, List.getElem?_cons_succ, Option.map_some, Option.getD_some, hd]
    rw [show (65536 : Nat) = 2 ^ 16 by decide, this, Nat.testBit_mod_two_pow, Nat.testBit_shiftRight, e]
    simp only [show 7 - (31 - i) % 8 < 8 by omega, decide_true, Bool.true_and]
    congr 1; omega
  · have := p v.toNat 0 8
    simp only [bytes4, List.getElem?_cons_zero, List.getElem?_cons_succ, Option.map_some, Option.getD_some, hd]
    rw [show v.toNat / 256 % 256 = v.toNat / 2 ^ 8 % 256 by rfl, this, Nat.testBit_mod_two_pow, Nat.testBit_shiftRight, e]
    simp only [show 7 - (31 - i) % 8 < 8 by omega, decide_true, Bool.true_and]
    congr 1; omega
  · simp only [bytes4, List.getElem?_cons_zero, List.getElem?_cons_succ, Option.map_some, Option.getD_some, hd]
    rw [show (256 : Nat) = 2 ^ 8 by decide, Nat.testBit_mod_two_pow, e]
    simp only [show 7 - (31 - i) % 8 < 8 by omega, decide_true, Bool.true_and]
    congr 1; omega
theorem crc_bytes4 (v s : BitVec 32) : crc v (bytes4 s.toNat) = upN 32 (v ^^^ s) := by
  rw [crc_digits _ _ (bytes4_lt _), feeds_top _ _ (by simp), top_bytes4]; rfl
/-- A row with its sum behind it has the sum 0. -/
theorem crc_whole (v : BitVec 32) (l : List Nat) : crc v (l ++ bytes4 (crc v l).toNat) = 0#32 := by
  rw [crc_append, crc_bytes4, BitVec.xor_self, upN_zero]
theorem crc_noughts : ∀ n, crc 0#32 (List.replicate n 0) = 0#32
  | 0 => rfl
  | n + 1 => by rw [List.replicate_succ, crc_cons, show stepB 0#32 0 = 0#32 by decide, crc_noughts n]

/-- One byte alone is told. -/
theorem step_inj {v : BitVec 32} {a b : Nat} (ha : a < 256) (hb : b < 256) (h : stepB v a = stepB v b) : a = b := by
  unfold stepB at h
  have h1 := upN_inj h
  have h2 : BitVec.ofNat 32 a <<< 24 = BitVec.ofNat 32 b <<< 24 := by
    have := congrArg (fun x => v ^^^ x) h1
    simpa [← BitVec.xor_assoc] using this
  have h3 := congrArg BitVec.toNat h2
  simp only [BitVec.toNat_shiftLeft, BitVec.toNat_ofNat, Nat.shiftLeft_eq] at h3
  omega
theorem step_injl {v u : BitVec 32} {c : Nat} (h : stepB v c = stepB u c) : v = u := by
  unfold stepB at h
  have h1 := upN_inj h
  have := congrArg (fun x => x ^^^ (BitVec.ofNat 32 c <<< 24)) h1
  simpa [BitVec.xor_assoc] using this
theorem crc_injl : ∀ (l : List Nat) {v u : BitVec 32}, crc v l = crc u l → v = u
  | [], v, u, h => h
  | c :: l, v, u, h => step_injl (crc_injl l h)
theorem crc_byte {v : BitVec 32} (p q : List Nat) {a b : Nat} (ha : a < 256) (hb : b < 256) (h : crc v (p ++ a :: q) = crc v (p ++ b :: q)) : a = b := by
  rw [crc_append, crc_append, crc_cons, crc_cons] at h
  exact step_inj ha hb (crc_injl q h)
theorem swap0 : ∀ x : Fin 256, upN 8 (BitVec.ofNat 32 x.val <<< 24) = BitVec.ofNat 32 x.val <<< 24 → x.val = 0 := by decide +kernel
theorem crc_swap {v : BitVec 32} (p q : List Nat) {a b : Nat} (ha : a < 256) (hb : b < 256) (h : crc v (p ++ a :: b :: q) = crc v (p ++ b :: a :: q)) : a = b := by
  simp only [crc_append, crc_cons] at h
  have h1 := crc_injl q h
  generalize crc v p = s at h1
  have h2 : stepB s a ^^^ (BitVec.ofNat 32 b <<< 24) = stepB s b ^^^ (BitVec.ofNat 32 a <<< 24) := upN_inj h1
  unfold stepB at h2
  rw [upN_xor, upN_xor] at h2
  have hd : a ^^^ b < 256 := Nat.xor_lt_two_pow (n := 8) ha hb
  have e : BitVec.ofNat 32 (a ^^^ b) <<< 24 = (BitVec.ofNat 32 a <<< 24) ^^^ (BitVec.ofNat 32 b <<< 24) := by
    rw [← BitVec.shiftLeft_xor_distrib]
    congr 1
    apply BitVec.eq_of_toNat_eq
    simp only [BitVec.toNat_xor, BitVec.toNat_ofNat]
    rw [Nat.mod_eq_of_lt (show a ^^^ b < 2 ^ 32 by omega), Nat.mod_eq_of_lt (show a < 2 ^ 32 by omega), Nat.mod_eq_of_lt (show b < 2 ^ 32 by omega)]
  have h3 := swap0 ⟨a ^^^ b, hd⟩ (by
    show upN 8 (BitVec.ofNat 32 (a ^^^ b) <<< 24) = BitVec.ofNat 32 (a ^^^ b) <<< 24
    rw [e, upN_xor]
    generalize upN 8 (BitVec.ofNat 32 a <<< 24) = A at h2 ⊢
    generalize upN 8 (BitVec.ofNat 32 b <<< 24) = B at h2 ⊢
    generalize BitVec.ofNat 32 a <<< 24 = x at h2 ⊢
    generalize BitVec.ofNat 32 b <<< 24 = y at h2 ⊢
    generalize upN 8 s = S at h2
    apply BitVec.eq_of_getLsbD_eq
    intro i hi
    have h5 := congrArg (fun z => z.getLsbD i) h2
    simp only [BitVec.getLsbD_xor] at h5 ⊢
    revert h5
    cases A.getLsbD i <;> cases B.getLsbD i <;> cases x.getLsbD i <;> cases y.getLsbD i <;> cases S.getLsbD i <;> decide)
  have h4 : a ^^^ b = 0 := h3
  apply Nat.eq_of_testBit_eq
  intro i
  have := congrArg (fun x => x.testBit i) h4
  simpa [Nat.testBit_xor] using this

end Go.Proofs.YtejgkgnocgplbabGreat.Cr

/- Plain mathematics of bursts: digits turned in a row: no program in sight. -/
namespace Go.Proofs.YtejgkgnocgplbabGreat
set_option linter.unusedVariables false
set_option linter.unusedSimpArgs false
open Dg Cr

/-- A byte with one digit turned. -/
def flip (c k : Nat) : Nat := c ^^^ 128 / 2 ^ (k % 8)
theorem mask_lt (k : Nat) : 128 / 2 ^ (k % 8) < 256 := Nat.lt_of_le_of_lt (Nat.div_le_self _ _) (by decide)
theorem mask_pos (k : Nat) : 0 < 128 / 2 ^ (k % 8) := by
  have : k % 8 ≤ 7 := by omega
  exact Nat.div_pos (Nat.le_trans (Nat.pow_le_pow_right (by decide) this) (by decide)) (Nat.pow_pos (by decide))
theorem flip_lt (c k : Nat) (hc : c < 256) : flip c k < 256 := Nat.xor_lt_two_pow (n := 8) hc (mask_lt k)
theorem xor_cancel (a b : Nat) : a ^^^ b ^^^ b = a := by rw [Nat.xor_assoc, Nat.xor_self, Nat.xor_zero]
theorem flip_flip (c k : Nat) : flip (flip c k) k = c := xor_cancel _ _
theorem flip_ne (c k : Nat) : flip c k ≠ c := by
  intro h
  have h1 : c ^^^ (c ^^^ 128 / 2 ^ (k % 8)) = c ^^^ c := by have := congrArg (c ^^^ ·) h; exact this
  rw [← Nat.xor_assoc, Nat.xor_self, Nat.zero_xor] at h1
  have := mask_pos k
  omega
theorem flip_num (c k : Nat) (hc : c < 256) : bits BinOp.xor IntKind.u8 (c : Int) (128 / 2 ^ (k % 8)) = ((flip c k : Nat) : Int) := by
  have e : (128 : Int) / 2 ^ (k % 8) = ((128 / 2 ^ (k % 8) : Nat) : Int) := by push_cast; rfl
  rw [e, u8_xor_nat _ _ hc (mask_lt k)]; rfl

theorem digitOf_bit (x j : Nat) : digitOf x j = x.testBit (7 - j) := by
  rw [Nat.testBit_eq_decide_div_mod_eq]; unfold digitOf
  by_cases h : x / 2 ^ (7 - j) % 2 = 1 <;> simp [h]
theorem digitOf_flip (c k j : Nat) (hj : j < 8) : digitOf (flip c k) j = (digitOf c j ^^ decide (j = k % 8)) := by
  have hk : k % 8 < 8 := by omega
  have e : 128 / 2 ^ (k % 8) = 2 ^ (7 - k % 8) := by
    have := Nat.pow_div (show k % 8 ≤ 7 by omega) (show 0 < 2 by decide)
    rw [← this]
  rw [digitOf_bit, digitOf_bit, flip, e, Nat.testBit_xor, Nat.testBit_two_pow]
  congr 1
  by_cases h : j = k % 8
  · subst h; simp
  · have : ¬ (7 - k % 8 = 7 - j) := by omega
    simp [h, this]

/-- A row with its k-th digit turned. -/
def turn (l : List Nat) (k : Nat) : List Nat := l.set (k / 8) (flip (l.getD (k / 8) 0) k)
@[simp] theorem length_turn (l : List Nat) (k : Nat) : (turn l k).length = l.length := by simp [turn]
theorem turn_lt (l : List Nat) (k : Nat) (h : ∀ x ∈ l, x < 256) : ∀ x ∈ turn l k, x < 256 := by
  intro x hx
  rcases List.mem_or_eq_of_mem_set hx with h1 | h1
  · exact h x h1
  · rw [h1]
    apply flip_lt
    by_cases hk : k / 8 < l.length
    · have : l.getD (k / 8) 0 = l[k / 8] := by simp [List.getD, hk]
      rw [this]; exact h _ (by simp)
    · simp [List.getD, List.getElem?_eq_none (show l.length ≤ k / 8 by omega)]
theorem turn_digit (l : List Nat) (k j : Nat) : (unpack (turn l k))[j]? = (unpack l)[j]?.map (· ^^ decide (j = k)) := by
  rw [unpack_get, unpack_get, turn, List.getElem?_set]
  by_cases h : k / 8 = j / 8
  · rw [if_pos h]
    by_cases hl : k / 8 < l.length
    · rw [if_pos hl, ← h]
      have e : l[k / 8]? = some l[k / 8] := by simp [hl]
      have e2 : l.getD (k / 8) 0 = l[k / 8] := by simp [List.getD, hl]
      rw [e, e2]
      simp only [Option.map_some]
      rw [digitOf_flip _ _ _ (by omega)]
      have : decide (j % 8 = k % 8) = decide (j = k) := by
        by_cases hjk : j = k
        · simp [hjk]
        · have : ¬ j % 8 = k % 8 := by omega
          simp [hjk, this]
      rw [this]
    · rw [if_neg hl, ← h, List.getElem?_eq_none (show l.length ≤ k / 8 by omega)]; rfl
  · rw [if_neg h]
    have hjk : ¬ j = k := fun e => h (by rw [e])
    cases l[j / 8]? <;> simp [hjk]

/-- The first i digits of a burst, turned from the place at on. -/
def turned (l : List Nat) (at_ b : Nat) : Nat → List Nat
  | 0 => l
  | i + 1 => if b / 2 ^ i % 2 = 1 then turn (turned l at_ b i) (at_ + i) else turned l at_ b i
@[simp] theorem length_turned (l : List Nat) (at_ b i : Nat) : (turned l at_ b i).length = l.length := by
  induction i with
  | zero => rfl
  | succ i ih => simp only [turned]; split <;> simp [ih]
theorem turned_lt (l : List Nat) (at_ b i : Nat) (h : ∀ x ∈ l, x < 256) : ∀ x ∈ turned l at_ b i, x < 256 := by
  induction i with
  | zero => exact h
  | succ i ih => simp only [turned]; split; exact turn_lt _ _ ih; exact ih
theorem turned_digit (l : List Nat) (at_ b : Nat) : ∀ i j, (unpack (turned l at_ b i))[j]? = (unpack l)[j]?.map (· ^^ (decide (at_ ≤ j) && decide (j < at_ + i) && b.testBit (j - at_)))
  | 0, j => by
    have : (decide (at_ ≤ j) && decide (j < at_ + 0) && b.testBit (j - at_)) = false := by
      by_cases h : at_ ≤ j
      · have : ¬ j < at_ := by omega
        simp [this]
      · simp [h]
    rw [this]; cases h : (unpack l)[j]? <;> simp [turned, h]
  | i + 1, j => by
    have ih := turned_digit l at_ b i j
    have hb : b.testBit i = decide (b / 2 ^ i % 2 = 1) := Nat.testBit_eq_decide_div_mod_eq
    by_cases h : b / 2 ^ i % 2 = 1
    · rw [turned, if_pos h, turn_digit, ih]
      cases (unpack l)[j]? with
      | none => rfl
      | some d =>
        simp only [Option.map_some]
        congr 1
        by_cases hj : j = at_ + i
        · have e : j - at_ = i := by omega
          have h1 : ¬ j < at_ + i := by omega
          have h2 : j < at_ + (i + 1) := by omega
          have h3 : at_ ≤ j := by omega
          rw [e, hb]
          simp [hj, h]
        · have : decide (j < at_ + (i + 1)) = decide (j < at_ + i) := by
            by_cases h1 : j < at_ + i
            · simp [h1, show j < at_ + (i + 1) by omega]
            · simp [h1, show ¬ j < at_ + (i + 1) by omega]
          rw [this]; simp [hj]
    · rw [turned, if_neg h, ih]
      cases (unpack l)[j]? with
      | none => rfl
      | some d =>
        simp only [Option.map_some]
        congr 2
        by_cases hj : j = at_ + i
        · have e : j - at_ = i := by omega
          rw [e, hb]; simp [h]
        · have : decide (j < at_ + (i + 1)) = decide (j < at_ + i) := by
            by_cases h1 : j < at_ + i
            · simp [h1, show j < at_ + (i + 1) by omega]
            · simp [h1, show ¬ j < at_ + (i + 1) by omega]
          rw [this]

/-- A burst in a row with its sum behind it: the sum is no longer the row's. -/
theorem burst_told (l : List Nat) (at_ b : Nat) (h256 : ∀ x ∈ l, x < 256) (hat : at_ + 32 ≤ 8 * l.length) (hb0 : b ≠ 0) (hb : b < 4294967296) (hz : crc ones l = 0#32) :
    crc ones (turned l at_ b 32) ≠ 0#32 := by
  intro h
  obtain ⟨j, hj⟩ : ∃ j, b.testBit j = true := by
    apply Classical.byContradiction
    intro hn
    apply hb0
    apply Nat.eq_of_testBit_eq
    intro i
    rw [Nat.zero_testBit]
    cases hi : b.testBit i with
    | false => rfl
    | true => exact absurd ⟨i, hi⟩ hn
  have hj32 : j < 32 := by
    apply Classical.byContradiction
    intro hn
    have : b < 2 ^ j := Nat.lt_of_lt_of_le (show b < 2 ^ 32 by omega) (Nat.pow_le_pow_right (by decide) (by omega))
    rw [Nat.testBit_lt_two_pow this] at hj
    cases hj
  have e : unpack (turned l at_ b 32) = List.zipWith (· ^^ ·) (unpack l) (List.replicate at_ false ++ (List.range 32).map (fun i => b.testBit i) ++ List.replicate (8 * l.length - (at_ + 32)) false) := by
    apply List.ext_getElem?
    intro k
    rw [turned_digit, List.getElem?_zipWith]
    by_cases hk : k < 8 * l.length
    · obtain ⟨d, hd⟩ : ∃ d, (unpack l)[k]? = some d := ⟨(unpack l)[k]'(by simpa using hk), by simp [hk]⟩
      rw [hd]
      by_cases h1 : k < at_
      · rw [List.append_assoc, List.getElem?_append_left (by simpa using h1), List.getElem?_replicate, if_pos h1]
        simp [show ¬ at_ ≤ k by omega]
      · rw [List.append_assoc, List.getElem?_append_right (by simp; omega)]
        by_cases h2 : k < at_ + 32
        · rw [List.getElem?_append_left (by simp; omega)]
          simp [show at_ ≤ k by omega, h2, show k - at_ < 32 by omega]
        · rw [List.getElem?_append_right (by simp; omega), List.getElem?_replicate, if_pos (by simp; omega)]
          simp [h2]
    · rw [List.getElem?_eq_none (by simp; omega)]; rfl
  rw [crc_digits _ _ (turned_lt l at_ b 32 h256), e] at h
  have h2 := feeds_xor (unpack l) (List.replicate at_ false ++ (List.range 32).map (fun i => b.testBit i) ++ List.replicate (8 * l.length - (at_ + 32)) false) ones 0#32 (by simp; omega)
  rw [BitVec.xor_zero] at h2
  rw [h2, ← crc_digits l ones h256, hz, BitVec.zero_xor] at h
  exact burst _ _ _ (by simp) j (by simp [List.getD, hj32, hj]) h
theorem burst_unlike (l : List Nat) (at_ b n : Nat) (h256 : ∀ x ∈ l, x < 256) (hat : at_ + 32 ≤ 8 * l.length) (hb0 : b ≠ 0) (hb : b < 4294967296) (hz : crc ones l = 0#32) :
    (turned l at_ b 32).drop n ≠ bytes4 (crc ones ((turned l at_ b 32).take n)).toNat := by
  intro h
  apply burst_told l at_ b h256 hat hb0 hb hz
  rw [← List.take_append_drop n (turned l at_ b 32), h]
  exact crc_whole _ _

end Go.Proofs.YtejgkgnocgplbabGreat

/- Blocks: a sector of bytes, as many samples as fit, all samples; no program. -/
namespace Go.Proofs.YtejgkgnocgplbabGreat
set_option linter.unusedVariables false
set_option linter.unusedSimpArgs false
open Go.RowKit Dg Cr

/-- The sum of bytes; bytes and noughts up to 124; these and their sum. -/
def sumN (l : List Nat) : Nat := (crc ones l).toNat
theorem sumN_lt (l : List Nat) : sumN l < 4294967296 := (crc ones l).isLt
def fillF (l : List Nat) : List Nat := l ++ List.replicate (124 - l.length) 0
def sealL (l : List Nat) : List Nat := fillF l ++ bytes4 (sumN (fillF l))
def sealOut (l : List Nat) : List Nat × Int := if 124 < l.length then ([], 4) else (sealL l, 0)
def wholeP (l : List Nat) : Prop := l.length = 128 ∧ l.drop 124 = bytes4 (sumN (l.take 124))
instance (l : List Nat) : Decidable (wholeP l) := by unfold wholeP; infer_instance
def unsealOut (l : List Nat) : List Nat × Int := if wholeP l then (l.take 124, 0) else ([], 2)
def openOut (l : List Nat) : List Int × Int := if wholeP l then decOut 2 (l.take 124) else ([], 2)
theorem length_fillF {l : List Nat} (h : l.length ≤ 124) : (fillF l).length = 124 := by simp [fillF]; omega
theorem length_sealL {l : List Nat} (h : l.length ≤ 124) : (sealL l).length = 128 := by simp [sealL, length_fillF h]
theorem fillF_lt {l : List Nat} (h : ∀ x ∈ l, x < 256) : ∀ x ∈ fillF l, x < 256 := fun x hx => by
  rcases List.mem_append.1 hx with h1 | h1
  · exact h x h1
  · have := List.eq_of_mem_replicate h1; omega
theorem sealL_lt {l : List Nat} (h : ∀ x ∈ l, x < 256) : ∀ x ∈ sealL l, x < 256 := fun x hx => by
  rcases List.mem_append.1 hx with h1 | h1
  · exact fillF_lt h x h1
  · exact bytes4_lt _ x h1
theorem take_sealL {l : List Nat} (h : l.length ≤ 124) : (sealL l).take 124 = fillF l := by
  unfold sealL
  rw [List.take_left' (length_fillF h)]
theorem drop_sealL {l : List Nat} (h : l.length ≤ 124) : (sealL l).drop 124 = bytes4 (sumN (fillF l)) := by
  unfold sealL
  rw [List.drop_left' (length_fillF h)]
theorem whole_seal {l : List Nat} (h : l.length ≤ 124) : wholeP (sealL l) := ⟨length_sealL h, by rw [drop_sealL h, take_sealL h]⟩
theorem unseal_seal {l : List Nat} (h : l.length ≤ 124) : unsealOut (sealL l) = (fillF l, 0) := by
  unfold unsealOut
  rw [if_pos (whole_seal h), take_sealL h]
theorem crc_sealL {l : List Nat} : crc ones (sealL l) = 0#32 := by unfold sealL sumN; exact crc_whole _ _
/-- Four bytes are those of a number. -/
theorem four_num (m : List Nat) (h : m.length = 4) (h256 : ∀ x ∈ m, x < 256) : ∃ s : BitVec 32, m = bytes4 s.toNat := by
  match m, h with
  | [a, b, c, d], _ =>
    have ha := h256 a (by simp)
    have hb := h256 b (by simp)
    have hc := h256 c (by simp)
    have hd := h256 d (by simp)
    refine ⟨BitVec.ofNat 32 (a * 16777216 + b * 65536 + c * 256 + d), ?_⟩
    have e : (BitVec.ofNat 32 (a * 16777216 + b * 65536 + c * 256 + d)).toNat = a * 16777216 + b * 65536 + c * 256 + d := by
      rw [BitVec.toNat_ofNat]
      omega
    rw [e]
    unfold bytes4
    congr 1
    · omega
    · congr 1
      · omega
      · congr 1
        · omega
        · congr 1
          omega
/-- A sector is whole just if its sum with the last four bytes is nought. -/
theorem whole_zero {l : List Nat} (h : l.length = 128) (h256 : ∀ x ∈ l, x < 256) : wholeP l ↔ crc ones l = 0#32 := by
  constructor
  · rintro ⟨-, h1⟩
    rw [← List.take_append_drop 124 l, h1]
    exact crc_whole _ _
  · intro h0
    refine ⟨h, ?_⟩
    obtain ⟨s, hs⟩ := four_num (l.drop 124) (by simp [h]) (fun x hx => h256 x (List.mem_of_mem_drop hx))
    rw [← List.take_append_drop 124 l, hs, crc_append, crc_bytes4] at h0
    have h1 := xor_eq_zero (upN_eq_zero _ h0)
    rw [hs]
    unfold sumN
    rw [h1]
theorem whole_burst {l : List Nat} (h : wholeP l) (h256 : ∀ x ∈ l, x < 256) {at_ b : Nat} (hat : at_ + 32 ≤ 1024) (hb0 : b ≠ 0) (hb : b < 4294967296) : ¬ wholeP (turned l at_ b 32) := fun h1 => by
  have hz := (whole_zero h.1 h256).1 h
  exact burst_unlike l at_ b 124 h256 (by have := h.1; omega) hb0 hb hz h1.2

/-- The power of two of levin's Scaled. -/
noncomputable def shiftOf (l : List Int) : Nat := Classical.choose (shift_may l)
theorem shiftOf_is (l : List Int) : mayX l → IsShift (autoZ l 0) (shiftOf l) := Classical.choose_spec (shift_may l)
/-- Encode of samples. -/
noncomputable def encB (l : List Int) : List Nat := pack (bestF l (shiftOf l) 19)
theorem encB_lt (l : List Int) : ∀ x ∈ encB l, x < 256 := pack_lt _
theorem encB_len (l : List Int) : (encB l).length ≤ 10000 := by
  have := bestF_len l (shiftOf l) 19
  unfold encB
  rw [length_pack]
  omega
theorem encB_verb {l : List Int} (h : mayX l) : (encB l).length ≤ 2 + 3 * l.length := by
  have := bestF_verb h (shiftOf l)
  unfold encB
  rw [length_pack]
  omega
theorem encB_out {l : List Int} (h : mayX l) : encOut l (shiftOf l) = (encB l, 0) := encOut_may h _
theorem encB_back {l : List Int} (h : mayX l) (k : Nat) : decOut 2 (encB l ++ List.replicate k 0) = (l, 0) := by
  obtain ⟨i, -, hi, -⟩ := bestF_any h (shiftOf l)
  have h1 := decD_pack hi (List.replicate k 0)
  rw [unpack_zeros, noOnes_zeros, if_pos rfl] at h1
  unfold decOut encB
  rw [h1]
theorem open_seal {l : List Int} (h : mayX l) (hl : (encB l).length ≤ 124) : openOut (sealL (encB l)) = (l, 0) := by
  unfold openOut
  rw [if_pos (whole_seal hl), take_sealL hl]
  exact encB_back h _
/-- The greatest number of at most k samples that fit. -/
noncomputable def packM (x : List Int) : Nat → Nat
  | 0 => 0
  | k + 1 => if (encB (x.take (k + 1))).length ≤ 124 then k + 1 else packM x k
theorem packM_le (x : List Int) (k : Nat) : packM x k ≤ k := by
  induction k with
  | zero => exact Nat.le_refl _
  | succ k ih =>
    unfold packM
    split
    · exact Nat.le_refl _
    · omega
theorem packM_fits (x : List Int) (k : Nat) (h : 0 < packM x k) : (encB (x.take (packM x k))).length ≤ 124 := by
  induction k with
  | zero => simp [packM] at h
  | succ k ih =>
    unfold packM at h ⊢
    split
    · rename_i h1; exact h1
    · rename_i h1
      rw [if_neg h1] at h
      exact ih h
theorem packM_most (x : List Int) (k : Nat) : ∀ j, packM x k < j → j ≤ k → 124 < (encB (x.take j)).length := by
  induction k with
  | zero => intro j h1 h2; omega
  | succ k ih =>
    intro j h1 h2
    unfold packM at h1
    split at h1
    · omega
    · rename_i h3
      by_cases e : j = k + 1
      · subst e; omega
      · exact ih j h1 (by omega)
theorem may_take {x : List Int} (hS : allS x) {k : Nat} (hk1 : 1 ≤ k) (hk64 : k ≤ 64) (hkl : k ≤ x.length) : mayX (x.take k) :=
  ⟨by simp; omega, by simp; omega, hS.take k⟩
theorem packM_verb {x : List Int} (hS : allS x) (k : Nat) (hk64 : k ≤ 64) (hkl : k ≤ x.length) : min k 40 ≤ packM x k := by
  induction k with
  | zero => simp
  | succ k ih =>
    unfold packM
    split
    · omega
    · rename_i h1
      have h2 := ih (by omega) (by omega)
      by_cases hk : k + 1 ≤ 40
      · have h3 := encB_verb (may_take hS (k := k + 1) (by omega) hk64 hkl)
        simp at h3
        omega
      · omega
/-- How many samples a block takes. -/
noncomputable def manyN (x : List Int) : Nat := packM x (min x.length 64)
noncomputable def packL (x : List Int) : List Nat := sealL (encB (x.take (manyN x)))
noncomputable def packOut (x : List Int) : List Nat × Nat × Int := if x.length = 0 then ([], 0, 4) else if allS x then (packL x, manyN x, 0) else ([], 0, 8)
theorem manyN_le (x : List Int) : manyN x ≤ x.length ∧ manyN x ≤ 64 := by
  have := packM_le x (min x.length 64)
  unfold manyN
  omega
theorem manyN_least {x : List Int} (hS : allS x) : min x.length 40 ≤ manyN x := by
  have := packM_verb hS (min x.length 64) (by omega) (by omega)
  unfold manyN
  omega
theorem manyN_pos {x : List Int} (hS : allS x) (h : 1 ≤ x.length) : 1 ≤ manyN x := by
  have := manyN_least hS
  omega
theorem manyN_fits {x : List Int} (hS : allS x) (h : 1 ≤ x.length) : (encB (x.take (manyN x))).length ≤ 124 := packM_fits x _ (manyN_pos hS h)
theorem manyN_may {x : List Int} (hS : allS x) (h : 1 ≤ x.length) : mayX (x.take (manyN x)) := may_take hS (manyN_pos hS h) (manyN_le x).2 (manyN_le x).1
theorem packL_open {x : List Int} (hS : allS x) (h : 1 ≤ x.length) : openOut (packL x) = (x.take (manyN x), 0) := open_seal (manyN_may hS h) (manyN_fits hS h)
theorem packL_len {x : List Int} (hS : allS x) (h : 1 ≤ x.length) : (packL x).length = 128 := length_sealL (manyN_fits hS h)
theorem packL_lt (x : List Int) : ∀ y ∈ packL x, y < 256 := sealL_lt (encB_lt _)
theorem manyN_more {x : List Int} {k : Nat} (h1 : manyN x < k) (h2 : k ≤ x.length) (h3 : k ≤ 64) : 124 < (encB (x.take k)).length := packM_most x _ k h1 (by omega)
/-- All samples, block behind block. -/
noncomputable def allT : Nat → List Int → List (List Nat × Nat)
  | 0, _ => []
  | f + 1, x => if x.length = 0 then [] else (packL x, manyN x) :: allT f (x.drop (manyN x))
noncomputable def blocksOf (x : List Int) : List (List Nat × Nat) := allT x.length x
theorem allS_drop {x : List Int} (h : allS x) (k : Nat) : allS (x.drop k) := fun y hy => h y (List.mem_of_mem_drop hy)
theorem allT_fuel {x : List Int} (hS : allS x) : ∀ f g, x.length ≤ f → x.length ≤ g → allT f x = allT g x := by
  intro f
  induction f generalizing x with
  | zero =>
    intro g h1 h2
    cases g with
    | zero => rfl
    | succ g => simp only [allT]; rw [if_pos (by omega)]
  | succ f ih =>
    intro g h1 h2
    by_cases h0 : x.length = 0
    · cases g with
      | zero => simp [allT, h0]
      | succ g => simp [allT, h0]
    · have hp := manyN_pos hS (by omega)
      cases g with
      | zero => omega
      | succ g =>
        simp only [allT]
        rw [if_neg h0, if_neg h0, ih (allS_drop hS _) g (by simp; omega) (by simp; omega)]
theorem blocksOf_nil {x : List Int} (h : x.length = 0) : blocksOf x = [] := by unfold blocksOf; rw [h]; rfl
theorem blocksOf_cons {x : List Int} (hS : allS x) (h : 1 ≤ x.length) : blocksOf x = (packL x, manyN x) :: blocksOf (x.drop (manyN x)) := by
  obtain ⟨f, hf⟩ : ∃ f, x.length = f + 1 := ⟨x.length - 1, by omega⟩
  have hp := manyN_pos hS h
  unfold blocksOf
  rw [hf]
  simp only [allT]
  rw [if_neg (by omega), allT_fuel (allS_drop hS _) f (x.drop (manyN x)).length (by simp; omega) (Nat.le_refl _)]

end Go.Proofs.YtejgkgnocgplbabGreat
