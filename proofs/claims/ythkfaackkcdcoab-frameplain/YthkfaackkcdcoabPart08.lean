/- The texts FrmMath, Enc1, Enc2, Enc3, one behind the other. -/
import Derived.Test.YthkfaackkcdcoabPart04
import Derived.Test.YthkfaackkcdcoabPart06
import Derived.Test.YthkfaackkcdcoabPart07

/- Frames: the digits of samples by each kind, the shortest of them, and the samples of digits; no program. -/
namespace Go.Proofs.Ythkfaackkcdcoab
set_option linter.unusedVariables false
set_option linter.unusedSimpArgs false
open Go.RowKit Dg

/-- A sample's digits; a coefficient's. -/
def sampD (v : Int) : List Bool := dig (v + 8388608) 24
def coefD (c : Int) : List Bool := dig (c + 32768) 16
def sampsD (l : List Int) : List Bool := (l.map sampD).flatten
def coefsD (l : List Int) : List Bool := (l.map coefD).flatten
@[simp] theorem sampsD_nil : sampsD [] = [] := rfl
@[simp] theorem coefsD_nil : coefsD [] = [] := rfl
theorem sampsD_cons (v : Int) (l : List Int) : sampsD (v :: l) = sampD v ++ sampsD l := by simp [sampsD]
theorem coefsD_cons (v : Int) (l : List Int) : coefsD (v :: l) = coefD v ++ coefsD l := by simp [coefsD]
theorem sampsD_snoc (l : List Int) (v : Int) : sampsD (l ++ [v]) = sampsD l ++ sampD v := by simp [sampsD]
theorem coefsD_snoc (l : List Int) (v : Int) : coefsD (l ++ [v]) = coefsD l ++ coefD v := by simp [coefsD]
@[simp] theorem length_sampD (v : Int) : (sampD v).length = 24 := by simp [sampD]
@[simp] theorem length_coefD (v : Int) : (coefD v).length = 16 := by simp [coefD]
@[simp] theorem length_sampsD (l : List Int) : (sampsD l).length = 24 * l.length := by
  induction l with
  | nil => rfl
  | cons v l ih => rw [sampsD_cons]; simp [ih]; omega
@[simp] theorem length_coefsD (l : List Int) : (coefsD l).length = 16 * l.length := by
  induction l with
  | nil => rfl
  | cons v l ih => rw [coefsD_cons]; simp [ih]; omega
/-- Residuals as numbers without signs; may they all be put? -/
def zigs (l : List Int) : List Int := l.map zigOf
@[simp] theorem length_zigs (l : List Int) : (zigs l).length = l.length := by simp [zigs]
def okZ (l : List Int) : Prop := ∀ z ∈ zigs l, z < 4294967296
instance (l : List Int) : Decidable (okZ l) := by unfold okZ; infer_instance
theorem zigOf_nn (n : Int) : 0 ≤ zigOf n := by
  unfold zigOf
  split
  · omega
  · split <;> omega
theorem okZ_num {l : List Int} (h : okZ l) : ∀ z ∈ zigs l, isNum z = true := by
  intro z hz
  have h1 := h z hz
  obtain ⟨n, -, rfl⟩ := List.mem_map.1 hz
  have h2 := zigOf_nn n
  simp [isNum]
  omega
def parOf (l : List Int) : Nat := (bestTo (zigs l) 24).1
theorem parOf_le (l : List Int) : parOf l ≤ 24 := bestTo_le _ _
/-- The residuals' digits. -/
def residD (l : List Int) : List Bool := dig (parOf l : Int) 5 ++ digs (zigs l) (parOf l)
/-- What every frame begins with. -/
def headD (kind : Int) (n : Nat) : List Bool := dig kind 8 ++ dig (n : Int) 8
@[simp] theorem length_headD (kind : Int) (n : Nat) : (headD kind n).length = 16 := by simp [headD]
def mayX (x : List Int) : Prop := 1 ≤ x.length ∧ x.length ≤ 64 ∧ allS x
instance (l : List Int) : Decidable (mayX l) := by unfold mayX; infer_instance
def allOne (x : List Int) : Prop := ∀ v ∈ x, v = x.getD 0 0
instance (l : List Int) : Decidable (allOne l) := by unfold allOne; infer_instance
/-- The digits of a frame of a kind, if there is one; s is the power of two of levin's Scaled. -/
def frm (kind : Int) (x : List Int) (s : Nat) : Option (List Bool) :=
  if ¬ mayX x ∨ kind < 0 ∨ 18 < kind then none
  else if kind = 0 then (if allOne x then some (headD kind x.length ++ sampD (x.getD 0 0)) else none)
  else if kind = 1 then some (headD kind x.length ++ sampsD x)
  else if kind ≤ 6 then
    (if (x.length : Int) < kind - 2 then none
     else if okZ (residZ x (kind - 2).toNat) then some (headD kind x.length ++ sampsD (x.take (kind - 2).toNat) ++ residD (residZ x (kind - 2).toNat)) else none)
  else if (coOut x (kind - 6) s).2 = true then
    (if okZ (lresidZ x (coOut x (kind - 6) s).1) then some (headD kind x.length ++ sampsD (x.take (kind - 6).toNat) ++ coefsD (coOut x (kind - 6) s).1 ++ residD (lresidZ x (coOut x (kind - 6) s).1)) else none)
  else none
/-- As: the bytes, and whether there are any. -/
def asOut (kind : Int) (x : List Int) (s : Nat) : List Nat × Bool := match frm kind x s with | none => ([], false) | some ds => (pack ds, true)
/-- The shortest frame of the first kinds; none yet: no digits. -/
def bestF (x : List Int) (s : Nat) : Nat → List Bool
  | 0 => []
  | j + 1 => match frm (j : Int) x s with
    | none => bestF x s j
    | some b => if (bestF x s j).length = 0 ∨ b.length < (bestF x s j).length then b else bestF x s j
/-- Encode: the bytes, and how it ends. -/
def encOut (x : List Int) (s : Nat) : List Nat × Int :=
  if x.length < 1 ∨ 64 < x.length then ([], 4) else if allS x then (pack (bestF x s 19), 0) else ([], 8)

/-- A number of so many digits, and what is left. -/
def takeD (ds : List Bool) (n : Nat) : Option (Nat × List Bool) := if n ≤ ds.length then some (num (ds.take n), ds.drop n) else none
def sampsT : Nat → List Bool → Option (List Int × List Bool)
  | 0, ds => some ([], ds)
  | n + 1, ds => (takeD ds 24).bind fun r => (sampsT n r.2).map fun q => ((((r.1 : Nat) : Int) - 8388608) :: q.1, q.2)
def coefsT : Nat → List Bool → Option (List Int × List Bool)
  | 0, ds => some ([], ds)
  | n + 1, ds => (takeD ds 16).bind fun r => (coefsT n r.2).map fun q => ((((r.1 : Nat) : Int) - 32768) :: q.1, q.2)
def ricesT (k : Nat) : Nat → List Bool → Option (List Int × List Bool)
  | 0, ds => some ([], ds)
  | n + 1, ds => if (riceOut ds (k : Int)).2.2 = true then (ricesT k n (ds.drop (riceOut ds (k : Int)).2.1)).map fun q => (zagOf ((riceOut ds (k : Int)).1 : Nat) :: q.1, q.2) else none
/-- How many samples a frame of a kind begins with. -/
def ordOf (kind n : Nat) : Nat := if kind = 0 then 1 else if kind = 1 then n else if kind ≤ 6 then kind - 2 else kind - 6
/-- The residuals and what is left. -/
def resT (n : Nat) (ds : List Bool) : Option (List Int × List Bool) := (takeD ds 5).bind fun r => if 24 < r.1 then none else ricesT r.1 n r.2
/-- What is behind the samples that a frame begins with: all its samples, and what is left. -/
def bodyT (kind n : Nat) (x : List Int) (ds : List Bool) : Option (List Int × List Bool) :=
  if kind = 0 then some (List.replicate n (x.getD 0 0), ds)
  else if kind = 1 then some (x, ds)
  else if kind ≤ 6 then (resT (n - ordOf kind n) ds).bind fun q => if (restOut x q.1).2 = 0 then some ((restOut x q.1).1, q.2) else none
  else (coefsT (ordOf kind n) ds).bind fun c => (resT (n - ordOf kind n) c.2).bind fun q => if (lrestOut x q.1 c.1).2 = 0 then some ((lrestOut x q.1 c.1).1, q.2) else none
/-- The samples of a frame's digits. -/
def decD (ds : List Bool) : Option (List Int) :=
  (takeD ds 8).bind fun r1 => (takeD r1.2 8).bind fun r2 =>
    if 18 < r1.1 ∨ r2.1 < 1 ∨ 64 < r2.1 ∨ r2.1 < ordOf r1.1 r2.1 ∨ (6 < r1.1 ∧ r2.1 ≤ ordOf r1.1 r2.1) then none
    else (sampsT (ordOf r1.1 r2.1) r2.2).bind fun q => (bodyT r1.1 r2.1 q.1 q.2).bind fun y => if noOnes y.2 = true then some y.1 else none
/-- The same without a look at what is left. -/
def decP (ds : List Bool) : Option (List Int × List Bool) :=
  (takeD ds 8).bind fun r1 => (takeD r1.2 8).bind fun r2 =>
    if 18 < r1.1 ∨ r2.1 < 1 ∨ 64 < r2.1 ∨ r2.1 < ordOf r1.1 r2.1 ∨ (6 < r1.1 ∧ r2.1 ≤ ordOf r1.1 r2.1) then none
    else (sampsT (ordOf r1.1 r2.1) r2.2).bind fun q => bodyT r1.1 r2.1 q.1 q.2
theorem decD_P (ds : List Bool) : decD ds = (decP ds).bind fun y => if noOnes y.2 = true then some y.1 else none := by
  unfold decD decP
  cases takeD ds 8 with
  | none => rfl
  | some r1 =>
    simp only [Option.bind_some]
    cases takeD r1.2 8 with
    | none => rfl
    | some r2 =>
      simp only [Option.bind_some]
      split
      · rfl
      · cases sampsT (ordOf r1.1 r2.1) r2.2 with
        | none => rfl
        | some q => rfl
/-- Decode: the samples, and how it ends (E: the number of the error). -/
def decOut (E : Int) (l : List Nat) : List Int × Int := match decD (unpack l) with | none => ([], E) | some x => (x, 0)
def kindOut (l : List Nat) : Int := match decD (unpack l) with | none => -1 | some _ => (l.getD 0 0 : Nat)

theorem takeD_app (v : Int) (n : Nat) (rest : List Bool) : takeD (dig v n ++ rest) n = some (num (dig v n), rest) := by
  unfold takeD
  rw [if_pos (by simp), List.take_left' (by simp), List.drop_left' (by simp)]
theorem takeD_dig {v : Int} {n : Nat} (h0 : 0 ≤ v) (h1 : v < 2 ^ n) (rest : List Bool) : takeD (dig v n ++ rest) n = some (v.toNat, rest) := by
  rw [takeD_app]
  have h2 := num_dig v n
  rw [Int.emod_eq_of_lt h0 h1] at h2
  have : num (dig v n) = v.toNat := by omega
  rw [this]
theorem sampsT_app (l : List Int) (h : allS l) (rest : List Bool) : sampsT l.length (sampsD l ++ rest) = some (l, rest) := by
  induction l with
  | nil => rfl
  | cons v l ih =>
    have hv := h v (by simp)
    unfold isS at hv
    rw [sampsD_cons, List.append_assoc, List.length_cons, sampsT]
    unfold sampD
    rw [takeD_dig (by omega) (by omega)]
    simp only [Option.bind_some]
    rw [ih (fun x hx => h x (by simp [hx]))]
    simp only [Option.map_some]
    have e : (((v + 8388608).toNat : Nat) : Int) - 8388608 = v := by omega
    rw [e]
theorem coefsT_app (l : List Int) (h : allC l) (rest : List Bool) : coefsT l.length (coefsD l ++ rest) = some (l, rest) := by
  induction l with
  | nil => rfl
  | cons v l ih =>
    have hv := h v (by simp)
    unfold isC at hv
    rw [coefsD_cons, List.append_assoc, List.length_cons, coefsT]
    unfold coefD
    rw [takeD_dig (by omega) (by omega)]
    simp only [Option.bind_some]
    rw [ih (fun x hx => h x (by simp [hx]))]
    simp only [Option.map_some]
    have e : (((v + 32768).toNat : Nat) : Int) - 32768 = v := by omega
    rw [e]
/-- Numbers with signs that are small enough for Zig. -/
def smallZ (l : List Int) : Prop := ∀ n ∈ l, -1099511627776 ≤ n ∧ n < 1099511627776
theorem zig_back {n : Int} (h1 : -1099511627776 ≤ n) (h2 : n < 1099511627776) : zagOf (zigOf n) = n := by
  unfold zigOf
  rw [if_neg (by omega)]
  split
  · unfold zagOf
    rw [if_neg (by omega), if_pos (by omega)]
    omega
  · unfold zagOf
    rw [if_neg (by omega), if_neg (by omega)]
    omega
theorem ricesT_app (l : List Int) (k : Nat) (hk : k ≤ 24) (hs : smallZ l) (hz : okZ l) (rest : List Bool) : ricesT k l.length (digs (zigs l) k ++ rest) = some (l, rest) := by
  induction l with
  | nil => rfl
  | cons n l ih =>
    have e : zigs (n :: l) = zigOf n :: zigs l := rfl
    have hn := hs n (by simp)
    have hz1 : zigOf n < 4294967296 := hz (zigOf n) (by rw [e]; simp)
    have hz0 := zigOf_nn n
    rw [e, digs_cons, List.append_assoc, List.length_cons, ricesT, riceOut_dig (zigOf n) k _ hz0 hz1 hk]
    simp only [if_true, List.drop_left']
    rw [ih (fun m hm => hs m (by simp [hm])) (fun z hzz => hz z (by rw [e]; simp [hzz]))]
    simp only [Option.map_some]
    have e2 : (((zigOf n).toNat : Nat) : Int) = zigOf n := by omega
    rw [e2, zig_back hn.1 hn.2]
theorem resT_app (l : List Int) (hs : smallZ l) (hz : okZ l) (rest : List Bool) : resT l.length (residD l ++ rest) = some (l, rest) := by
  have hp := parOf_le l
  unfold resT residD
  rw [List.append_assoc, takeD_dig (by omega) (by omega)]
  simp only [Option.bind_some, Int.toNat_natCast]
  rw [if_neg (by omega)]
  exact ricesT_app l (parOf l) hp hs hz rest
theorem noOnes_zeros (m : Nat) : noOnes (List.replicate m false) = true := by
  unfold noOnes
  simp
theorem residZ_smallZ (x : List Int) (n : Nat) (h4 : n ≤ 4) (hS : allS x) : smallZ (residZ x n) := fun y hy => by
  have := residZ_small x n h4 hS y hy
  omega
theorem lresidZ_smallZ (x c : List Int) (hS : allS x) : smallZ (lresidZ x c) := fun y hy => by
  unfold lresidZ at hy
  obtain ⟨j, hj, rfl⟩ := List.mem_map.1 hy
  have hj' := List.mem_range.1 hj
  have h1 := hS.at (k := c.length + j) (by omega)
  have h2 := lguess_small (x.take (c.length + j)) c
  unfold isS at h1
  omega
theorem coOut_true {x c : List Int} {o : Int} {s : Nat} (h : coOut x o s = (c, true)) : 1 ≤ o ∧ o ≤ 12 ∧ o < (x.length : Int) ∧ allC c ∧ (c.length : Int) = o := by
  unfold coOut at h
  split at h
  · cases h
  · rename_i hn
    split at h
    · rename_i hc
      cases h
      refine ⟨by omega, by omega, by omega, hc, ?_⟩
      rw [length_lev]
      omega
    · cases h
theorem decP_key {K : Nat} {t : List Bool} {x : List Int} (hK : K ≤ 18) (hm : mayX x) (D body : List Bool) (q : List Int × List Bool) (e : D = headD (K : Int) x.length ++ body) (h1 : ordOf K x.length ≤ x.length) (h2 : ¬ (6 < K ∧ x.length ≤ ordOf K x.length))
    (h3 : sampsT (ordOf K x.length) body = some q) (h4 : bodyT K x.length q.1 q.2 = some (x, t)) : decP D = some (x, t) := by
  obtain ⟨hx1, hx64, hS⟩ := hm
  rw [e]
  unfold decP headD
  rw [List.append_assoc, takeD_dig (by omega) (by omega)]
  simp only [Option.bind_some, Int.toNat_natCast]
  rw [takeD_dig (by omega) (by omega)]
  simp only [Option.bind_some, Int.toNat_natCast]
  rw [if_neg (by omega), h3]
  simp only [Option.bind_some]
  rw [h4]
theorem decP_const {x : List Int} {t : List Bool} (hm : mayX x) (hall : allOne x) : decP (headD 0 x.length ++ sampD (x.getD 0 0) ++ t) = some (x, t) := by
  refine decP_key (K := 0) (t := t) (by decide) hm _ (sampD (x.getD 0 0) ++ t) ([x.getD 0 0], t) (by rw [List.append_assoc]; rfl) (by have := hm.1; simp [ordOf]; omega) (by omega) ?_ ?_
  · have := sampsT_app [x.getD 0 0] (fun y hy => by simp at hy; subst hy; exact hm.2.2.atD 0) (t)
    rw [sampsD_cons, sampsD_nil, List.append_nil] at this
    exact this
  · unfold bodyT
    rw [if_pos rfl]
    have : List.replicate x.length (x.getD 0 0) = x := (List.eq_replicate_iff.2 ⟨rfl, hall⟩).symm
    simp only [List.getD_cons_zero]
    rw [this]
theorem decP_verb {x : List Int} {t : List Bool} (hm : mayX x) : decP (headD 1 x.length ++ sampsD x ++ t) = some (x, t) := by
  refine decP_key (K := 1) (t := t) (by decide) hm _ (sampsD x ++ t) (x, t) (by rw [List.append_assoc]; rfl) (by simp [ordOf]) (by omega) ?_ ?_
  · have e : ordOf 1 x.length = x.length := by simp [ordOf]
    rw [e]
    exact sampsT_app x hm.2.2 _
  · unfold bodyT
    rw [if_neg (by decide), if_pos rfl]
theorem decP_fixed {x : List Int} {t : List Bool} {n : Nat} (hm : mayX x) (hn4 : n ≤ 4) (hnx : n ≤ x.length) (hz : okZ (residZ x n)) : decP (headD ((n + 2 : Nat) : Int) x.length ++ sampsD (x.take n) ++ residD (residZ x n) ++ t) = some (x, t) := by
  obtain ⟨K, hK⟩ : ∃ K, K = n + 2 := ⟨_, rfl⟩
  rw [← hK]
  have eo : ordOf K x.length = n := by unfold ordOf; rw [if_neg (by omega), if_neg (by omega), if_pos (by omega)]; omega
  have hrl : (residZ x n).length = x.length - n := by simp
  refine decP_key (K := K) (t := t) (by omega) hm _ (sampsD (x.take n) ++ (residD (residZ x n) ++ t)) (x.take n, residD (residZ x n) ++ t) (by simp only [List.append_assoc]) (by omega) (by omega) ?_ ?_
  · have := sampsT_app (x.take n) (hm.2.2.take n) (residD (residZ x n) ++ t)
    rw [show (x.take n).length = n by simp; omega] at this
    rw [eo]
    exact this
  · unfold bodyT
    rw [if_neg (by omega), if_neg (by omega), if_pos (by omega), eo, ← hrl, resT_app _ (residZ_smallZ x n hn4 hm.2.2) hz]
    simp only [Option.bind_some]
    have := restOut_resid x n hn4 hnx hm.2.1 hm.2.2
    rw [← this]
    simp
theorem decP_lpc {x c : List Int} {t : List Bool} {n : Nat} (hm : mayX x) (hn1 : 1 ≤ n) (hn12 : n ≤ 12) (hnx : n < x.length) (hcn : c.length = n) (hC : allC c) (hz : okZ (lresidZ x c)) : decP (headD ((n + 6 : Nat) : Int) x.length ++ sampsD (x.take n) ++ coefsD c ++ residD (lresidZ x c) ++ t) = some (x, t) := by
  obtain ⟨K, hK⟩ : ∃ K, K = n + 6 := ⟨_, rfl⟩
  rw [← hK]
  have eo : ordOf K x.length = n := by unfold ordOf; rw [if_neg (by omega), if_neg (by omega), if_neg (by omega)]; omega
  have hrl : (lresidZ x c).length = x.length - n := by simp [hcn]
  refine decP_key (K := K) (t := t) (by omega) hm _ (sampsD (x.take n) ++ (coefsD c ++ (residD (lresidZ x c) ++ t))) (x.take n, coefsD c ++ (residD (lresidZ x c) ++ t)) (by simp only [List.append_assoc]) (by omega) (by omega) ?_ ?_
  · have := sampsT_app (x.take n) (hm.2.2.take n) (coefsD c ++ (residD (lresidZ x c) ++ t))
    rw [show (x.take n).length = n by simp; omega] at this
    rw [eo]
    exact this
  · unfold bodyT
    rw [if_neg (by omega), if_neg (by omega), if_neg (by omega), eo]
    have e1 := coefsT_app c hC (residD (lresidZ x c) ++ t)
    rw [hcn] at e1
    rw [e1]
    simp only [Option.bind_some]
    rw [← hrl, resT_app _ (lresidZ_smallZ x c hm.2.2) hz]
    simp only [Option.bind_some]
    have e2 := lrestOut_resid x c ⟨by omega, by omega, hC⟩ (by omega) hm.2.1 hm.2.2
    rw [hcn] at e2
    rw [← e2]
    simp
/-- What a frame of any kind, with anything behind it, is decoded to. -/
theorem decP_tail {kind : Int} {x : List Int} {s : Nat} {ds : List Bool} (h : frm kind x s = some ds) (t : List Bool) : decP (ds ++ t) = some (x, t) := by
  unfold frm at h
  by_cases hk : ¬ mayX x ∨ kind < 0 ∨ 18 < kind
  · rw [if_pos hk] at h; cases h
  rw [if_neg hk] at h
  have hm : mayX x := by
    by_cases hm : mayX x
    · exact hm
    · exact absurd (Or.inl hm) hk
  by_cases h0 : kind = 0
  · rw [if_pos h0] at h
    subst h0
    by_cases ha : allOne x
    · rw [if_pos ha] at h
      cases h
      exact decP_const hm ha
    · rw [if_neg ha] at h; cases h
  rw [if_neg h0] at h
  by_cases h1 : kind = 1
  · rw [if_pos h1] at h
    subst h1
    cases h
    exact decP_verb hm
  rw [if_neg h1] at h
  by_cases h6 : kind ≤ 6
  · rw [if_pos h6] at h
    by_cases hl : (x.length : Int) < kind - 2
    · rw [if_pos hl] at h; cases h
    rw [if_neg hl] at h
    obtain ⟨n, hn⟩ : ∃ n : Nat, kind = ((n + 2 : Nat) : Int) := ⟨(kind - 2).toNat, by omega⟩
    have e : (kind - 2).toNat = n := by omega
    rw [e] at h
    by_cases hz : okZ (residZ x n)
    · rw [if_pos hz] at h
      cases h
      rw [hn]
      exact decP_fixed hm (by omega) (by omega) hz
    · rw [if_neg hz] at h; cases h
  rw [if_neg h6] at h
  obtain ⟨⟨c, b⟩, hc⟩ : ∃ R, R = coOut x (kind - 6) s := ⟨_, rfl⟩
  rw [← hc] at h
  simp only at h
  cases b with
  | false => simp at h
  | true =>
    rw [if_pos rfl] at h
    obtain ⟨g1, g2, g3, g4, g5⟩ := coOut_true hc.symm
    obtain ⟨n, hn⟩ : ∃ n : Nat, kind = ((n + 6 : Nat) : Int) := ⟨(kind - 6).toNat, by omega⟩
    have e : (kind - 6).toNat = n := by omega
    rw [e] at h
    by_cases hz : okZ (lresidZ x c)
    · rw [if_pos hz] at h
      cases h
      rw [hn]
      exact decP_lpc hm (by omega) (by omega) (by omega) (by omega) g4 hz
    · rw [if_neg hz] at h; cases h
theorem decD_tail {kind : Int} {x : List Int} {s : Nat} {ds : List Bool} (h : frm kind x s = some ds) (t : List Bool) : decD (ds ++ t) = if noOnes t = true then some x else none := by
  rw [decD_P, decP_tail h]
  rfl
theorem decD_frm {kind : Int} {x : List Int} {s : Nat} {ds : List Bool} (h : frm kind x s = some ds) (m : Nat) : decD (ds ++ List.replicate m false) = some x := by
  rw [decD_tail h, if_pos (noOnes_zeros m)]

end Go.Proofs.Ythkfaackkcdcoab

/- frame: counts, samples, and what is put: samples, a constant, residuals. -/
namespace Go.Proofs.Ythkfaackkcdcoab
set_option linter.unusedVariables false
set_option linter.unusedSimpArgs false
open Go.RowKit Dg

set_option maxHeartbeats 1000000 in
theorem pare_any (w : World) (a : Option Addr) (cap : Nat) (l : List Int) (h : IntsAt w a l) (hl : l.length ≤ 1000000) (t : Bool) (ht : t = decide (allS l)) :
    Calls Try.prog 30 #[.slice a l.length cap] w fun e w' => e = .returned (.bool t) ∧ w = w' := by
  have H : Hid (IntsAt w a l) := h
  have HT : Hid (t = decide (allS l)) := ht
  clear h ht
  go_enter Try.func30, Try.ntmps30
  go_wp2
  go_loopw [7] (fun i wr => ∃ k : Nat, k ≤ l.length ∧ i = .int .i64 k ∧ Hid (allS (l.take k)) ∧ w = wr) (fun i _ => l.length - (intOf i).toNat)
  case atStart => exact ⟨0, Nat.zero_le _, rfl, fun x hx => by simp at hx, rfl⟩
  case round =>
    obtain ⟨k, hk, rfl, hall, rfl⟩ := hrel
    by_cases hkn : k < l.length
    · obtain ⟨x, hx⟩ : ∃ x, l[k]? = some x := ⟨l[k], by simp [hkn]⟩
      obtain ⟨b, off, rfl, hc⟩ := H.out k x hx
      have HX : Hid (l[k]? = some x) := hx
      clear hx
      have hbad : ¬ isS x → t = false := fun hn => by
        rw [HT.out]
        exact decide_eq_false (fun ha => hn (ha x (List.mem_of_getElem? HX.out)))
      by_cases hlo : x < -8388608
      · have ht := hbad (by unfold isS; omega)
        subst ht
        clear hbad
        go_wp2_with fail
        go_ret
        exact ⟨rfl, rfl⟩
      · by_cases hhi : 8388607 < x
        · have ht := hbad (by unfold isS; omega)
          subst ht
          clear hbad
          go_wp2_with fail
          go_ret
          exact ⟨rfl, rfl⟩
        · clear hbad
          go_wp2_with fail
          refine ⟨⟨k + 1, by omega, by go_num, ?_, by trivial⟩, by (simp [intOf]) <;> omega⟩
          show allS _
          rw [take_next l k x HX.out]
          exact hall.out.snoc (by unfold isS; omega)
    · have e : k = l.length := by omega
      subst e
      have ht : t = true := by
        have := hall.out
        rw [List.take_length] at this
        rw [HT.out]; exact decide_eq_true this
      subst ht
      go_wp2_with fail
      go_ret
      exact ⟨rfl, rfl⟩

set_option maxHeartbeats 1000000 in
theorem pcount_any (w : World) (n : Int) (t : Bool) (ht : t = decide (1 ≤ n ∧ n ≤ 64)) :
    Calls Try.prog 29 #[.int .i64 n] w fun e w' => e = .returned (.bool t) ∧ w = w' := by
  have HT := hid_of ht
  clear ht
  rcases (by omega : n < 1 ∨ (1 ≤ n ∧ n ≤ 64) ∨ (1 ≤ n ∧ 64 < n)) with h | ⟨h1, h2⟩ | ⟨h1, h2⟩
  · have e : t = false := by rw [HT.out]; exact decide_eq_false (by omega)
    subst e
    go_enter Try.func29, Try.ntmps29
    go_wp2_with fail
    go_ret
    exact ⟨rfl, rfl⟩
  · have e : t = true := by rw [HT.out]; exact decide_eq_true (by omega)
    have hb : decide (n ≤ 64) = true := decide_eq_true (by omega)
    subst e
    go_enter Try.func29, Try.ntmps29
    go_wp2_with fail
    go_ret
    rw [← hb]
    exact ⟨rfl, rfl⟩
  · have e : t = false := by rw [HT.out]; exact decide_eq_false (by omega)
    have hb : decide (n ≤ 64) = false := decide_eq_false (by omega)
    subst e
    go_enter Try.func29, Try.ntmps29
    go_wp2_with fail
    go_ret
    rw [← hb]
    exact ⟨rfl, rfl⟩
theorem pfix_any (w : World) (kind : Int) (h0 : 0 ≤ kind) (h1 : kind ≤ 1000) (n : Int) (hn : n = kind - 2) :
    Calls Try.prog 41 #[.int .i64 kind] w fun e w' => e = .returned (.int .i64 n) ∧ w = w' := by
  subst hn
  go_enter Try.func41, Try.ntmps41
  go_wp2_with fail
  go_ret
  exact ⟨rfl, rfl⟩
theorem plpc_any (w : World) (kind : Int) (h0 : 0 ≤ kind) (h1 : kind ≤ 1000) (n : Int) (hn : n = kind - 6) :
    Calls Try.prog 43 #[.int .i64 kind] w fun e w' => e = .returned (.int .i64 n) ∧ w = w' := by
  have HN := hid_of hn
  clear hn
  go_enter Try.func43, Try.ntmps43
  go_wp2_with fail
  go_ret
  refine ⟨?_, rfl⟩
  rw [HN.out]
  exact ret_int (by omega)

/-- A block ahead of the writer is none of its own. -/
theorem ahead {w : World} {b : Nat} {rv : Value} {ds : List Bool} (h : WrAt w b rv ds) {a : Option Addr} (ha : ∀ y, a = some y → y.block < b) : ∀ y, a = some y → ¬ Wf b rv y.block := fun y hy hf => by
  have h1 := (h.foot _ hf).1
  have h2 := ha y hy
  omega
set_option maxRecDepth 100000 in
set_option maxHeartbeats 4000000 in
theorem pputs_any (w : World) (b n cap : Nat) (rv : Value) (ds : List Bool) (a : Option Addr) (l : List Int) (hn : l.length = n) (h : WrAt w b rv ds) (hl : IntsAt w a l) (ha : ∀ y, a = some y → ¬ Wf b rv y.block) (hS : allS l) (hd : ds.length ≤ 100000) (hll : n ≤ 1000) (D : List Bool) (hD : D = ds ++ sampsD l) :
    Calls Try.prog 54 #[.pointer (some ⟨b, 0, none⟩), .slice a n cap] w fun e w' => e = .returned (.tuple #[]) ∧ Wrote w w' b rv D := by
  have HN := hid_of hn
  have HW := hid_of h
  have HL := hid_of hl
  have HA := hid_of ha
  have HS := hid_of hS
  have HD := hid_of hD
  clear hn h hl ha hS hD
  go_enter Try.func54, Try.ntmps54
  go_wp2_with fail
  go_loopw [8] (fun i wr => ∃ k : Nat, k ≤ n ∧ i = .int .i64 (k : Int) ∧ Hid (Wrote w wr b rv (ds ++ sampsD (l.take k)))) (fun i _ => n - (intOf i).toNat)
  case atStart => exact ⟨0, Nat.zero_le _, rfl, by show Wrote _ _ _ _ _; simpa using Wrote.refl HW.out⟩
  case round =>
    obtain ⟨k, hk, rfl, hwr⟩ := hrel
    by_cases hkn : k < n
    · obtain ⟨x, hx⟩ : ∃ x, l[k]? = some x := ⟨l[k]'(by rw [HN.out]; exact hkn), by simp⟩
      obtain ⟨rv1, hw1, hk1, hn1⟩ := hwr.out
      obtain ⟨b0, off, rfl, hc⟩ := (HL.out.kept hk1 HA.out) k x hx
      obtain ⟨hx1, hx2⟩ := HS.out x (List.mem_of_getElem? hx)
      have HE : Hid (ds ++ sampsD (l.take (k + 1)) = ds ++ sampsD (l.take k) ++ dig (x + 8388608) 24) := by
        show _ = _
        rw [take_next l k x hx, sampsD_snoc, List.append_assoc]
        rfl
      have hlen : (ds ++ sampsD (l.take k)).length < 4398046511000 := by simp; omega
      have HW1 := hid_of hw1
      have HK1 := hid_of hk1
      have HN1 := hid_of hn1
      clear hx hw1 hk1 hn1 hwr
      go_wp2_with fail
      refine (put_at wr b rv1 _ (x + 8388608) 24 HW1.out hlen (by decide) _ rfl).mono ?_
      rw [← HE.out]
      rintro e w3 ⟨rfl, h3⟩
      have H3 : Hid (Wrote w w3 b rv (ds ++ sampsD (l.take (k + 1)))) := Wrote.trans HK1.out HN1.out h3
      clear h3
      go_wp2_with fail
      exact ⟨⟨k + 1, by omega, by go_num, H3⟩, by (simp [intOf]) <;> omega⟩
    · have e : k = n := by omega
      have HF : Hid (Wrote w wr b rv D) := by
        have h1 := hwr.out
        rw [e, ← HN.out, List.take_length, ← HD.out] at h1
        exact h1
      subst e
      clear hwr
      go_wp2_with fail
      go_end0
      exact ⟨rfl, HF.out⟩

/-- What is put, or that it is not: then the writer holds anything. -/
def PutB (w w' : World) (b : Nat) (rv : Value) (ds : List Bool) (o : Option (List Bool)) (e : Ending) : Prop :=
  match o with
  | none => e = .returned (.bool false) ∧ ∃ ds', Wrote w w' b rv ds'
  | some D => e = .returned (.bool true) ∧ Wrote w w' b rv (ds ++ D)

set_option maxRecDepth 100000 in
set_option maxHeartbeats 4000000 in
theorem pconst_any (w : World) (b cap : Nat) (rv : Value) (ds : List Bool) (a : Option Addr) (l : List Int) (h : WrAt w b rv ds) (hl : Ns w a cap l) (ha : ∀ y, a = some y → ¬ Wf b rv y.block) (hm : mayX l) (hd : ds.length ≤ 1000) (o : Option (List Bool)) (ho : o = if allOne l then some (sampD (l.getD 0 0)) else none) :
    Calls Try.prog 53 #[.pointer (some ⟨b, 0, none⟩), .slice a l.length cap] w fun e w' => PutB w w' b rv ds o e := by
  have HW := hid_of h
  have HL := hid_of hl.at_
  have HA := hid_of ha
  have HS := hid_of hm.2.2
  have hl1 : 1 ≤ l.length := hm.1
  have hl64 : l.length ≤ 64 := hm.2.1
  have hcap : l.length ≤ cap := hl.le
  obtain ⟨x0, hx0⟩ : ∃ x, l[0]? = some x := ⟨l[0]'(by omega), by simp⟩
  have HX0 := hid_of (getD_of hx0)
  have HXS := hid_of (HS.out x0 (List.mem_of_getElem? hx0))
  obtain ⟨b0, o0, rfl, hc0⟩ := hl.at_ 0 x0 hx0
  rw [Nat.add_zero] at hc0
  have HC0 : Hid (IntsAt w (some ⟨b0, o0, none⟩) [x0]) := by
    intro j x hx
    cases j with
    | zero => simp at hx; subst hx; exact ⟨b0, o0, rfl, hc0⟩
    | succ j => simp at hx
  have HO := hid_of ho
  have hsl := slice_ints (some ⟨b0, o0, none⟩) l.length cap 1 (by omega)
  clear h hl ha hm ho hx0
  go_enter Try.func53, Try.ntmps53
  go_wp2_with fail
  go_loopw [9] (fun i wr => ∃ k : Nat, k ≤ l.length ∧ i = .int .i64 (k : Int) ∧ Hid (∀ v ∈ l.take k, v = x0) ∧ w = wr) (fun i _ => l.length - (intOf i).toNat)
  case atStart => exact ⟨0, Nat.zero_le _, rfl, fun v hv => by simp at hv, rfl⟩
  case round =>
    obtain ⟨k, hk, rfl, hall, rfl⟩ := hrel
    by_cases hkn : k < l.length
    · obtain ⟨x, hx⟩ : ∃ x, l[k]? = some x := ⟨l[k], by simp [hkn]⟩
      have hc : w.cell? ⟨b0, o0 + k, none⟩ = some (.int .i64 x) := by
        obtain ⟨b2, o2, e2, hc2⟩ := HL.out k x hx
        cases e2
        exact hc2
      by_cases hxe : x = x0
      · have hb : (x != x0) = false := by simp [hxe]
        have HA : Hid (∀ v ∈ l.take (k + 1), v = x0) := by
          intro v hv
          rw [take_next l k x hx] at hv
          rcases List.mem_append.1 hv with h | h
          · exact hall.out v h
          · simp at h; rw [h]; exact hxe
        clear hx hxe hall
        go_wp2_with fail
        exact ⟨⟨k + 1, by omega, by go_num, HA, by trivial⟩, by (simp [intOf]) <;> omega⟩
      · have hb : (x != x0) = true := by simp [hxe]
        have HN : Hid (o = none) := by
          show _ = _
          rw [HO.out]
          refine if_neg (fun h => hxe ?_)
          rw [h x (List.mem_of_getElem? hx), HX0.out]
        clear hx hxe hall
        go_wp2_with fail
        go_ret
        rw [HN.out]
        exact ⟨rfl, ds, Wrote.refl HW.out⟩
    · have e : k = l.length := by omega
      subst e
      have HS' : Hid (o = some (sampD x0)) := by
        show _ = _
        have h1 := hall.out
        rw [List.take_length] at h1
        have hAO : allOne l := fun v hv => by rw [HX0.out]; exact h1 v hv
        rw [HO.out, if_pos hAO, HX0.out]
      clear hall
      go_wp2_with fail
      refine (pputs_any w b 1 cap rv ds _ [x0] rfl HW.out HC0.out HA.out (fun v hv => by simp at hv; subst hv; exact HXS.out) (by omega) (by decide) (ds ++ sampD x0) (by simp [sampsD])).mono ?_
      rintro e w3 ⟨rfl, h3⟩
      have H3 := hid_of h3
      clear h3
      go_wp2_with fail
      go_ret
      rw [HS'.out]
      exact ⟨rfl, H3.out⟩

end Go.Proofs.Ythkfaackkcdcoab

/- frame: residuals put, the fixed predictors', the others'. -/
namespace Go.Proofs.Ythkfaackkcdcoab
set_option linter.unusedVariables false
set_option linter.unusedSimpArgs false
open Go.RowKit Dg

theorem pbest_any (w : World) (a : Option Addr) (cap : Nat) (l : List Int) (h : IntsAt w a l) (hl : l.length ≤ 4096) (k : Nat) (s : Int) (h1 : (∀ x ∈ l, isNum x = true) → bestTo l 24 = (k, s)) (h2 : (∃ x ∈ l, isNum x = false) → k = 0 ∧ s = 0) :
    Calls Try.prog 91 #[.slice a l.length cap] w fun e w' => e = .returned (.tuple #[.int .i64 k, .int .i64 s]) ∧ w = w' := by
  by_cases hb : ∃ x ∈ l, isNum x = false
  · obtain ⟨rfl, rfl⟩ := h2 hb
    exact best_bad w a cap l h hl hb
  · have hall : ∀ x ∈ l, isNum x = true := fun x hx => by
      cases hn : isNum x with
      | true => rfl
      | false => exact absurd ⟨x, hx, hn⟩ hb
    exact best_all w a cap l h hl hall k s (h1 hall)
theorem okZ_iff (l : List Int) : okZ l ↔ ∀ z ∈ zigs l, isNum z = true := ⟨okZ_num, fun h z hz => (isNum_true (h z hz)).2⟩
theorem Wrote.after {w w1 w2 : World} {b : Nat} {rv : Value} {ds : List Bool} {es : List Bool} (h : WrAt w b rv es) (hb : Below w.heap.size w w1) (h2 : Wrote w1 w2 b rv ds) : Wrote w w2 b rv ds :=
  Wrote.trans (Kept.of_below hb) (fun k hk => .inl hk) h2
theorem WrAt.grow {w w' : World} {b : Nat} {rv : Value} {ds : List Bool} (h : WrAt w b rv ds) (hb : Below w.heap.size w w') : WrAt w' b rv ds := h.below hb
theorem pzigs_get {l : List Int} {k : Nat} {x : Int} (h : l[k]? = some x) : (zigs l)[k]? = some (zigOf x) := by unfold zigs; rw [List.getElem?_map, h]; rfl

set_option maxRecDepth 100000 in
set_option maxHeartbeats 4000000 in
theorem presid_any (w : World) (b cap : Nat) (rv : Value) (ds : List Bool) (a : Option Addr) (l : List Int) (h : WrAt w b rv ds) (hl : IntsAt w a l) (hd : ds.length ≤ 100000) (hll : l.length ≤ 1000) (o : Option (List Bool)) (ho : o = if okZ l then some (residD l) else none) :
    Calls Try.prog 74 #[.pointer (some ⟨b, 0, none⟩), .slice a l.length cap] w fun e w' => PutB w w' b rv ds o e := by
  obtain ⟨i0, hi, hz0, hz1, hz2⟩ := info_parts Try.info3
  have HW := hid_of h
  have HL := hid_of hl
  obtain ⟨zs, hzs⟩ : ∃ zs, zs = zigs l := ⟨_, rfl⟩
  have HZL : Hid (zs.length = l.length) := by show _ = _; rw [hzs]; simp
  have HZG : Hid (∀ (k : Nat) (x : Int), l[k]? = some x → zs[k]? = some (zigOf x)) := by intro k x hx; rw [hzs]; exact pzigs_get hx
  have HZO : Hid (okZ l ↔ ∀ z ∈ zs, isNum z = true) := by show _ ↔ _; rw [hzs]; exact okZ_iff l
  obtain ⟨K, bs, hK24, hB1, hB2⟩ : ∃ (K : Nat) (bs : Int), K ≤ 24 ∧ ((∀ x ∈ zs, isNum x = true) → bestTo zs 24 = (K, bs)) ∧ ((∃ x ∈ zs, isNum x = false) → K = 0 ∧ bs = 0) := by
    by_cases hb : ∃ x ∈ zs, isNum x = false
    · refine ⟨0, 0, by decide, fun hall => ?_, fun _ => ⟨rfl, rfl⟩⟩
      obtain ⟨x, hx, hxf⟩ := hb
      rw [hall x hx] at hxf
      cases hxf
    · exact ⟨(bestTo zs 24).1, (bestTo zs 24).2, bestTo_le _ _, fun _ => rfl, fun h => absurd h hb⟩
  have HB1 := hid_of hB1
  have HB2 := hid_of hB2
  have HD : Hid ((∀ z ∈ zs, isNum z = true) → o = some (dig (K : Int) 5 ++ digs zs K)) := fun hall => by
    have hok := HZO.out.2 hall
    have e : parOf l = K := by unfold parOf; rw [← hzs, hB1 hall]
    rw [ho, if_pos hok, residD, e, ← hzs]
  have HNO : Hid (∀ z ∈ zs, isNum z = false → o = none) := fun z hz hn => by
    rw [ho]
    refine if_neg (fun hok => ?_)
    rw [HZO.out.1 hok z hz] at hn
    cases hn
  clear h hl hzs ho hB1 hB2
  go_enter Try.func74, Try.ntmps74
  go_wp2_with fail
  go_loopw [5, 14] (fun vz i wr => ∃ k : Nat, k ≤ l.length ∧ i = .int .i64 (k : Int) ∧ Hid (OwnInts wr w.heap.size vz (zs.take k)) ∧ Hid (Below w.heap.size w wr)) (fun _ i _ => l.length - (intOf i).toNat)
  case atStart => exact ⟨0, Nat.zero_le _, rfl, OwnInts.nil _ _, Below.refl _ _⟩
  case round =>
    obtain ⟨k, hk, rfl, ho, hb⟩ := hrel
    have hsz : w.heap.size ≤ wr.heap.size := hb.out.size
    by_cases hkn : k < l.length
    · obtain ⟨x, hx⟩ : ∃ x, l[k]? = some x := ⟨l[k], by simp [hkn]⟩
      obtain ⟨b1, off, rfl, hc⟩ := HL.out.mono hb.out k x hx
      obtain ⟨z, hz⟩ : ∃ z, z = zigOf x := ⟨_, rfl⟩
      have HZ : Hid (zigOf x = z) := hz.symm
      have hzk : zs[k]? = some z := by rw [hz]; exact HZG.out k x hx
      have HNX := hid_of (take_next zs k z hzk)
      have hok : (zs.take k).length ≤ 1000000 := by rw [List.length_take, HZL.out]; omega
      clear hx hz hzk
      go_wp2_with first
        | (go_at_call 90; refine (zig_any _ _).mono ?_; rw [HZ.out]; rintro e w1 ⟨rfl, rfl⟩)
        | (at_builtin; go_must (refine wpList_append_int wr rfl (.tmp 18) (.tmp 21) 24 rfl w.heap.size i0 Try.underlying24 hi hz0 hz1 hz2 u5 (zs.take k) (by rfl) ho.out z (by rfl) hok hsz ?_))
      intro v' w' g1 g2
      have HO' : Hid (OwnInts w' w.heap.size v' (zs.take (k + 1))) := by rw [HNX.out]; exact g1
      have HB' : Hid (Below w.heap.size w w') := hb.out.trans g2.out
      clear g1 g2
      go_wp2_with fail
      exact ⟨⟨k + 1, by omega, by go_num, HO', HB'⟩, by (simp [intOf]) <;> omega⟩
    · have e : k = l.length := by omega
      have ho' := ho.out
      rw [List.take_of_length_le (by rw [HZL.out]; omega)] at ho'
      obtain ⟨za, zc, hu5, hnz, hza, -⟩ := ho'.ns
      have hfar : ∀ y, za = some y → ¬ Wf b rv y.block := by
        intro y hy hf
        rcases hza with ⟨rfl, -, -⟩ | ⟨g, rfl⟩
        · cases hy
        · cases hy
          have h1 := (HW.out.foot _ hf).2
          subst hu5
          have h2 := (World.ownsRow.lt ho' g rfl).1
          exact absurd h1 (Nat.not_lt.2 h2)
      have HFAR := hid_of hfar
      subst hu5
      have HZA := hid_of hnz.at_
      have HBW := hid_of hb.out
      have HWR := hid_of (HW.out.below hb.out)
      have hz1000 : zs.length ≤ 1000 := by rw [HZL.out]; exact hll
      subst e
      clear ho ho' hnz hk hkn hb hza hfar
      go_wp2_with fail
      refine (pbest_any wr za zc zs HZA.out (by omega) K bs HB1.out HB2.out).mono ?_
      rintro e w1 ⟨rfl, rfl⟩
      go_wp2_with fail
      refine (put_at wr b rv ds (K : Int) 5 HWR.out (by omega) (by decide) _ rfl).mono ?_
      rintro e w2 ⟨rfl, h2⟩
      have H2 := hid_of h2
      clear h2
      go_wp2_with fail
      go_loopw [34] (fun i ws => ∃ j : Nat, j ≤ zs.length ∧ i = .int .i64 (j : Int) ∧ Hid (∀ z ∈ zs.take j, isNum z = true) ∧ Hid (Wrote wr ws b rv (ds ++ dig (K : Int) 5 ++ digs (zs.take j) K))) (fun i _ => zs.length - (intOf i).toNat)
      case atStart => exact ⟨0, Nat.zero_le _, rfl, fun z hz => by simp at hz, by show Wrote _ _ _ _ _; rw [List.take_zero]; simpa [digs] using H2.out⟩
      case round =>
        obtain ⟨j, hj, rfl, hnum, hof⟩ := hrel
        by_cases hjn : j < zs.length
        · obtain ⟨z, hz⟩ : ∃ z, zs[j]? = some z := ⟨zs[j], by simp [hjn]⟩
          obtain ⟨rv1, hw1, hk1, hn1⟩ := hof.out
          obtain ⟨b1, off, rfl, hc⟩ := (HZA.out.kept hk1 HFAR.out) j z hz
          have HW1 := hid_of hw1
          have HK1 := hid_of hk1
          have HN1 := hid_of hn1
          cases hzn : isNum z with
          | true =>
            have HZN' := hid_of hzn
            obtain ⟨E, hE⟩ : ∃ E, E = ds ++ dig (K : Int) 5 ++ digs (zs.take (j + 1)) K := ⟨_, rfl⟩
            have HE : Hid (E = ds ++ dig (K : Int) 5 ++ digs (zs.take j) K ++ riceDig z K) := by
              show _ = _
              rw [hE, take_next zs j z hz, digs_snoc]
              simp only [List.append_assoc]
            have hlen : (ds ++ dig (K : Int) 5 ++ digs (zs.take j) K).length ≤ 900000 := by
              have := (length_digs (zs.take j) K hnum.out hK24).2
              rw [List.length_take] at this
              simp
              omega
            have HNUM : Hid (∀ z ∈ zs.take (j + 1), isNum z = true) := by
              intro y hy
              rw [take_next zs j z hz] at hy
              rcases List.mem_append.1 hy with h1 | h1
              · exact hnum.out y h1
              · simp at h1; subst h1; exact hzn
            have HEE := hid_of hE
            clear hz hzn hE hw1 hk1 hn1 hof hnum
            go_wp2_with fail
            refine (ricePut_any _ b rv1 _ z K HW1.out (by omega) HZN'.out hK24).mono ?_
            rw [← HE.out]
            rintro e w3 ⟨rfl, h3⟩
            have H3 : Hid (Wrote _ w3 b rv E) := Wrote.trans HK1.out HN1.out h3
            rw [HEE.out] at H3
            clear h3
            go_wp2_with fail
            exact ⟨⟨j + 1, by omega, by go_num, HNUM, H3⟩, by (simp [intOf]) <;> omega⟩
          | false =>
            have HN : Hid (o = none) := HNO.out z (List.mem_of_getElem? hz) hzn
            have HP : Hid ((isNum z && isPar (K : Int)) = false) := by show _ = _; rw [hzn]; rfl
            have HOF := hof
            clear hz hzn hw1 hk1 hn1 hof hnum
            go_wp2_with fail
            refine (ricePut_bad _ _ z _ HP.out).mono ?_
            rintro e w3 ⟨rfl, rfl⟩
            go_wp2_with fail
            go_ret
            rw [HN.out]
            exact ⟨rfl, _, Wrote.after HW.out HBW.out HOF.out⟩
        · have ej : j = zs.length := by omega
          have HF : Hid (PutB w wr b rv ds o (.returned (.bool true))) := by
            have h1 := hof.out
            have h2 := hnum.out
            rw [ej, List.take_length] at h1 h2
            rw [HD.out h2]
            refine ⟨rfl, ?_⟩
            rw [← List.append_assoc]
            exact Wrote.after HW.out HBW.out h1
          clear hof hnum
          subst ej
          go_wp2_with fail
          go_ret
          exact HF.out

end Go.Proofs.Ythkfaackkcdcoab

/- frame: the fixed predictors' digits, the others'. -/
namespace Go.Proofs.Ythkfaackkcdcoab
set_option linter.unusedVariables false
set_option linter.unusedSimpArgs false
open Go.RowKit Dg

theorem own_far {w w3 : World} {b : Nat} {rv : Value} {ds : List Bool} (h : WrAt w b rv ds) {a : Option Addr} {c : Nat} {L : List Int} (ho : OwnInts w3 w.heap.size (.slice a L.length c) L) : ∀ y, a = some y → ¬ Wf b rv y.block := by
  intro y hy hf
  obtain ⟨a', c', e, -, hz, -⟩ := ho.ns
  cases e
  rcases hz with ⟨rfl, -, -⟩ | ⟨g, rfl⟩
  · cases hy
  · cases hy
    exact absurd (h.foot _ hf).2 (Nat.not_lt.2 (World.ownsRow.lt ho g rfl).1)
theorem PutB.no {w w' : World} {b : Nat} {rv : Value} {ds : List Bool} (h : WrAt w b rv ds) (hb : Below w.heap.size w w') : PutB w w' b rv ds none (.returned (.bool false)) :=
  ⟨rfl, ds, Wrote.after h hb (Wrote.refl (h.below hb))⟩
/-- What was put ahead, and then residuals. -/
theorem PutB.behind {w w3 w4 w5 : World} {b : Nat} {rv rv4 : Value} {ds es : List Bool} {o o2 : Option (List Bool)} {e : Ending} (h : WrAt w b rv ds) (hb : Below w.heap.size w w3) (hk : Kept (Wf b rv) w3 w4) (hn : ∀ k, rv4.ownBlock = some k → rv.ownBlock = some k ∨ w3.heap.size ≤ k)
    (h5 : PutB w4 w5 b rv4 (ds ++ es) o2 e) (ho : o = o2.map fun D => es ++ D) : PutB w w5 b rv ds o e := by
  cases o2 with
  | none =>
    obtain ⟨he, ds', h1⟩ := h5
    rw [ho]
    exact ⟨he, ds', Wrote.after h hb (Wrote.trans hk hn h1)⟩
  | some D =>
    obtain ⟨he, h1⟩ := h5
    rw [ho]
    refine ⟨he, ?_⟩
    rw [List.append_assoc] at h1
    exact Wrote.after h hb (Wrote.trans hk hn h1)
theorem PutB.form {w w' : World} {b : Nat} {rv : Value} {ds : List Bool} {o : Option (List Bool)} {e : Ending} (h : PutB w w' b rv ds o e) : ∃ t : Bool, e = .returned (.bool t) := by
  cases o with
  | none => exact ⟨false, h.1⟩
  | some D => exact ⟨true, h.1⟩

set_option maxRecDepth 100000 in
set_option maxHeartbeats 4000000 in
theorem pfixed_any (w : World) (b cap n : Nat) (rv : Value) (ds : List Bool) (a : Option Addr) (l : List Int) (h : WrAt w b rv ds) (hl : Ns w a cap l) (ha : ∀ y, a = some y → ¬ Wf b rv y.block) (hm : mayX l) (hn4 : n ≤ 4) (hd : ds.length ≤ 1000) (o : Option (List Bool))
    (ho : o = if l.length < n then none else if okZ (residZ l n) then some (sampsD (l.take n) ++ residD (residZ l n)) else none) :
    Calls Try.prog 55 #[.pointer (some ⟨b, 0, none⟩), .slice a l.length cap, .int .i64 (n : Int)] w fun e w' => PutB w w' b rv ds o e := by
  have HW := hid_of h
  have HL := hid_of hl
  have HA := hid_of ha
  have HS := hid_of hm.2.2
  have hl1 : 1 ≤ l.length := hm.1
  have hl64 : l.length ≤ 64 := hm.2.1
  have hcap : l.length ≤ cap := hl.le
  have HO := hid_of ho
  obtain ⟨⟨L, q⟩, hR⟩ : ∃ R, R = resOut l (n : Int) := ⟨_, rfl⟩
  have HR := hid_of hR
  have hq : (l.length < n ∧ (q != 0) = true) ∨ (n ≤ l.length ∧ q = 0 ∧ L = residZ l n) := by
    unfold resOut at hR
    by_cases h : l.length < n
    · rw [if_pos (by omega)] at hR
      cases hR
      exact .inl ⟨h, rfl⟩
    · rw [if_neg (by omega), if_pos HS.out, if_neg (by omega), Int.toNat_natCast] at hR
      cases hR
      exact .inr ⟨by omega, rfl, rfl⟩
  clear h hl ha hm ho hR
  go_enter Try.func55, Try.ntmps55
  go_wp2_with fail
  refine (fresid_any w a cap l _ HL.out (by omega) _ HR.out).mono ?_
  rintro e w3 hg
  obtain ⟨a3, c3, rfl, ho3, hn3, hb3⟩ := hg.ok
  have HN3 := hid_of hn3.at_
  have HFAR := hid_of (own_far HW.out ho3)
  have HB3 := hid_of hb3
  have HW3 := hid_of (HW.out.below hb3)
  clear hg hb3 hn3 ho3
  rcases hq with ⟨hlt, hq0⟩ | ⟨hge, rfl, hLe⟩
  · have HN : Hid (o = none) := by show _ = _; rw [HO.out, if_pos hlt]
    go_wp2_with fail
    go_ret
    rw [HN.out]
    exact PutB.no HW.out HB3.out
  · have HOO : Hid (o = (if okZ L then some (residD L) else none).map fun D => sampsD (l.take n) ++ D) := by
      show _ = _
      rw [HO.out, if_neg (by omega), hLe]
      by_cases hz : okZ (residZ l n)
      · rw [if_pos hz, if_pos hz]; rfl
      · rw [if_neg hz, if_neg hz]; rfl
    have hrl : L.length ≤ 1000 := by rw [hLe]; simp; omega
    obtain ⟨xs, hxs⟩ : ∃ xs, xs = l.take n := ⟨_, rfl⟩
    have HXS : Hid (xs = l.take n) := hxs
    have HXL : Hid (xs.length = n) := by show _ = _; rw [hxs]; simp; omega
    have HX3 : Hid (IntsAt w3 a xs) := by rw [hxs]; exact (HL.out.at_.mono HB3.out).take n
    have HXA : Hid (allS xs) := by rw [hxs]; exact HS.out.take n
    have hsl := slice_ints a l.length cap n (by omega)
    clear hLe hxs
    go_wp2_with fail
    refine (pputs_any w3 b n cap rv ds a xs HXL.out HW3.out HX3.out HA.out HXA.out (by omega) (by omega) _ rfl).mono ?_
    rintro e w4 ⟨rfl, rv4, hw4, hk4, hn4'⟩
    have HW4 := hid_of hw4
    have HK4 := hid_of hk4
    have HN4 := hid_of hn4'
    have HL4 : Hid (IntsAt w4 a3 L) := HN3.out.kept hk4 HFAR.out
    have hlen : (ds ++ sampsD xs).length ≤ 100000 := by simp; rw [HXL.out]; omega
    clear hw4 hk4 hn4'
    go_wp2_with fail
    refine (presid_any w4 b c3 rv4 _ a3 L HW4.out HL4.out hlen hrl _ rfl).mono ?_
    rintro e w5 h5
    have H5 : Hid (PutB w w5 b rv ds o e) := PutB.behind HW.out HB3.out HK4.out HN4.out h5 (by rw [HOO.out, HXS.out])
    obtain ⟨t, rfl⟩ := h5.form
    clear h5
    go_wp2_with fail
    go_ret
    exact H5.out

set_option maxRecDepth 100000 in
set_option maxHeartbeats 4000000 in
theorem plpcs_any (w : World) (b cap n s : Nat) (rv : Value) (ds : List Bool) (a : Option Addr) (l : List Int) (h : WrAt w b rv ds) (hl : Ns w a cap l) (ha : ∀ y, a = some y → ¬ Wf b rv y.block) (hm : mayX l) (hs : IsShift (autoZ l 0) s) (hn1 : 1 ≤ n) (hn12 : n ≤ 12) (hd : ds.length ≤ 1000) (o : Option (List Bool))
    (ho : o = if (coOut l (n : Int) s).2 = true then (if okZ (lresidZ l (coOut l (n : Int) s).1) then some (sampsD (l.take n) ++ coefsD (coOut l (n : Int) s).1 ++ residD (lresidZ l (coOut l (n : Int) s).1)) else none) else none) :
    Calls Try.prog 56 #[.pointer (some ⟨b, 0, none⟩), .slice a l.length cap, .int .i64 (n : Int)] w fun e w' => PutB w w' b rv ds o e := by
  have HW := hid_of h
  have HL := hid_of hl
  have HA := hid_of ha
  have HS := hid_of hm.2.2
  have HSH := hid_of hs
  have hl1 : 1 ≤ l.length := hm.1
  have hl64 : l.length ≤ 64 := hm.2.1
  have hcap : l.length ≤ cap := hl.le
  obtain ⟨⟨c, t⟩, hC⟩ : ∃ R, R = coOut l (n : Int) s := ⟨_, rfl⟩
  have HC := hid_of hC
  rw [← hC] at ho
  simp only at ho
  have HO := hid_of ho
  cases t with
  | false =>
    have HN : Hid (o = none) := by show _ = _; rw [HO.out]; simp
    clear h hl ha hm ho hs hC
    go_enter Try.func56, Try.ntmps56
    go_wp2_with fail
    refine (vco_any w a cap l _ s HL.out.at_ (by omega) (fun _ _ => HSH.out) _ HC.out).mono ?_
    rintro e w2 hg
    obtain ⟨ca, cc, rfl, ho2, hn2, hb2⟩ := hg.ok
    have HB2 := hid_of hb2
    clear hg hb2 hn2 ho2
    go_wp2_with fail
    go_ret
    rw [HN.out]
    exact PutB.no HW.out HB2.out
  | true =>
    rw [if_pos rfl] at ho
    obtain ⟨g1, g2, g3, g4, g5⟩ := coOut_true hC.symm
    have hnl : n < l.length := by omega
    have HCN : Hid (c.length = n) := by show _ = _; omega
    have HCC := hid_of g4
    have hcl : c.length ≤ 12 := by omega
    obtain ⟨⟨L, q⟩, hR⟩ : ∃ R, R = lresOut l c := ⟨_, rfl⟩
    have HR := hid_of hR
    have hq : q = 0 ∧ L = lresidZ l c := by
      unfold lresOut at hR
      rw [if_neg, if_pos HS.out, if_neg (by omega)] at hR
      · cases hR; exact ⟨rfl, rfl⟩
      · rintro (h1 | h1)
        · exact h1 ⟨by omega, by omega, g4⟩
        · omega
    obtain ⟨rfl, hLe⟩ := hq
    have hrl : L.length ≤ 1000 := by rw [hLe]; simp; omega
    obtain ⟨xs, hxs⟩ : ∃ xs, xs = l.take n := ⟨_, rfl⟩
    have HOO : Hid (o = (if okZ L then some (residD L) else none).map fun D => (sampsD xs ++ coefsD c) ++ D) := by
      show _ = _
      rw [ho, hLe, hxs]
      by_cases hz : okZ (lresidZ l c)
      · rw [if_pos hz, if_pos hz]; rfl
      · rw [if_neg hz, if_neg hz]; rfl
    have HXL : Hid (xs.length = n) := by show _ = _; rw [hxs]; simp; omega
    have HXI : Hid (∀ W, IntsAt W a l → IntsAt W a xs) := by intro W hW; rw [hxs]; exact hW.take n
    have HXA : Hid (allS xs) := by rw [hxs]; exact HS.out.take n
    have hsl := slice_ints a l.length cap n (by omega)
    clear h hl ha hm ho hs hC g1 g2 g3 g4 g5 hR hLe hxs HO
    go_enter Try.func56, Try.ntmps56
    go_wp2_with fail
    refine (vco_any w a cap l _ s HL.out.at_ (by omega) (fun _ _ => HSH.out) _ HC.out).mono ?_
    rintro e w2 hg
    obtain ⟨ca, cc, rfl, ho2, hn2, hb2⟩ := hg.ok
    have HB2 := hid_of hb2
    have HCI := hid_of hn2.at_
    have HFC := hid_of (own_far HW.out ho2)
    have HL2 := hid_of (HL.out.mono hb2)
    clear hg hb2 hn2 ho2
    go_wp2_with fail
    refine (lresid_any w2 a ca cap cc l c HL2.out HCI.out (by omega) (by omega) _ HR.out).mono ?_
    rintro e w3 hg
    obtain ⟨a3, c3, rfl, ho3, hn3, hb3⟩ := hg.ok
    have HB3 : Hid (Below w.heap.size w w3) := HB2.out.trans (hb3.mono HB2.out.size)
    have HN3 := hid_of hn3.at_
    have HW3 := hid_of (HW.out.below HB3.out)
    have HFR : Hid (∀ y, a3 = some y → ¬ Wf b rv y.block) := own_far HW.out (ho3.base HB2.out.size)
    have HC3 : Hid (IntsAt w3 ca c) := HCI.out.mono hb3
    have HX3 : Hid (IntsAt w3 a xs) := HXI.out w3 (HL.out.at_.mono HB3.out)
    clear hg hb3 hn3 ho3
    go_wp2_with fail
    refine (pputs_any w3 b n cap rv ds a xs HXL.out HW3.out HX3.out HA.out HXA.out (by omega) (by omega) _ rfl).mono ?_
    rintro e w4 ⟨rfl, h4⟩
    have H4 := hid_of h4
    clear h4
    go_wp2_with fail
    go_loopw [36] (fun i wr => ∃ k : Nat, k ≤ c.length ∧ i = .int .i64 (k : Int) ∧ Hid (Wrote w3 wr b rv (ds ++ sampsD xs ++ coefsD (c.take k)))) (fun i _ => c.length - (intOf i).toNat)
    case atStart => exact ⟨0, Nat.zero_le _, rfl, by show Wrote _ _ _ _ _; simpa using H4.out⟩
    case round =>
      obtain ⟨k, hk, rfl, hwr⟩ := hrel
      by_cases hkn : k < c.length
      · obtain ⟨x, hx⟩ : ∃ x, c[k]? = some x := ⟨c[k], by simp [hkn]⟩
        obtain ⟨rv1, hw1, hk1, hn1⟩ := hwr.out
        obtain ⟨b0, off, rfl, hc⟩ := (HC3.out.kept hk1 HFC.out) k x hx
        obtain ⟨hx1, hx2⟩ := HCC.out x (List.mem_of_getElem? hx)
        have HE : Hid (ds ++ sampsD xs ++ coefsD (c.take (k + 1)) = ds ++ sampsD xs ++ coefsD (c.take k) ++ dig (x + 32768) 16) := by
          show _ = _
          rw [take_next c k x hx, coefsD_snoc, List.append_assoc _ _ (dig (x + 32768) 16)]
          rfl
        have hlen : (ds ++ sampsD xs ++ coefsD (c.take k)).length < 4398046511000 := by simp; rw [HXL.out]; omega
        have HW1 := hid_of hw1
        have HK1 := hid_of hk1
        have HN1 := hid_of hn1
        clear hx hw1 hk1 hn1 hwr
        go_wp2_with fail
        refine (put_at wr b rv1 _ (x + 32768) 16 HW1.out hlen (by decide) _ rfl).mono ?_
        rw [← HE.out]
        rintro e w5 ⟨rfl, h5⟩
        have H5 : Hid (Wrote w3 w5 b rv (ds ++ sampsD xs ++ coefsD (c.take (k + 1)))) := Wrote.trans HK1.out HN1.out h5
        clear h5
        go_wp2_with fail
        exact ⟨⟨k + 1, by omega, by go_num, H5⟩, by (simp [intOf]) <;> omega⟩
      · have e : k = c.length := by omega
        have h1 := hwr.out
        rw [e, List.take_length] at h1
        obtain ⟨rv1, hw1, hk1, hn1⟩ := h1
        have HW1 := hid_of hw1
        have HK1 := hid_of hk1
        have HN1 := hid_of hn1
        have HL4 : Hid (IntsAt wr a3 L) := HN3.out.kept hk1 HFR.out
        have hlen : (ds ++ sampsD xs ++ coefsD c).length ≤ 100000 := by simp; rw [HXL.out]; omega
        subst e
        clear hw1 hk1 hn1 hwr
        go_wp2_with fail
        refine (presid_any wr b c3 rv1 _ a3 L HW1.out HL4.out hlen hrl _ rfl).mono ?_
        rintro e w5 h5
        rw [List.append_assoc] at h5
        have H5 : Hid (PutB w w5 b rv ds o e) := PutB.behind HW.out HB3.out HK1.out HN1.out h5 HOO.out
        obtain ⟨t, rfl⟩ := h5.form
        clear h5
        go_wp2_with fail
        go_ret
        exact H5.out

end Go.Proofs.Ythkfaackkcdcoab
