/- Frames: the digits of samples by each kind, the shortest of them, and the samples of digits; no program. -/
import Derived.Test.YtlonnoapbfjomabGreatXMath
import Derived.Test.YtlonnoapbfjomabGreatLBack
import Derived.Test.YtlonnoapbfjomabGreatRice9
import Derived.Test.YtlonnoapbfjomabGreatLevSym
namespace Go.Proofs.YtlonnoapbfjomabGreat
set_option linter.unusedVariables false
set_option linter.unusedSimpArgs false
open Go.RowKit Dg

/-- A sample's digits; a coefficient's. -/
def sampD (v : Int) : List Bool := dig (v + 8388608) 24
def coefD (c : Int) : List Bool := dig (c + 32768) 16
def sampsD (l : List Int) : List Bool := (l.map sampD).flatten
def coefsD (l : List Int) : List Bool := (l.map coefD).flatten
@[simp] theorem sampsD_nil : sampsD [] = [] := rfl
@[simp] theorem coefsD_nil : coefsD [] = [] := rfl
theorem sampsD_cons (v : Int) (l : List Int) : sampsD (v :: l) = sampD v ++ sampsD l := by simp [sampsD]
theorem coefsD_cons (v : Int) (l : List Int) : coefsD (v :: l) = coefD v ++ coefsD l := by simp [coefsD]
theorem sampsD_snoc (l : List Int) (v : Int) : sampsD (l ++ [v]) = sampsD l ++ sampD v := by simp [sampsD]
theorem coefsD_snoc (l : List Int) (v : Int) : coefsD (l ++ [v]) = coefsD l ++ coefD v := by simp [coefsD]
@[simp] theorem length_sampD (v : Int) : (sampD v).length = 24 := by simp [sampD]
@[simp] theorem length_coefD (v : Int) : (coefD v).length = 16 := by simp [coefD]
@[simp] theorem length_sampsD (l : List Int) : (sampsD l).length = 24 * l.length := by
  induction l with
  | nil => rfl
  | cons v l ih => rw [sampsD_cons]; simp [ih]; omega
@[simp] theorem length_coefsD (l : List Int) : (coefsD l).length = 16 * l.length := by
  induction l with
  | nil => rfl
  | cons v l ih => rw [coefsD_cons]; simp [ih]; omega
/-- Residuals as numbers without signs; may they all be put? -/
def zigs (l : List Int) : List Int := l.map zigOf
@[simp] theorem length_zigs (l : List Int) : (zigs l).length = l.length := by simp [zigs]
def okZ (l : List Int) : Prop := ∀ z ∈ zigs l, z < 4294967296
instance (l : List Int) : Decidable (okZ l) := by unfold okZ; infer_instance
theorem zigOf_nn (n : Int) : 0 ≤ zigOf n := by
  unfold zigOf
  split
  · omega
  · split <;> omega
theorem okZ_num {l : List Int} (h : okZ l) : ∀ z ∈ zigs l, isNum z = true := by
  intro z hz
  have h1 := h z hz
  obtain ⟨n, -, rfl⟩ := List.mem_map.1 hz
  have h2 := zigOf_nn n
  simp [isNum]
  omega
def parOf (l : List Int) : Nat := (bestTo (zigs l) 24).1
theorem parOf_le (l : List Int) : parOf l ≤ 24 := bestTo_le _ _
/-- The residuals' digits. -/
def residD (l : List Int) : List Bool := dig (parOf l : Int) 5 ++ digs (zigs l) (parOf l)
/-- What every frame begins with. -/
def headD (kind : Int) (n : Nat) : List Bool := dig kind 8 ++ dig (n : Int) 8
@[simp] theorem length_headD (kind : Int) (n : Nat) : (headD kind n).length = 16 := by simp [headD]
def mayX (x : List Int) : Prop := 1 ≤ x.length ∧ x.length ≤ 64 ∧ allS x
instance (l : List Int) : Decidable (mayX l) := by unfold mayX; infer_instance
def allOne (x : List Int) : Prop := ∀ v ∈ x, v = x.getD 0 0
instance (l : List Int) : Decidable (allOne l) := by unfold allOne; infer_instance
/-- The digits of a frame of a kind, if there is one; s is the power of two of levin's Scaled. -/
def frm (kind : Int) (x : List Int) (s : Nat) : Option (List Bool) :=
  if ¬ mayX x ∨ kind < 0 ∨ 18 < kind then none
  else if kind = 0 then (if allOne x then some (headD kind x.length ++ sampD (x.getD 0 0)) else none)
  else if kind = 1 then some (headD kind x.length ++ sampsD x)
  else if kind ≤ 6 then
    (if (x.length : Int) < kind - 2 then none
     else if okZ (residZ x (kind - 2).toNat) then some (headD kind x.length ++ sampsD (x.take (kind - 2).toNat) ++ residD (residZ x (kind - 2).toNat)) else none)
  else if (coOut x (kind - 6) s).2 = true then
    (if okZ (lresidZ x (coOut x (kind - 6) s).1) then some (headD kind x.length ++ sampsD (x.take (kind - 6).toNat) ++ coefsD (coOut x (kind - 6) s).1 ++ residD (lresidZ x (coOut x (kind - 6) s).1)) else none)
  else none
/-- As: the bytes, and whether there are any. -/
def asOut (kind : Int) (x : List Int) (s : Nat) : List Nat × Bool := match frm kind x s with | none => ([], false) | some ds => (pack ds, true)
/-- The shortest frame of the first kinds; none yet: no digits. -/
def bestF (x : List Int) (s : Nat) : Nat → List Bool
  | 0 => []
  | j + 1 => match frm (j : Int) x s with
    | none => bestF x s j
    | some b => if (bestF x s j).length = 0 ∨ b.length < (bestF x s j).length then b else bestF x s j
/-- Encode: the bytes, and how it ends. -/
def encOut (x : List Int) (s : Nat) : List Nat × Int :=
  if x.length < 1 ∨ 64 < x.length then ([], 4) else if allS x then (pack (bestF x s 19), 0) else ([], 8)

/-- A number of so many digits, and what is left. -/
def takeD (ds : List Bool) (n : Nat) : Option (Nat × List Bool) := if n ≤ ds.length then some (num (ds.take n), ds.drop n) else none
def sampsT : Nat → List Bool → Option (List Int × List Bool)
  | 0, ds => some ([], ds)
  | n + 1, ds => (takeD ds 24).bind fun r => (sampsT n r.2).map fun q => ((((r.1 : Nat) : Int) - 8388608) :: q.1, q.2)
def coefsT : Nat → List Bool → Option (List Int × List Bool)
  | 0, ds => some ([], ds)
  | n + 1, ds => (takeD ds 16).bind fun r => (coefsT n r.2).map fun q => ((((r.1 : Nat) : Int) - 32768) :: q.1, q.2)
def ricesT (k : Nat) : Nat → List Bool → Option (List Int × List Bool)
  | 0, ds => some ([], ds)
  | n + 1, ds => if (riceOut ds (k : Int)).2.2 = true then (ricesT k n (ds.drop (riceOut ds (k : Int)).2.1)).map fun q => (zagOf ((riceOut ds (k : Int)).1 : Nat) :: q.1, q.2) else none
/-- How many samples a frame of a kind begins with. -/
def ordOf (kind n : Nat) : Nat := if kind = 0 then 1 else if kind = 1 then n else if kind ≤ 6 then kind - 2 else kind - 6
/-- The residuals and what is left. -/
def resT (n : Nat) (ds : List Bool) : Option (List Int × List Bool) := (takeD ds 5).bind fun r => if 24 < r.1 then none else ricesT r.1 n r.2
/-- What is behind the samples that a frame begins with: all its samples, and what is left. -/
def bodyT (kind n : Nat) (x : List Int) (ds : List Bool) : Option (List Int × List Bool) :=
  if kind = 0 then some (List.replicate n (x.getD 0 0), ds)
  else if kind = 1 then some (x, ds)
  else if kind ≤ 6 then (resT (n - ordOf kind n) ds).bind fun q => if (restOut x q.1).2 = 0 then some ((restOut x q.1).1, q.2) else none
  else (coefsT (ordOf kind n) ds).bind fun c => (resT (n - ordOf kind n) c.2).bind fun q => if (lrestOut x q.1 c.1).2 = 0 then some ((lrestOut x q.1 c.1).1, q.2) else none
/-- The samples of a frame's digits. -/
def decD (ds : List Bool) : Option (List Int) :=
  (takeD ds 8).bind fun r1 => (takeD r1.2 8).bind fun r2 =>
    if 18 < r1.1 ∨ r2.1 < 1 ∨ 64 < r2.1 ∨ r2.1 < ordOf r1.1 r2.1 ∨ (6 < r1.1 ∧ r2.1 ≤ ordOf r1.1 r2.1) then none
    else (sampsT (ordOf r1.1 r2.1) r2.2).bind fun q => (bodyT r1.1 r2.1 q.1 q.2).bind fun y => if noOnes y.2 = true then some y.1 else none
/-- The same without a look at what is left. -/
def decP (ds : List Bool) : Option (List Int × List Bool) :=
  (takeD ds 8).bind fun r1 => (takeD r1.2 8).bind fun r2 =>
    if 18 < r1.1 ∨ r2.1 < 1 ∨ 64 < r2.1 ∨ r2.1 < ordOf r1.1 r2.1 ∨ (6 < r1.1 ∧ r2.1 ≤ ordOf r1.1 r2.1) then none
    else (sampsT (ordOf r1.1 r2.1) r2.2).bind fun q => bodyT r1.1 r2.1 q.1 q.2
theorem decD_P (ds : List Bool) : decD ds = (decP ds).bind fun y => if noOnes y.2 = true then some y.1 else none := by
  unfold decD decP
  cases takeD ds 8 with
  | none => rfl
  | some r1 =>
    simp only [Option.bind_some]
    cases takeD r1.2 8 with
    | none => rfl
    | some r2 =>
      simp only [Option.bind_some]
      split
      · rfl
      · cases sampsT (ordOf r1.1 r2.1) r2.2 with
        | none => rfl
        | some q => rfl
/-- Decode: the samples, and how it ends (E: the number of the error). -/
def decOut (E : Int) (l : List Nat) : List Int × Int := match decD (unpack l) with | none => ([], E) | some x => (x, 0)
def kindOut (l : List Nat) : Int := match decD (unpack l) with | none => -1 | some _ => (l.getD 0 0 : Nat)

theorem takeD_app (v : Int) (n : Nat) (rest : List Bool) : takeD (dig v n ++ rest) n = some (num (dig v n), rest) := by
  unfold takeD
  rw [if_pos (by simp), List.take_left' (by simp), List.drop_left' (by simp)]
theorem takeD_dig {v : Int} {n : Nat} (h0 : 0 ≤ v) (h1 : v < 2 ^ n) (rest : List Bool) : takeD (dig v n ++ rest) n = some (v.toNat, rest) := by
  rw [takeD_app]
  have h2 := num_dig v n
  rw [Int.emod_eq_of_lt h0 h1] at h2
  have : num (dig v n) = v.toNat := by omega
  rw [this]
theorem sampsT_app (l : List Int) (h : allS l) (rest : List Bool) : sampsT l.length (sampsD l ++ rest) = some (l, rest) := by
  induction l with
  | nil => rfl
  | cons v l ih =>
    have hv := h v (by simp)
    unfold isS at hv
    rw [sampsD_cons, List.append_assoc, List.length_cons, sampsT]
    unfold sampD
    rw [takeD_dig (by omega) (by omega)]
    simp only [Option.bind_some]
    rw [ih (fun x hx => h x (by simp [hx]))]
    simp only [Option.map_some]
    have e : (((v + 8388608).toNat : Nat) : Int) - 8388608 = v := by omega
    rw [e]
theorem coefsT_app (l : List Int) (h : allC l) (rest : List Bool) : coefsT l.length (coefsD l ++ rest) = some (l, rest) := by
  induction l with
  | nil => rfl
  | cons v l ih =>
    have hv := h v (by simp)
    unfold isC at hv
    rw [coefsD_cons, List.append_assoc, List.length_cons, coefsT]
    unfold coefD
    rw [takeD_dig (by omega) (by omega)]
    simp only [Option.bind_some]
    rw [ih (fun x hx => h x (by simp [hx]))]
    simp only [Option.map_some]
    have e : (((v + 32768).toNat : Nat) : Int) - 32768 = v := by omega
    rw [e]
/-- Numbers with signs that are small enough for Zig. -/
def smallZ (l : List Int) : Prop := ∀ n ∈ l, -1099511627776 ≤ n ∧ n < 1099511627776
theorem zig_back {n : Int} (h1 : -1099511627776 ≤ n) (h2 : n < 1099511627776) : zagOf (zigOf n) = n := by
  unfold zigOf
  rw [if_neg (by omega)]
  split
  · unfold zagOf
    rw [if_neg (by omega), if_pos (by omega)]
    omega
  · unfold zagOf
    rw [if_neg (by omega), if_neg (by omega)]
    omega
theorem ricesT_app (l : List Int) (k : Nat) (hk : k ≤ 24) (hs : smallZ l) (hz : okZ l) (rest : List Bool) : ricesT k l.length (digs (zigs l) k ++ rest) = some (l, rest) := by
  induction l with
  | nil => rfl
  | cons n l ih =>
    have e : zigs (n :: l) = zigOf n :: zigs l := rfl
    have hn := hs n (by simp)
    have hz1 : zigOf n < 4294967296 := hz (zigOf n) (by rw [e]; simp)
    have hz0 := zigOf_nn n
    rw [e, digs_cons, List.append_assoc, List.length_cons, ricesT, riceOut_dig (zigOf n) k _ hz0 hz1 hk]
    simp only [if_true, List.drop_left']
    rw [ih (fun m hm => hs m (by simp [hm])) (fun z hzz => hz z (by rw [e]; simp [hzz]))]
    simp only [Option.map_some]
    have e2 : (((zigOf n).toNat : Nat) : Int) = zigOf n := by omega
    rw [e2, zig_back hn.1 hn.2]
theorem resT_app (l : List Int) (hs : smallZ l) (hz : okZ l) (rest : List Bool) : resT l.length (residD l ++ rest) = some (l, rest) := by
  have hp := parOf_le l
  unfold resT residD
  rw [List.append_assoc, takeD_dig (by omega) (by omega)]
  simp only [Option.bind_some, Int.toNat_natCast]
  rw [if_neg (by omega)]
  exact ricesT_app l (parOf l) hp hs hz rest
theorem noOnes_zeros (m : Nat) : noOnes (List.replicate m false) = true := by
  unfold noOnes
  simp
theorem residZ_smallZ (x : List Int) (n : Nat) (h4 : n ≤ 4) (hS : allS x) : smallZ (residZ x n) := fun y hy => by
  have := residZ_small x n h4 hS y hy
  omega
theorem lresidZ_smallZ (x c : List Int) (hS : allS x) : smallZ (lresidZ x c) := fun y hy => by
  unfold lresidZ at hy
  obtain ⟨j, hj, rfl⟩ := List.mem_map.1 hy
  have hj' := List.mem_range.1 hj
  have h1 := hS.at (k := c.length + j) (by omega)
  have h2 := lguess_small (x.take (c.length + j)) c
  unfold isS at h1
  omega
theorem coOut_true {x c : List Int} {o : Int} {s : Nat} (h : coOut x o s = (c, true)) : 1 ≤ o ∧ o ≤ 12 ∧ o < (x.length : Int) ∧ allC c ∧ (c.length : Int) = o := by
  unfold coOut at h
  split at h
  · cases h
  · rename_i hn
    split at h
    · rename_i hc
      cases h
      refine ⟨by omega, by omega, by omega, hc, ?_⟩
      rw [length_lev]
      omega
    · cases h
theorem decP_key {K : Nat} {t : List Bool} {x : List Int} (hK : K ≤ 18) (hm : mayX x) (D body : List Bool) (q : List Int × List Bool) (e : D = headD (K : Int) x.length ++ body) (h1 : ordOf K x.length ≤ x.length) (h2 : ¬ (6 < K ∧ x.length ≤ ordOf K x.length))
    (h3 : sampsT (ordOf K x.length) body = some q) (h4 : bodyT K x.length q.1 q.2 = some (x, t)) : decP D = some (x, t) := by
  obtain ⟨hx1, hx64, hS⟩ := hm
  rw [e]
  unfold decP headD
  rw [List.append_assoc, takeD_dig (by omega) (by omega)]
  simp only [Option.bind_some, Int.toNat_natCast]
  rw [takeD_dig (by omega) (by omega)]
  simp only [Option.bind_some, Int.toNat_natCast]
  rw [if_neg (by omega), h3]
  simp only [Option.bind_some]
  rw [h4]
theorem decP_const {x : List Int} {t : List Bool} (hm : mayX x) (hall : allOne x) : decP (headD 0 x.length ++ sampD (x.getD 0 0) ++ t) = some (x, t) := by
  refine decP_key (K := 0) (t := t) (by decide) hm _ (sampD (x.getD 0 0) ++ t) ([x.getD 0 0], t) (by rw [List.append_assoc]; rfl) (by have := hm.1; simp [ordOf]; omega) (by omega) ?_ ?_
  · have := sampsT_app [x.getD 0 0] (fun y hy => by simp at hy; subst hy; exact hm.2.2.atD 0) (t)
    rw [sampsD_cons, sampsD_nil, List.append_nil] at this
    exact this
  · unfold bodyT
    rw [if_pos rfl]
    have : List.replicate x.length (x.getD 0 0) = x := (List.eq_replicate_iff.2 ⟨rfl, hall⟩).symm
    simp only [List.getD_cons_zero]
    rw [this]
theorem decP_verb {x : List Int} {t : List Bool} (hm : mayX x) : decP (headD 1 x.length ++ sampsD x ++ t) = some (x, t) := by
  refine decP_key (K := 1) (t := t) (by decide) hm _ (sampsD x ++ t) (x, t) (by rw [List.append_assoc]; rfl) (by simp [ordOf]) (by omega) ?_ ?_
  · have e : ordOf 1 x.length = x.length := by simp [ordOf]
    rw [e]
    exact sampsT_app x hm.2.2 _
  · unfold bodyT
    rw [if_neg (by decide), if_pos rfl]
theorem decP_fixed {x : List Int} {t : List Bool} {n : Nat} (hm : mayX x) (hn4 : n ≤ 4) (hnx : n ≤ x.length) (hz : okZ (residZ x n)) : decP (headD ((n + 2 : Nat) : Int) x.length ++ sampsD (x.take n) ++ residD (residZ x n) ++ t) = some (x, t) := by
  obtain ⟨K, hK⟩ : ∃ K, K = n + 2 := ⟨_, rfl⟩
  rw [← hK]
  have eo : ordOf K x.length = n := by unfold ordOf; rw [if_neg (by omega), if_neg (by omega), if_pos (by omega)]; omega
  have hrl : (residZ x n).length = x.length - n := by simp
  refine decP_key (K := K) (t := t) (by omega) hm _ (sampsD (x.take n) ++ (residD (residZ x n) ++ t)) (x.take n, residD (residZ x n) ++ t) (by simp only [List.append_assoc]) (by omega) (by omega) ?_ ?_
  · have := sampsT_app (x.take n) (hm.2.2.take n) (residD (residZ x n) ++ t)
    rw [show (x.take n).length = n by simp; omega] at this
    rw [eo]
    exact this
  · unfold bodyT
    rw [if_neg (by omega), if_neg (by omega), if_pos (by omega), eo, ← hrl, resT_app _ (residZ_smallZ x n hn4 hm.2.2) hz]
    simp only [Option.bind_some]
    have := restOut_resid x n hn4 hnx hm.2.1 hm.2.2
    rw [← this]
    simp
theorem decP_lpc {x c : List Int} {t : List Bool} {n : Nat} (hm : mayX x) (hn1 : 1 ≤ n) (hn12 : n ≤ 12) (hnx : n < x.length) (hcn : c.length = n) (hC : allC c) (hz : okZ (lresidZ x c)) : decP (headD ((n + 6 : Nat) : Int) x.length ++ sampsD (x.take n) ++ coefsD c ++ residD (lresidZ x c) ++ t) = some (x, t) := by
  obtain ⟨K, hK⟩ : ∃ K, K = n + 6 := ⟨_, rfl⟩
  rw [← hK]
  have eo : ordOf K x.length = n := by unfold ordOf; rw [if_neg (by omega), if_neg (by omega), if_neg (by omega)]; omega
  have hrl : (lresidZ x c).length = x.length - n := by simp [hcn]
  refine decP_key (K := K) (t := t) (by omega) hm _ (sampsD (x.take n) ++ (coefsD c ++ (residD (lresidZ x c) ++ t))) (x.take n, coefsD c ++ (residD (lresidZ x c) ++ t)) (by simp only [List.append_assoc]) (by omega) (by omega) ?_ ?_
  · have := sampsT_app (x.take n) (hm.2.2.take n) (coefsD c ++ (residD (lresidZ x c) ++ t))
    rw [show (x.take n).length = n by simp; omega] at this
    rw [eo]
    exact this
  · unfold bodyT
    rw [if_neg (by omega), if_neg (by omega), if_neg (by omega), eo]
    have e1 := coefsT_app c hC (residD (lresidZ x c) ++ t)
    rw [hcn] at e1
    rw [e1]
    simp only [Option.bind_some]
    rw [← hrl, resT_app _ (lresidZ_smallZ x c hm.2.2) hz]
    simp only [Option.bind_some]
    have e2 := lrestOut_resid x c ⟨by omega, by omega, hC⟩ (by omega) hm.2.1 hm.2.2
    rw [hcn] at e2
    rw [← e2]
    simp
/-- What a frame of any kind, with anything behind it, is decoded to. -/
theorem decP_tail {kind : Int} {x : List Int} {s : Nat} {ds : List Bool} (h : frm kind x s = some ds) (t : List Bool) : decP (ds ++ t) = some (x, t) := by
  unfold frm at h
  by_cases hk : ¬ mayX x ∨ kind < 0 ∨ 18 < kind
  · rw [if_pos hk] at h; cases h
  rw [if_neg hk] at h
  have hm : mayX x := by
    by_cases hm : mayX x
    · exact hm
    · exact absurd (Or.inl hm) hk
  by_cases h0 : kind = 0
  · rw [if_pos h0] at h
    subst h0
    by_cases ha : allOne x
    · rw [if_pos ha] at h
      cases h
      exact decP_const hm ha
    · rw [if_neg ha] at h; cases h
  rw [if_neg h0] at h
  by_cases h1 : kind = 1
  · rw [if_pos h1] at h
    subst h1
    cases h
    exact decP_verb hm
  rw [if_neg h1] at h
  by_cases h6 : kind ≤ 6
  · rw [if_pos h6] at h
    by_cases hl : (x.length : Int) < kind - 2
    · rw [if_pos hl] at h; cases h
    rw [if_neg hl] at h
    obtain ⟨n, hn⟩ : ∃ n : Nat, kind = ((n + 2 : Nat) : Int) := ⟨(kind - 2).toNat, by omega⟩
    have e : (kind - 2).toNat = n := by omega
    rw [e] at h
    by_cases hz : okZ (residZ x n)
    · rw [if_pos hz] at h
      cases h
      rw [hn]
      exact decP_fixed hm (by omega) (by omega) hz
    · rw [if_neg hz] at h; cases h
  rw [if_neg h6] at h
  obtain ⟨⟨c, b⟩, hc⟩ : ∃ R, R = coOut x (kind - 6) s := ⟨_, rfl⟩
  rw [← hc] at h
  simp only at h
  cases b with
  | false => simp at h
  | true =>
    rw [if_pos rfl] at h
    obtain ⟨g1, g2, g3, g4, g5⟩ := coOut_true hc.symm
    obtain ⟨n, hn⟩ : ∃ n : Nat, kind = ((n + 6 : Nat) : Int) := ⟨(kind - 6).toNat, by omega⟩
    have e : (kind - 6).toNat = n := by omega
    rw [e] at h
    by_cases hz : okZ (lresidZ x c)
    · rw [if_pos hz] at h
      cases h
      rw [hn]
      exact decP_lpc hm (by omega) (by omega) (by omega) (by omega) g4 hz
    · rw [if_neg hz] at h; cases h
theorem decD_tail {kind : Int} {x : List Int} {s : Nat} {ds : List Bool} (h : frm kind x s = some ds) (t : List Bool) : decD (ds ++ t) = if noOnes t = true then some x else none := by
  rw [decD_P, decP_tail h]
  rfl
theorem decD_frm {kind : Int} {x : List Int} {s : Nat} {ds : List Bool} (h : frm kind x s = some ds) (m : Nat) : decD (ds ++ List.replicate m false) = some x := by
  rw [decD_tail h, if_pos (noOnes_zeros m)]

end Go.Proofs.YtlonnoapbfjomabGreat
