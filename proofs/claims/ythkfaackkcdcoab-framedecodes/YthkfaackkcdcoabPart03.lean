/- The texts FixMath, Fix1, Fix2, Fix3, Fix4, one behind the other. -/
import Derived.Test.YthkfaackkcdcoabPart02

/- Predictors over lists of numbers: coefficients, guesses, what is left, what is restored; no program. -/
namespace Go.Proofs.Ythkfaackkcdcoab
set_option linter.unusedVariables false
set_option linter.unusedSimpArgs false
open Go.RowKit Dg

/-- A sample that may be. -/
def isS (x : Int) : Prop := -8388608 ≤ x ∧ x ≤ 8388607
instance (x : Int) : Decidable (isS x) := by unfold isS; infer_instance
def allS (l : List Int) : Prop := ∀ x ∈ l, isS x
instance (l : List Int) : Decidable (allS l) := by unfold allS; infer_instance
theorem allS.take {l : List Int} (h : allS l) (n : Nat) : allS (l.take n) := fun x hx => h x (List.mem_of_mem_take hx)
theorem allS.snoc {l : List Int} (h : allS l) {x : Int} (hx : isS x) : allS (l ++ [x]) := by
  intro y hy
  rcases List.mem_append.1 hy with h1 | h1
  · exact h y h1
  · simp at h1; subst h1; exact hx
theorem getD_of {l : List Int} {k : Nat} {x : Int} (h : l[k]? = some x) : l.getD k 0 = x := by simp [List.getD, h]
theorem allS.at {l : List Int} (h : allS l) {k : Nat} (hk : k < l.length) : isS (l.getD k 0) := by
  have e : l[k]? = some l[k] := by simp [hk]
  rw [getD_of e]
  exact h _ (List.getElem_mem hk)
/-- The fixed predictors' coefficients. -/
def coefs (o : Int) : List Int := if o = 1 then [1] else if o = 2 then [2, -1] else if o = 3 then [3, -3, 1] else if o = 4 then [4, -6, 4, -1] else []
theorem coefs_of {o : Int} (h : o = 0 ∨ o = 1 ∨ o = 2 ∨ o = 3 ∨ o = 4) : (coefs o).length = o.toNat ∧ ∀ c ∈ coefs o, -6 ≤ c ∧ c ≤ 6 := by
  rcases h with rfl | rfl | rfl | rfl | rfl <;> simp [coefs]
theorem coefs_ge (o : Int) (h0 : 0 ≤ o) (h4 : o ≤ 4) : ((coefs o).length : Int) = o ∧ ∀ c ∈ coefs o, -6 ≤ c ∧ c ≤ 6 := by
  have h := coefs_of (o := o) (by omega)
  exact ⟨by have := h.1; omega, h.2⟩
theorem coefs_le (o : Int) : (coefs o).length ≤ 4 := by
  unfold coefs
  split
  · simp
  split
  · simp
  split
  · simp
  split <;> simp
/-- The first terms of a guess: each coefficient with the number that lies so far ahead. -/
def gsum (past cs : List Int) : Nat → Int
  | 0 => 0
  | k + 1 => gsum past cs k + cs.getD k 0 * past.getD (past.length - 1 - k) 0
def guessZ (past cs : List Int) : Int := gsum past cs cs.length
theorem mul_small {c x : Int} (hc : -6 ≤ c ∧ c ≤ 6) (hx : isS x) : -50331648 ≤ c * x ∧ c * x ≤ 50331648 := by
  unfold isS at hx
  rcases (by omega : c = -6 ∨ c = -5 ∨ c = -4 ∨ c = -3 ∨ c = -2 ∨ c = -1 ∨ c = 0 ∨ c = 1 ∨ c = 2 ∨ c = 3 ∨ c = 4 ∨ c = 5 ∨ c = 6) with rfl | rfl | rfl | rfl | rfl | rfl | rfl | rfl | rfl | rfl | rfl | rfl | rfl <;> omega
theorem gsum_small {past cs : List Int} (hS : allS past) (hC : ∀ c ∈ cs, -6 ≤ c ∧ c ≤ 6) (hl : cs.length ≤ past.length) (k : Nat) (hk : k ≤ cs.length) : -50331648 * (k : Int) ≤ gsum past cs k ∧ gsum past cs k ≤ 50331648 * (k : Int) := by
  induction k with
  | zero => simp [gsum]
  | succ k ih =>
    have ih := ih (by omega)
    have hk' : k < cs.length := by omega
    have e : cs[k]? = some cs[k] := by simp [hk']
    have h1 := mul_small (hC cs[k] (List.getElem_mem hk')) (hS.at (k := past.length - 1 - k) (by omega))
    simp only [gsum]
    rw [getD_of e]
    omega
theorem guess_small {past cs : List Int} (hS : allS past) (hC : ∀ c ∈ cs, -6 ≤ c ∧ c ≤ 6) (hl : cs.length ≤ past.length) (h4 : cs.length ≤ 4) : -201326592 ≤ guessZ past cs ∧ guessZ past cs ≤ 201326592 := by
  have := gsum_small hS hC hl cs.length (Nat.le_refl _)
  unfold guessZ
  omega
/-- What the predictor of an order leaves. -/
def residZ (l : List Int) (o : Nat) : List Int := (List.range (l.length - o)).map fun j => l.getD (o + j) 0 - guessZ (l.take (o + j)) (coefs (o : Int))
@[simp] theorem length_residZ (l : List Int) (o : Nat) : (residZ l o).length = l.length - o := by simp [residZ]
theorem residZ_get (l : List Int) (o i : Nat) (ho : o ≤ i) (hi : i < l.length) : (residZ l o)[i - o]? = some (l.getD i 0 - guessZ (l.take i) (coefs (o : Int))) := by
  unfold residZ
  rw [List.getElem?_map, List.getElem?_range (by omega)]
  simp only [Option.map_some]
  rw [show o + (i - o) = i by omega]
theorem residZ_next (l : List Int) (o i : Nat) (ho : o ≤ i) (hi : i < l.length) (y : Int) (hy : y = l.getD i 0 - guessZ (l.take i) (coefs (o : Int))) : (residZ l o).take (i + 1 - o) = (residZ l o).take (i - o) ++ [y] := by
  rw [show i + 1 - o = i - o + 1 by omega]
  exact take_next _ _ _ (by rw [hy]; exact residZ_get l o i ho hi)
/-- What Residual answers: the numbers, and how it ends. -/
def resOut (l : List Int) (o : Int) : List Int × Int :=
  if o < 0 ∨ 4 < o ∨ (l.length : Int) < o then ([], 1) else if allS l then (if 64 < l.length then ([], 4) else (residZ l o.toNat, 0)) else ([], 8)
/-- The samples that have these residuals, behind what is there; none: a sample that may not be. -/
def restZ (cs : List Int) : List Int → List Int → Option (List Int)
  | x, [] => some x
  | x, r :: rs => if isS (guessZ x cs + r) then restZ cs (x ++ [guessZ x cs + r]) rs else none
def restOut (warm res : List Int) : List Int × Int :=
  if 4 < warm.length then ([], 1) else if allS warm then (match restZ (coefs (warm.length : Int)) warm res with | none => ([], 8) | some x => if 64 < x.length then ([], 4) else (x, 0)) else ([], 8)
theorem restZ_good {cs x res : List Int} {j : Nat} {r : Int} (h : res[j]? = some r) (hs : isS (guessZ x cs + r)) (T : Option (List Int)) (hT : T = restZ cs x (res.drop j)) : T = restZ cs (x ++ [guessZ x cs + r]) (res.drop (j + 1)) := by
  have hj : j < res.length := (List.getElem?_eq_some_iff.1 h).1
  have e : res[j] = r := (List.getElem?_eq_some_iff.1 h).2
  rw [hT, List.drop_eq_getElem_cons hj, e]
  simp only [restZ]
  rw [if_pos hs]
theorem restZ_bad {cs x res : List Int} {j : Nat} {r : Int} (h : res[j]? = some r) (hs : ¬ isS (guessZ x cs + r)) (T : Option (List Int)) (hT : T = restZ cs x (res.drop j)) : T = none := by
  have hj : j < res.length := (List.getElem?_eq_some_iff.1 h).1
  have e : res[j] = r := (List.getElem?_eq_some_iff.1 h).2
  rw [hT, List.drop_eq_getElem_cons hj, e]
  simp only [restZ]
  rw [if_neg hs]
theorem restZ_end {cs x res : List Int} (T : Option (List Int)) (hT : T = restZ cs x (res.drop res.length)) : T = some x := by
  rw [hT, List.drop_length]
  rfl

end Go.Proofs.Ythkfaackkcdcoab

/- The small functions of fixed, and Residual. -/
namespace Go.Proofs.Ythkfaackkcdcoab
set_option linter.unusedVariables false
set_option linter.unusedSimpArgs false
open Go.RowKit Dg

set_option maxHeartbeats 1000000 in
theorem fcoefs_any (w : World) (o : Int) :
    Calls Try.prog 85 #[.int .i64 o] w fun e w' => ∃ v, e = .returned v ∧ OwnInts w' w.heap.size v (coefs o) ∧ Below w.heap.size w w' := by
  have hb : ∀ obj, Below w.heap.size w (w.alloc obj) := fun obj => (Below.refl _ _).alloc (Nat.le_refl _) _
  by_cases h1 : o = 1
  · subst h1
    go_enter Try.func85, Try.ntmps85
    go_wp2
    go_ret
    exact ⟨_, rfl, OwnInts.lit _ _ _ _ rfl (Nat.le_refl _) (by decide) _ rfl, hb _⟩
  by_cases h2 : o = 2
  · subst h2
    go_enter Try.func85, Try.ntmps85
    go_wp2
    go_ret
    exact ⟨_, rfl, OwnInts.lit _ _ _ _ rfl (Nat.le_refl _) (by decide) _ rfl, hb _⟩
  by_cases h3 : o = 3
  · subst h3
    go_enter Try.func85, Try.ntmps85
    go_wp2
    go_ret
    exact ⟨_, rfl, OwnInts.lit _ _ _ _ rfl (Nat.le_refl _) (by decide) _ rfl, hb _⟩
  by_cases h4 : o = 4
  · subst h4
    go_enter Try.func85, Try.ntmps85
    go_wp2
    go_ret
    exact ⟨_, rfl, OwnInts.lit _ _ _ _ rfl (Nat.le_refl _) (by decide) _ rfl, hb _⟩
  · have e : coefs o = [] := by simp [coefs, h1, h2, h3, h4]
    have HE : Hid (coefs o = []) := e
    clear e
    go_enter Try.func85, Try.ntmps85
    go_wp2
    go_ret
    exact ⟨_, rfl, by rw [HE.out]; exact OwnInts.nil _ _, Below.refl _ _⟩

set_option maxHeartbeats 1000000 in
theorem fare_any (w : World) (a : Option Addr) (cap : Nat) (l : List Int) (h : IntsAt w a l) (hl : l.length ≤ 1000000) (t : Bool) (ht : t = decide (allS l)) :
    Calls Try.prog 84 #[.slice a l.length cap] w fun e w' => e = .returned (.bool t) ∧ w = w' := by
  have H : Hid (IntsAt w a l) := h
  have HT : Hid (t = decide (allS l)) := ht
  clear h ht
  go_enter Try.func84, Try.ntmps84
  go_wp2
  go_loopw [7] (fun i wr => ∃ k : Nat, k ≤ l.length ∧ i = .int .i64 k ∧ Hid (allS (l.take k)) ∧ w = wr) (fun i _ => l.length - (intOf i).toNat)
  case atStart => exact ⟨0, Nat.zero_le _, rfl, fun x hx => by simp at hx, rfl⟩
  case round =>
    obtain ⟨k, hk, rfl, hall, rfl⟩ := hrel
    by_cases hkn : k < l.length
    · obtain ⟨x, hx⟩ : ∃ x, l[k]? = some x := ⟨l[k], by simp [hkn]⟩
      obtain ⟨b, off, rfl, hc⟩ := H.out k x hx
      have HX : Hid (l[k]? = some x) := hx
      clear hx
      have hbad : ¬ isS x → t = false := fun hn => by
        rw [HT.out]
        exact decide_eq_false (fun ha => hn (ha x (List.mem_of_getElem? HX.out)))
      by_cases hlo : x < -8388608
      · have ht := hbad (by unfold isS; omega)
        subst ht
        clear hbad
        go_wp2_with fail
        go_ret
        exact ⟨rfl, rfl⟩
      · by_cases hhi : 8388607 < x
        · have ht := hbad (by unfold isS; omega)
          subst ht
          clear hbad
          go_wp2_with fail
          go_ret
          exact ⟨rfl, rfl⟩
        · clear hbad
          go_wp2_with fail
          refine ⟨⟨k + 1, by omega, by go_num, ?_, by trivial⟩, by (simp [intOf]) <;> omega⟩
          show allS _
          rw [take_next l k x HX.out]
          exact hall.out.snoc (by unfold isS; omega)
    · have e : k = l.length := by omega
      subst e
      have ht : t = true := by
        have := hall.out
        rw [List.take_length] at this
        rw [HT.out]; exact decide_eq_true this
      subst ht
      go_wp2_with fail
      go_ret
      exact ⟨rfl, rfl⟩

set_option maxHeartbeats 1000000 in
theorem fguess_any (w : World) (a ca : Option Addr) (n cap cc : Nat) (past cs : List Int) (hn : past.length = n) (h : IntsAt w a past) (hc : IntsAt w ca cs) (hl : past.length ≤ 1000000) (hcl : cs.length ≤ past.length) (h4 : cs.length ≤ 4) (hS : allS past) (hC : ∀ c ∈ cs, -6 ≤ c ∧ c ≤ 6) (g : Int) (hg : g = guessZ past cs) :
    Calls Try.prog 86 #[.slice a n cap, .slice ca cs.length cc] w fun e w' => e = .returned (.int .i64 g) ∧ w = w' := by
  subst hn
  have H : Hid (IntsAt w a past) := h
  have HC : Hid (IntsAt w ca cs) := hc
  have HS : Hid (allS past) := hS
  have HCC : Hid (∀ c ∈ cs, -6 ≤ c ∧ c ≤ 6) := hC
  have HG : Hid (g = guessZ past cs) := hg
  clear h hc hS hC hg
  go_enter Try.func86, Try.ntmps86
  go_wp2
  go_loopw [5, 10] (fun s i wr => ∃ (k : Nat) (t : Int), k ≤ cs.length ∧ s = .int .i64 t ∧ i = .int .i64 k ∧ Hid (t = gsum past cs k) ∧ -201326592 ≤ t ∧ t ≤ 201326592 ∧ w = wr) (fun _ i _ => cs.length - (intOf i).toNat)
  case atStart => exact ⟨0, 0, Nat.zero_le _, rfl, rfl, rfl, by decide, by decide, rfl⟩
  case round =>
    obtain ⟨k, t, hk, rfl, rfl, ht, ht1, ht2, rfl⟩ := hrel
    by_cases hkn : k < cs.length
    · obtain ⟨c, hcx⟩ : ∃ x, cs[k]? = some x := ⟨cs[k], by simp [hkn]⟩
      obtain ⟨b1, o1, rfl, hc1⟩ := HC.out k c hcx
      obtain ⟨m, hm⟩ : ∃ m, m = past.length - 1 - k := ⟨_, rfl⟩
      have hml : m < past.length := by omega
      obtain ⟨x, hx⟩ : ∃ x, past[m]? = some x := ⟨past[m], by simp [hml]⟩
      obtain ⟨b2, o2, rfl, hc2⟩ := H.out m x hx
      have hmI : (past.length : Int) - 1 - (k : Int) = (m : Int) := by omega
      have hcs := HCC.out c (List.mem_of_getElem? hcx)
      have hxs := HS.out x (List.mem_of_getElem? hx)
      obtain ⟨p, hp⟩ : ∃ p, p = c * x := ⟨_, rfl⟩
      have hp12 := mul_small hcs hxs
      rw [← hp] at hp12
      obtain ⟨hp1, hp2⟩ := hp12
      have HP : Hid (c * x = p) := hp.symm
      have hnext : t + p = gsum past cs (k + 1) := by
        simp only [gsum]
        rw [getD_of hcx, ← hm, getD_of hx, ← hp, ← ht.out]
      have hb' := gsum_small HS.out HCC.out hcl (k + 1) (by omega)
      rw [← hnext] at hb'
      have hb1 : -201326592 ≤ t + p := by omega
      have hb2 : t + p ≤ 201326592 := by omega
      have HN : Hid (t + p = gsum past cs (k + 1)) := hnext
      clear hm hb' hnext hp hcs hxs hcx hx
      go_wp2_with fail
      rw [HP.out, Go.IntWalk.wrap64_in p (by omega), Go.IntWalk.wrap64_in (t + p) (by omega)]
      exact ⟨⟨k + 1, t + p, by omega, rfl, by go_num, HN, hb1, hb2, by trivial⟩, by (simp [intOf]) <;> omega⟩
    · have e : k = cs.length := by omega
      subst e
      have e2 : t = g := by rw [ht.out, HG.out]; rfl
      subst e2
      go_wp2_with fail
      go_ret
      exact ⟨rfl, rfl⟩

/-- What a function of a list and an error has given. -/
def Gave (w w' : World) (R : List Int × Int) (e : Ending) : Prop :=
  ∃ v, e = .returned (.tuple #[v, .int .i64 R.2]) ∧ OwnInts w' w.heap.size v R.1 ∧ Below w.heap.size w w'
theorem Gave.none {w w' : World} {R : List Int × Int} {k : Int} (hR : R = ([], k)) (hb : Below w.heap.size w w') : Gave w w' R (.returned (.tuple #[.slice none 0 0, .int .i64 k])) := by
  subst hR
  exact ⟨_, rfl, OwnInts.nil _ _, hb⟩

set_option maxRecDepth 100000 in
set_option maxHeartbeats 4000000 in
theorem fresid_any (w : World) (a : Option Addr) (cap : Nat) (l : List Int) (o : Int) (h : Ns w a cap l) (hl : l.length ≤ 1000000) (R : List Int × Int) (hR : R = resOut l o) :
    Calls Try.prog 73 #[.slice a l.length cap, .int .i64 o] w fun e w' => Gave w w' R e := by
  obtain ⟨i0, hi, hz0, hz1, hz2⟩ := info_parts Try.info3
  unfold resOut at hR
  by_cases h1 : o < 0
  · rw [if_pos (by omega)] at hR
    have HR : Hid (R = ([], 1)) := hR
    clear hR h
    go_enter Try.func73, Try.ntmps73
    go_wp2_with fail
    go_ret2
    exact Gave.none HR.out (Below.refl _ _)
  by_cases h2 : 4 < o
  · rw [if_pos (by omega)] at hR
    have HR : Hid (R = ([], 1)) := hR
    clear hR h
    go_enter Try.func73, Try.ntmps73
    go_wp2_with fail
    go_ret2
    exact Gave.none HR.out (Below.refl _ _)
  by_cases h3 : (l.length : Int) < o
  · rw [if_pos (by omega)] at hR
    have HR : Hid (R = ([], 1)) := hR
    clear hR h
    go_enter Try.func73, Try.ntmps73
    go_wp2_with fail
    go_ret2
    exact Gave.none HR.out (Below.refl _ _)
  rw [if_neg (by omega)] at hR
  obtain ⟨n, rfl⟩ := Int.eq_ofNat_of_zero_le (show 0 ≤ o by omega)
  have H : Hid (Ns w a cap l) := h
  clear h
  by_cases hS : allS l
  case neg =>
    rw [if_neg hS] at hR
    have HT : Hid (false = decide (allS l)) := (decide_eq_false hS).symm
    have HR : Hid (R = ([], 8)) := hR
    clear hR hS
    go_enter Try.func73, Try.ntmps73
    go_wp2_with (go_at_call 84; refine (fare_any _ _ _ _ H.out.at_ hl false HT.out).mono ?_; rintro e w1 ⟨rfl, rfl⟩)
    go_ret2
    exact Gave.none HR.out (Below.refl _ _)
  case pos =>
    rw [if_pos hS] at hR
    have HT : Hid (true = decide (allS l)) := (decide_eq_true hS).symm
    by_cases h64 : 64 < l.length
    · rw [if_pos h64] at hR
      have HR : Hid (R = ([], 4)) := hR
      clear hR hS
      go_enter Try.func73, Try.ntmps73
      go_wp2_with (go_at_call 84; refine (fare_any _ _ _ _ H.out.at_ hl true HT.out).mono ?_; rintro e w1 ⟨rfl, rfl⟩)
      go_ret2
      exact Gave.none HR.out (Below.refl _ _)
    · rw [if_neg h64, Int.toNat_natCast] at hR
      have HR : Hid (R = (residZ l n, 0)) := hR
      have HS : Hid (allS l) := hS
      clear hR hS
      have h4 : n ≤ 4 := by omega
      have hnl : n ≤ l.length := by omega
      obtain ⟨hcl, hcb⟩ := coefs_ge (n : Int) (by omega) (by omega)
      obtain ⟨cs, hcs⟩ : ∃ cs, cs = coefs (n : Int) := ⟨_, rfl⟩
      rw [← hcs] at hcl hcb
      have HCS : Hid (coefs (n : Int) = cs) := hcs.symm
      have HCB : Hid (∀ c ∈ cs, -6 ≤ c ∧ c ≤ 6) := hcb
      have hcl' : cs.length = n := by omega
      have HCL : Hid (cs.length = n) := hcl'
      clear hcs hcb hcl hcl' h1 h2 h3
      go_enter Try.func73, Try.ntmps73
      go_wp2_with first
        | (go_at_call 84; refine (fare_any _ _ _ _ H.out.at_ hl true HT.out).mono ?_; rintro e w1 ⟨rfl, rfl⟩)
        | (go_at_call 85; refine (fcoefs_any _ _).mono ?_; rw [HCS.out]; rintro e w1 ⟨cv, rfl, hco, hb1⟩; obtain ⟨ca, cc, rfl, hcn, -, -⟩ := hco.ns; have HC1 : Hid (IntsAt w1 ca cs) := hcn.at_; have HB1 : Hid (Below w.heap.size w w1) := hb1; clear hco hcn hb1)
      have hsw : w.heap.size ≤ w1.heap.size := HB1.out.size
      go_loopw [7, 8] (fun v i wr => ∃ (k : Nat), n ≤ k ∧ k ≤ l.length ∧ i = .int .i64 (k : Int) ∧ Hid (OwnInts wr w1.heap.size v ((residZ l n).take (k - n))) ∧ Hid (Below w1.heap.size w1 wr)) (fun _ i _ => l.length - (intOf i).toNat)
      case atStart => exact ⟨n, Nat.le_refl _, hnl, rfl, by rw [Nat.sub_self]; exact OwnInts.nil _ _, Below.refl _ _⟩
      case round =>
        obtain ⟨k, hnk, hkl, rfl, ho, hb⟩ := hrel
        by_cases hk : k < l.length
        · obtain ⟨x, hx⟩ : ∃ x, l[k]? = some x := ⟨l[k], by simp [hk]⟩
          have hbw : Below w.heap.size w wr := HB1.out.trans (hb.out.mono hsw)
          have hat := H.out.at_.mono hbw
          obtain ⟨b, off, rfl, hc⟩ := hat k x hx
          have hs1 := slice_ints (some ⟨b, off, none⟩) l.length cap k (by have := H.out.le; omega)
          have HTL : Hid ((l.take k).length = k) := by show _ = _; simp; omega
          have HTK : Hid (IntsAt wr (some ⟨b, off, none⟩) (l.take k)) := hat.take k
          have HTS : Hid (allS (l.take k)) := HS.out.take k
          have HC2 : Hid (IntsAt wr ca cs) := HC1.out.mono hb.out
          obtain ⟨g, hg⟩ : ∃ g, g = guessZ (l.take k) cs := ⟨_, rfl⟩
          have HG : Hid (g = guessZ (l.take k) cs) := hg
          have hgb := guess_small HTS.out HCB.out (by rw [HTL.out, HCL.out]; exact hnk) (by rw [HCL.out]; exact h4)
          rw [← hg] at hgb
          obtain ⟨hg1, hg2⟩ := hgb
          obtain ⟨hx1, hx2⟩ := HS.out x (List.mem_of_getElem? hx)
          obtain ⟨y, hy⟩ : ∃ y, y = x - g := ⟨_, rfl⟩
          have HNX : Hid ((residZ l n).take (k + 1 - n) = (residZ l n).take (k - n) ++ [x - g]) := residZ_next l n k hnk hk _ (by rw [getD_of hx, HCS.out, ← hg])
          have hol : ((residZ l n).take (k - n)).length ≤ 1000000 := by simp; omega
          have hsz : w1.heap.size ≤ wr.heap.size := hb.out.size
          clear hx hg hat hbw
          go_wp2_with fail
          have HW : Hid (IntKind.i64.wrap (x - g) = x - g) := Go.IntWalk.i64_in _ (by omega)
          go_region_law first
            | (go_simp; go_at_call 86; refine (fguess_any wr.drew _ _ _ _ _ _ _ HTL.out HTK.out HC2.out (by rw [HTL.out]; omega) (by rw [HTL.out, HCL.out]; exact hnk) (by rw [HCL.out]; exact h4) HTS.out HCB.out g HG.out).mono ?_; rintro e w2 ⟨rfl, rfl⟩)
            | (refine step_append_int wr.drew rfl (.tmp 36) (.tmp 47) 24 rfl w1.heap.size i0 Try.underlying24 hi hz0 hz1 hz2 u7 ((residZ l n).take (k - n)) (by rfl) (World.ownsRow.drew ho.out) (IntKind.i64.wrap (x - g)) (by rfl) hol hsz ?_; intro v' w' h1 h2)
          all_goals
            rw [HW.out, ← HNX.out] at h1
            have HB' : Hid (Below w1.heap.size w1 w') := hb.out.drew.trans h2.out
            clear h2
            go_wp2_with fail
            exact ⟨⟨k + 1, by omega, by omega, by go_num, h1, HB'⟩, by (simp [intOf]) <;> omega⟩
        · have e : k = l.length := by omega
          subst e
          have ho' := ho.out
          rw [List.take_of_length_le (by simp)] at ho'
          have HO : Hid (OwnInts wr w1.heap.size _ (residZ l n)) := ho'
          have hbw : Hid (Below w.heap.size w wr) := HB1.out.trans (hb.out.mono hsw)
          clear ho ho' hb
          go_wp2_with fail
          go_ret2
          rw [HR.out]
          exact ⟨_, rfl, HO.out.base hsw, hbw.out⟩

end Go.Proofs.Ythkfaackkcdcoab

/- Restore, of the program. -/
namespace Go.Proofs.Ythkfaackkcdcoab
set_option linter.unusedVariables false
set_option linter.unusedSimpArgs false
open Go.RowKit Dg

theorem restOut_none {warm res : List Int} (h4 : ¬ 4 < warm.length) (hS : allS warm) (h : restZ (coefs (warm.length : Int)) warm res = none) : restOut warm res = ([], 8) := by
  unfold restOut
  rw [if_neg h4, if_pos hS, h]
theorem restOut_long {warm res x : List Int} (h4 : ¬ 4 < warm.length) (hS : allS warm) (h : restZ (coefs (warm.length : Int)) warm res = some x) (hx : 64 < x.length) : restOut warm res = ([], 4) := by
  unfold restOut
  rw [if_neg h4, if_pos hS, h]
  simp [hx]
theorem restOut_some {warm res x : List Int} (h4 : ¬ 4 < warm.length) (hS : allS warm) (h : restZ (coefs (warm.length : Int)) warm res = some x) (hx : ¬ 64 < x.length) : restOut warm res = (x, 0) := by
  unfold restOut
  rw [if_neg h4, if_pos hS, h]
  simp [hx]

set_option maxRecDepth 100000 in
set_option maxHeartbeats 4000000 in
theorem frest_any (w : World) (a ra : Option Addr) (cap rc : Nat) (warm res : List Int) (h : Ns w a cap warm) (hr : IntsAt w ra res) (hl : warm.length ≤ 100000) (hrl : res.length ≤ 100000) (hI : ∀ x ∈ res, I64 x) (R : List Int × Int) (hR : R = restOut warm res) :
    Calls Try.prog 66 #[.slice a warm.length cap, .slice ra res.length rc] w fun e w' => Gave w w' R e := by
  obtain ⟨i0, hi, hz0, hz1, hz2⟩ := info_parts Try.info3
  have H : Hid (Ns w a cap warm) := h
  have HRI : Hid (IntsAt w ra res) := hr
  have HI : Hid (∀ x ∈ res, I64 x) := hI
  clear h hr hI
  by_cases h4 : 4 < warm.length
  · have HR : Hid (R = ([], 1)) := by show _ = _; rw [hR]; unfold restOut; rw [if_pos h4]
    clear hR
    go_enter Try.func66, Try.ntmps66
    go_wp2_with fail
    go_ret2
    exact Gave.none HR.out (Below.refl _ _)
  by_cases hS : allS warm
  case neg =>
    have HR : Hid (R = ([], 8)) := by show _ = _; rw [hR]; unfold restOut; rw [if_neg h4, if_neg hS]
    have HT : Hid (false = decide (allS warm)) := (decide_eq_false hS).symm
    clear hR hS
    go_enter Try.func66, Try.ntmps66
    go_wp2_with (go_at_call 84; refine (fare_any _ _ _ _ H.out.at_ (by omega) false HT.out).mono ?_; rintro e w1 ⟨rfl, rfl⟩)
    go_ret2
    exact Gave.none HR.out (Below.refl _ _)
  case pos =>
    have HT : Hid (true = decide (allS warm)) := (decide_eq_true hS).symm
    have HR : Hid (R = restOut warm res) := hR
    have HS : Hid (allS warm) := hS
    clear hR hS
    obtain ⟨hcl, hcb⟩ := coefs_ge (warm.length : Int) (by omega) (by omega)
    obtain ⟨cs, hcs⟩ : ∃ cs, cs = coefs (warm.length : Int) := ⟨_, rfl⟩
    rw [← hcs] at hcl hcb
    have HCS : Hid (coefs (warm.length : Int) = cs) := hcs.symm
    have HCB : Hid (∀ c ∈ cs, -6 ≤ c ∧ c ≤ 6) := hcb
    have HCL : Hid (cs.length = warm.length) := by show _ = _; omega
    obtain ⟨T, hT⟩ : ∃ T, T = restZ cs warm res := ⟨_, rfl⟩
    have HTT : Hid (T = restZ cs warm res) := hT
    clear hcs hcb hcl hT
    go_enter Try.func66, Try.ntmps66
    go_wp2_with first
      | (go_at_call 84; refine (fare_any _ _ _ _ H.out.at_ (by omega) true HT.out).mono ?_; rintro e w1 ⟨rfl, rfl⟩)
      | (go_at_call 85; refine (fcoefs_any _ _).mono ?_; rw [HCS.out]; rintro e w1 ⟨cv, rfl, hco, hb1⟩; obtain ⟨ca, cc, rfl, hcn, -, -⟩ := hco.ns; have HC1 : Hid (IntsAt w1 ca cs) := hcn.at_; have HB1 : Hid (Below w.heap.size w w1) := hb1; clear hco hcn hb1)
      | (at_builtin; go_must (refine wpList_append_ints _ rfl (.tmp 20) (.tmp 21) rfl w1.heap.size _ [] rfl (OwnInts.lit w1 w1.heap.size [] 0 rfl (Nat.le_refl _) (by decide) #[] rfl) a cap warm rfl ((H.out.mono HB1.out).mono ((Below.refl _ _).alloc (Nat.le_refl _) _)) (by simp; omega) (by simp) ?_))
    intro v2 w2 hv2 hk2 hd2
    have hsw : w.heap.size ≤ w1.heap.size := HB1.out.size
    have HB2 : Hid (Below w1.heap.size w1 w2) := hk2.out.below_of ((Below.refl _ _).alloc (Nat.le_refl _) _) (fun k hk => by cases hk; exact Nat.le_refl _) (by simp)
    clear hk2 hd2
    go_wp2_with fail
    go_loopw [7, 25] (fun v i wr => ∃ (k : Nat) (x : List Int), k ≤ res.length ∧ i = .int .i64 (k : Int) ∧ x.length ≤ 1000000 ∧ Hid (x.length = warm.length + k) ∧ Hid (allS x) ∧ Hid (T = restZ cs x (res.drop k)) ∧ Hid (OwnInts wr w1.heap.size v x) ∧ Hid (Below w1.heap.size w1 wr)) (fun _ i _ => res.length - (intOf i).toNat)
    case atStart => exact ⟨0, warm, Nat.zero_le _, rfl, by omega, rfl, HS.out, HTT.out, hv2.out, HB2.out⟩
    case round =>
      obtain ⟨k, x, hk, rfl, hxl, HXL, hxs, ht, ho, hb⟩ := hrel
      obtain ⟨xa, xc, rfl, hxn, -, -⟩ := ho.out.ns
      have HXA : Hid (IntsAt wr xa x) := hxn.at_
      have hsz : w1.heap.size ≤ wr.heap.size := hb.out.size
      have hbw : Hid (Below w.heap.size w wr) := HB1.out.trans (hb.out.mono hsw)
      clear hxn
      by_cases hkn : k < res.length
      · obtain ⟨r, hrx⟩ : ∃ x, res[k]? = some x := ⟨res[k], by simp [hkn]⟩
        obtain ⟨b, off, rfl, hc⟩ := HRI.out.mono hbw.out k r hrx
        obtain ⟨hr1, hr2⟩ := HI.out r (List.mem_of_getElem? hrx)
        have HC2 : Hid (IntsAt wr ca cs) := HC1.out.mono hb.out
        obtain ⟨g, hg⟩ : ∃ g, g = guessZ x cs := ⟨_, rfl⟩
        have HG : Hid (g = guessZ x cs) := hg
        have hcx : Hid (cs.length ≤ x.length) := by show _ ≤ _; rw [HXL.out, HCL.out]; omega
        have hc4 : Hid (cs.length ≤ 4) := by show _ ≤ _; rw [HCL.out]; omega
        have hgb := guess_small hxs.out HCB.out hcx.out hc4.out
        rw [← hg] at hgb
        obtain ⟨hg1, hg2⟩ := hgb
        have HX : Hid (res[k]? = some r) := hrx
        clear hrx hg
        have hbad : ¬ isS (g + r) → R = ([], 8) := fun hn => by
          rw [HR.out]
          refine restOut_none h4 HS.out ?_
          rw [HCS.out, ← HTT.out]
          exact restZ_bad HX.out (by rw [← HG.out]; exact hn) T ht.out
        by_cases hlo : r < -8388608 - g
        · have HR8 : Hid (R = ([], 8)) := hbad (by unfold isS; omega)
          clear hbad
          go_wp2_with (go_at_call 86; refine (fguess_any wr _ _ _ _ _ _ _ rfl HXA.out HC2.out hxl hcx.out hc4.out hxs.out HCB.out g HG.out).mono ?_; rintro e w3 ⟨rfl, rfl⟩)
          go_ret2
          exact Gave.none HR8.out hbw.out
        by_cases hhi : 8388607 - g < r
        · have HR8 : Hid (R = ([], 8)) := hbad (by unfold isS; omega)
          clear hbad
          go_wp2_with (go_at_call 86; refine (fguess_any wr _ _ _ _ _ _ _ rfl HXA.out HC2.out hxl hcx.out hc4.out hxs.out HCB.out g HG.out).mono ?_; rintro e w3 ⟨rfl, rfl⟩)
          go_ret2
          exact Gave.none HR8.out hbw.out
        · clear hbad
          have HSR : Hid (isS (g + r)) := by show isS _; unfold isS; omega
          go_wp2_with first
            | (go_at_call 86; refine (fguess_any wr _ _ _ _ _ _ _ rfl HXA.out HC2.out hxl hcx.out hc4.out hxs.out HCB.out g HG.out).mono ?_; rintro e w3 ⟨rfl, rfl⟩)
            | (at_builtin; go_must (refine wpList_append_int _ rfl (.tmp 42) (.tmp 46) 24 rfl w1.heap.size i0 Try.underlying24 hi hz0 hz1 hz2 _ x rfl ho.out (g + r) rfl hxl hsz ?_))
          intro v' w' h1 h2
          have HB' : Hid (Below w1.heap.size w1 w') := hb.out.trans h2.out
          have hxl' : (x ++ [g + r]).length ≤ 1000000 := by have := HXL.out; simp; omega
          have HXL' : Hid ((x ++ [g + r]).length = warm.length + (k + 1)) := by show _ = _; rw [List.length_append, HXL.out]; rfl
          have HT' : Hid (T = restZ cs (x ++ [g + r]) (res.drop (k + 1))) := by
            have := restZ_good HX.out (by rw [← HG.out]; exact HSR.out) T ht.out
            rw [← HG.out] at this
            exact this
          clear h2
          go_wp2_with fail
          exact ⟨⟨k + 1, x ++ [g + r], by omega, by go_num, hxl', HXL', hxs.out.snoc HSR.out, HT', h1, HB'⟩, by (simp [intOf]) <;> omega⟩
      · have e : k = res.length := by omega
        subst e
        have HX : Hid (restZ (coefs (warm.length : Int)) warm res = some x) := by
          show _ = _
          rw [HCS.out, ← HTT.out]
          exact restZ_end T ht.out
        by_cases h64 : 64 < x.length
        · have HR4 : Hid (R = ([], 4)) := by show _ = _; rw [HR.out]; exact restOut_long h4 HS.out HX.out h64
          go_wp2_with fail
          go_ret2
          exact Gave.none HR4.out hbw.out
        · have HR0 : Hid (R = (x, 0)) := by show _ = _; rw [HR.out]; exact restOut_some h4 HS.out HX.out h64
          go_wp2_with fail
          go_ret2
          rw [HR0.out]
          exact ⟨_, rfl, ho.out.base hsw, hbw.out⟩

end Go.Proofs.Ythkfaackkcdcoab

/- The document's own answers: May, Fixed, told, Residual, Restore. -/
namespace Go.Proofs.Ythkfaackkcdcoab
set_option linter.unusedVariables false
set_option linter.unusedSimpArgs false
open Go.RowKit Dg

set_option maxHeartbeats 1000000 in
theorem rcoefs_any (w : World) (o : Int) :
    Calls Try.prog 70 #[.int .i64 o] w fun e w' => ∃ v, e = .returned v ∧ OwnInts w' w.heap.size v (coefs o) ∧ Below w.heap.size w w' := by
  have hb : ∀ obj, Below w.heap.size w (w.alloc obj) := fun obj => (Below.refl _ _).alloc (Nat.le_refl _) _
  by_cases h1 : o = 1
  · subst h1
    go_enter Try.func70, Try.ntmps70
    go_wp2
    go_ret
    exact ⟨_, rfl, OwnInts.lit _ _ _ _ rfl (Nat.le_refl _) (by decide) _ rfl, hb _⟩
  by_cases h2 : o = 2
  · subst h2
    go_enter Try.func70, Try.ntmps70
    go_wp2
    go_ret
    exact ⟨_, rfl, OwnInts.lit _ _ _ _ rfl (Nat.le_refl _) (by decide) _ rfl, hb _⟩
  by_cases h3 : o = 3
  · subst h3
    go_enter Try.func70, Try.ntmps70
    go_wp2
    go_ret
    exact ⟨_, rfl, OwnInts.lit _ _ _ _ rfl (Nat.le_refl _) (by decide) _ rfl, hb _⟩
  by_cases h4 : o = 4
  · subst h4
    go_enter Try.func70, Try.ntmps70
    go_wp2
    go_ret
    exact ⟨_, rfl, OwnInts.lit _ _ _ _ rfl (Nat.le_refl _) (by decide) _ rfl, hb _⟩
  · have e : coefs o = [] := by simp [coefs, h1, h2, h3, h4]
    have HE : Hid (coefs o = []) := e
    clear e
    go_enter Try.func70, Try.ntmps70
    go_wp2
    go_ret
    exact ⟨_, rfl, by rw [HE.out]; exact OwnInts.nil _ _, Below.refl _ _⟩

def mayZ (l : List Int) : Int := if allS l then (if 64 < l.length then 4 else 0) else 8
set_option maxHeartbeats 1000000 in
theorem rmay_any (w : World) (a : Option Addr) (cap : Nat) (l : List Int) (h : IntsAt w a l) (hl : l.length ≤ 1000000) (t : Int) (ht : t = mayZ l) :
    Calls Try.prog 47 #[.slice a l.length cap] w fun e w' => e = .returned (.int .i64 t) ∧ w = w' := by
  have H : Hid (IntsAt w a l) := h
  have HT : Hid (t = mayZ l) := ht
  clear h ht
  go_enter Try.func47, Try.ntmps47
  go_wp2
  go_loopw [6] (fun i wr => ∃ k : Nat, k ≤ l.length ∧ i = .int .i64 k ∧ Hid (allS (l.take k)) ∧ w = wr) (fun i _ => l.length - (intOf i).toNat)
  case atStart => exact ⟨0, Nat.zero_le _, rfl, fun x hx => by simp at hx, rfl⟩
  case round =>
    obtain ⟨k, hk, rfl, hall, rfl⟩ := hrel
    by_cases hkn : k < l.length
    · obtain ⟨x, hx⟩ : ∃ x, l[k]? = some x := ⟨l[k], by simp [hkn]⟩
      obtain ⟨b, off, rfl, hc⟩ := H.out k x hx
      have HX : Hid (l[k]? = some x) := hx
      clear hx
      have hbad : ¬ isS x → t = 8 := fun hn => by
        rw [HT.out]
        unfold mayZ
        rw [if_neg (fun ha => hn (ha x (List.mem_of_getElem? HX.out)))]
      by_cases hlo : x < -8388608
      · have ht := hbad (by unfold isS; omega)
        subst ht
        clear hbad
        go_wp2_with fail
        go_ret
        exact ⟨rfl, rfl⟩
      · by_cases hhi : 8388607 < x
        · have ht := hbad (by unfold isS; omega)
          subst ht
          clear hbad
          go_wp2_with fail
          go_ret
          exact ⟨rfl, rfl⟩
        · clear hbad
          go_wp2_with fail
          refine ⟨⟨k + 1, by omega, by go_num, ?_, by trivial⟩, by (simp [intOf]) <;> omega⟩
          show allS _
          rw [take_next l k x HX.out]
          exact hall.out.snoc (by unfold isS; omega)
    · have e : k = l.length := by omega
      subst e
      have ha := hall.out
      rw [List.take_length] at ha
      have ht : t = if 64 < l.length then 4 else 0 := by
        rw [HT.out]
        unfold mayZ
        rw [if_pos ha]
      clear ha hall
      by_cases h64 : 64 < l.length
      · rw [if_pos h64] at ht
        subst ht
        go_wp2_with fail
        go_ret
        exact ⟨rfl, rfl⟩
      · rw [if_neg h64] at ht
        subst ht
        go_wp2_with fail
        go_ret
        exact ⟨rfl, rfl⟩

set_option maxHeartbeats 1000000 in
theorem rtold_any (w : World) (a : Option Addr) (n cap : Nat) (past : List Int) (o : Int) (hn : past.length = n) (h : IntsAt w a past) (hl : past.length ≤ 1000000) (cs : List Int) (hcs : coefs o = cs) (hcl : cs.length ≤ past.length) (h4 : cs.length ≤ 4) (hS : allS past) (hC : ∀ c ∈ cs, -6 ≤ c ∧ c ≤ 6) (g : Int) (hg : g = guessZ past cs) :
    Calls Try.prog 48 #[.slice a n cap, .int .i64 o] w fun e w' => e = .returned (.int .i64 g) ∧ Below w.heap.size w w' := by
  subst hn
  have H : Hid (IntsAt w a past) := h
  have HCS : Hid (coefs o = cs) := hcs
  have HS : Hid (allS past) := hS
  have HCC : Hid (∀ c ∈ cs, -6 ≤ c ∧ c ≤ 6) := hC
  have HG : Hid (g = guessZ past cs) := hg
  clear h hS hC hg hcs
  go_enter Try.func48, Try.ntmps48
  go_wp2_with (go_at_call 70; refine (rcoefs_any _ _).mono ?_; rw [HCS.out]; rintro e w1 ⟨cv, rfl, hco, hb1⟩; obtain ⟨ca, cc, rfl, hcn, -, -⟩ := hco.ns; have HC1 : Hid (IntsAt w1 ca cs) := hcn.at_; have HB1 : Hid (Below w.heap.size w w1) := hb1; clear hco hcn hb1)
  have H1 : Hid (IntsAt w1 a past) := H.out.mono HB1.out
  clear H
  go_loopw [6, 12] (fun s i wr => ∃ (k m : Nat) (t : Int), k ≤ cs.length ∧ s = .int .i64 t ∧ i = .int .i64 k ∧ Hid (t = gsum past cs k) ∧ -201326592 ≤ t ∧ t ≤ 201326592 ∧ wr = w1.drewN m) (fun _ i _ => cs.length - (intOf i).toNat)
  case atStart => exact ⟨0, 0, 0, Nat.zero_le _, rfl, rfl, rfl, by decide, by decide, rfl⟩
  case round =>
    obtain ⟨k, n, t, hk, rfl, rfl, ht, ht1, ht2, rfl⟩ := hrel
    by_cases hkn : k < cs.length
    · obtain ⟨c, hcx⟩ : ∃ x, cs[k]? = some x := ⟨cs[k], by simp [hkn]⟩
      obtain ⟨b1, o1, rfl, hc1⟩ := HC1.out k c hcx
      obtain ⟨m, hm⟩ : ∃ m, m = past.length - 1 - k := ⟨_, rfl⟩
      have hml : m < past.length := by omega
      obtain ⟨x, hx⟩ : ∃ x, past[m]? = some x := ⟨past[m], by simp [hml]⟩
      obtain ⟨b2, o2, rfl, hc2⟩ := H1.out m x hx
      have hmI : (past.length : Int) - 1 - (k : Int) = (m : Int) := by omega
      have hcs := HCC.out c (List.mem_of_getElem? hcx)
      have hxs := HS.out x (List.mem_of_getElem? hx)
      obtain ⟨p, hp⟩ : ∃ p, p = c * x := ⟨_, rfl⟩
      have hp12 := mul_small hcs hxs
      rw [← hp] at hp12
      obtain ⟨hp1, hp2⟩ := hp12
      have HP : Hid (c * x = p) := hp.symm
      have hnext : t + p = gsum past cs (k + 1) := by
        simp only [gsum]
        rw [getD_of hcx, ← hm, getD_of hx, ← hp, ← ht.out]
      have hb' := gsum_small HS.out HCC.out hcl (k + 1) (by omega)
      rw [← hnext] at hb'
      have hb1 : -201326592 ≤ t + p := by omega
      have hb2 : t + p ≤ 201326592 := by omega
      have HN : Hid (t + p = gsum past cs (k + 1)) := hnext
      clear hm hb' hnext hp hcs hxs hcx hx
      go_wp2_with fail
      go_region
      all_goals go_wp2_with fail
      all_goals
        rw [HP.out, Go.IntWalk.wrap64_in p (by omega), Go.IntWalk.wrap64_in (t + p) (by omega)]
        exact ⟨⟨k + 1, n + 1, t + p, by omega, rfl, by go_num, HN, hb1, hb2, rfl⟩, by (simp [intOf]) <;> omega⟩
    · have e : k = cs.length := by omega
      subst e
      have e2 : t = g := by rw [ht.out, HG.out]; rfl
      subst e2
      go_wp2_with fail
      go_ret
      exact ⟨rfl, below_drewN HB1.out n⟩

set_option maxRecDepth 100000 in
set_option maxHeartbeats 4000000 in
theorem rresid_any (w : World) (a : Option Addr) (cap : Nat) (l : List Int) (o : Int) (h : Ns w a cap l) (hl : l.length ≤ 1000000) (R : List Int × Int) (hR : R = resOut l o) :
    Calls Try.prog 59 #[.slice a l.length cap, .int .i64 o] w fun e w' => Gave w w' R e := by
  obtain ⟨i0, hi, hz0, hz1, hz2⟩ := info_parts Try.info3
  unfold resOut at hR
  by_cases h1 : o < 0
  · rw [if_pos (by omega)] at hR
    have HR : Hid (R = ([], 1)) := hR
    clear hR h
    go_enter Try.func59, Try.ntmps59
    go_wp2_with fail
    go_ret2
    exact Gave.none HR.out (Below.refl _ _)
  by_cases h2 : 4 < o
  · rw [if_pos (by omega)] at hR
    have HR : Hid (R = ([], 1)) := hR
    clear hR h
    go_enter Try.func59, Try.ntmps59
    go_wp2_with fail
    go_ret2
    exact Gave.none HR.out (Below.refl _ _)
  by_cases h3 : (l.length : Int) < o
  · rw [if_pos (by omega)] at hR
    have HR : Hid (R = ([], 1)) := hR
    clear hR h
    go_enter Try.func59, Try.ntmps59
    go_wp2_with fail
    go_ret2
    exact Gave.none HR.out (Below.refl _ _)
  rw [if_neg (by omega)] at hR
  obtain ⟨n, rfl⟩ := Int.eq_ofNat_of_zero_le (show 0 ≤ o by omega)
  have H : Hid (Ns w a cap l) := h
  clear h
  by_cases hS : allS l
  case neg =>
    rw [if_neg hS] at hR
    have HT : Hid (8 = mayZ l) := by show _ = _; unfold mayZ; rw [if_neg hS]
    have HR : Hid (R = ([], 8)) := hR
    clear hR hS
    go_enter Try.func59, Try.ntmps59
    go_wp2_with (go_at_call 47; refine (rmay_any _ _ _ _ H.out.at_ hl 8 HT.out).mono ?_; rintro e w1 ⟨rfl, rfl⟩)
    go_ret2
    exact Gave.none HR.out (Below.refl _ _)
  case pos =>
    rw [if_pos hS] at hR
    by_cases h64 : 64 < l.length
    · rw [if_pos h64] at hR
      have HT : Hid (4 = mayZ l) := by show _ = _; unfold mayZ; rw [if_pos hS, if_pos h64]
      have HR : Hid (R = ([], 4)) := hR
      clear hR hS
      go_enter Try.func59, Try.ntmps59
      go_wp2_with (go_at_call 47; refine (rmay_any _ _ _ _ H.out.at_ hl 4 HT.out).mono ?_; rintro e w1 ⟨rfl, rfl⟩)
      go_ret2
      exact Gave.none HR.out (Below.refl _ _)
    · rw [if_neg h64, Int.toNat_natCast] at hR
      have HT : Hid (0 = mayZ l) := by show _ = _; unfold mayZ; rw [if_pos hS, if_neg h64]
      have HR : Hid (R = (residZ l n, 0)) := hR
      have HS : Hid (allS l) := hS
      clear hR hS
      have h4 : n ≤ 4 := by omega
      have hnl : n ≤ l.length := by omega
      obtain ⟨hcl, hcb⟩ := coefs_ge (n : Int) (by omega) (by omega)
      obtain ⟨cs, hcs⟩ : ∃ cs, cs = coefs (n : Int) := ⟨_, rfl⟩
      rw [← hcs] at hcl hcb
      have HCS : Hid (coefs (n : Int) = cs) := hcs.symm
      have HCB : Hid (∀ c ∈ cs, -6 ≤ c ∧ c ≤ 6) := hcb
      have hcl' : cs.length = n := by omega
      have HCL : Hid (cs.length = n) := hcl'
      clear hcs hcb hcl hcl' h1 h2 h3
      go_enter Try.func59, Try.ntmps59
      go_wp2_with (go_at_call 47; refine (rmay_any _ _ _ _ H.out.at_ hl 0 HT.out).mono ?_; rintro e w1 ⟨rfl, rfl⟩)
      go_loopw [7, 8] (fun v i wr => ∃ (k : Nat), n ≤ k ∧ k ≤ l.length ∧ i = .int .i64 (k : Int) ∧ Hid (OwnInts wr w.heap.size v ((residZ l n).take (k - n))) ∧ Hid (Below w.heap.size w wr)) (fun _ i _ => l.length - (intOf i).toNat)
      case atStart => exact ⟨n, Nat.le_refl _, hnl, rfl, by rw [Nat.sub_self]; exact OwnInts.nil _ _, Below.refl _ _⟩
      case round =>
        obtain ⟨k, hnk, hkl, rfl, ho, hb⟩ := hrel
        by_cases hk : k < l.length
        · obtain ⟨x, hx⟩ : ∃ x, l[k]? = some x := ⟨l[k], by simp [hk]⟩
          have hat := H.out.at_.mono hb.out
          obtain ⟨b, off, rfl, hc⟩ := hat k x hx
          have hs1 := slice_ints (some ⟨b, off, none⟩) l.length cap k (by have := H.out.le; omega)
          have HTL : Hid ((l.take k).length = k) := by show _ = _; simp; omega
          have HTK : Hid (IntsAt wr (some ⟨b, off, none⟩) (l.take k)) := hat.take k
          have HTS : Hid (allS (l.take k)) := HS.out.take k
          obtain ⟨g, hg⟩ : ∃ g, g = guessZ (l.take k) cs := ⟨_, rfl⟩
          have HG : Hid (g = guessZ (l.take k) cs) := hg
          have hgb := guess_small HTS.out HCB.out (by rw [HTL.out, HCL.out]; exact hnk) (by rw [HCL.out]; exact h4)
          rw [← hg] at hgb
          obtain ⟨hg1, hg2⟩ := hgb
          obtain ⟨hx1, hx2⟩ := HS.out x (List.mem_of_getElem? hx)
          obtain ⟨y, hy⟩ : ∃ y, y = x - g := ⟨_, rfl⟩
          have HNX : Hid ((residZ l n).take (k + 1 - n) = (residZ l n).take (k - n) ++ [x - g]) := residZ_next l n k hnk hk _ (by rw [getD_of hx, HCS.out, ← hg])
          have hol : ((residZ l n).take (k - n)).length ≤ 1000000 := by simp; omega
          have hsz : w.heap.size ≤ wr.heap.size := hb.out.size
          clear hx hg hat
          go_wp2_with fail
          have HW : Hid (IntKind.i64.wrap (x - g) = x - g) := Go.IntWalk.i64_in _ (by omega)
          go_region_law first
            | (go_simp; go_at_call 48; refine (rtold_any wr.drew _ _ _ _ _ HTL.out HTK.out (by rw [HTL.out]; omega) cs HCS.out (by rw [HTL.out, HCL.out]; exact hnk) (by rw [HCL.out]; exact h4) HTS.out HCB.out g HG.out).mono ?_; rintro e w2 ⟨rfl, hb2⟩; have hc2 : w2.cell? ⟨b, off + k, none⟩ = some (.int .i64 x) := (hb2.cell (p := ⟨b, off + k, none⟩) (World.block_lt_of_cell? wr _ hc)).trans hc; have HO2 : Hid (OwnInts w2 w.heap.size u7 ((residZ l n).take (k - n))) := OwnInts.mono (w := wr.drew) (World.ownsRow.drew ho.out) hb2; have HB2 : Hid (Below w.heap.size w w2) := hb.out.drew.trans (hb2.mono hsz); have hsz2 : w.heap.size ≤ w2.heap.size := Nat.le_trans hsz hb2.size; clear hb2)
            | (refine step_append_int w2 rfl (.tmp 33) (.tmp 44) 24 rfl w.heap.size i0 Try.underlying24 hi hz0 hz1 hz2 u7 ((residZ l n).take (k - n)) (by rfl) HO2.out (IntKind.i64.wrap (x - g)) (by rfl) hol hsz2 ?_; intro v' w' h1 h2)
          all_goals
            rw [HW.out, ← HNX.out] at h1
            have HB' : Hid (Below w.heap.size w w') := HB2.out.trans h2.out
            clear h2
            go_wp2_with fail
            exact ⟨⟨k + 1, by omega, by omega, by go_num, h1, HB'⟩, by (simp [intOf]) <;> omega⟩
        · have e : k = l.length := by omega
          subst e
          have ho' := ho.out
          rw [List.take_of_length_le (by simp)] at ho'
          have HO : Hid (OwnInts wr w.heap.size _ (residZ l n)) := ho'
          clear ho ho'
          go_wp2_with fail
          go_ret2
          rw [HR.out]
          exact ⟨_, rfl, HO.out, hb.out⟩

set_option maxRecDepth 100000 in
set_option maxHeartbeats 4000000 in
theorem rrest_any (w : World) (a ra : Option Addr) (cap rc : Nat) (warm res : List Int) (h : Ns w a cap warm) (hr : IntsAt w ra res) (hl : warm.length ≤ 100000) (hrl : res.length ≤ 100000) (hI : ∀ x ∈ res, I64 x) (R : List Int × Int) (hR : R = restOut warm res) :
    Calls Try.prog 26 #[.slice a warm.length cap, .slice ra res.length rc] w fun e w' => Gave w w' R e := by
  obtain ⟨i0, hi, hz0, hz1, hz2⟩ := info_parts Try.info3
  have H : Hid (Ns w a cap warm) := h
  have HRI : Hid (IntsAt w ra res) := hr
  have HI : Hid (∀ x ∈ res, I64 x) := hI
  clear h hr hI
  by_cases h4 : 4 < warm.length
  · have HR : Hid (R = ([], 1)) := by show _ = _; rw [hR]; unfold restOut; rw [if_pos h4]
    clear hR
    go_enter Try.func26, Try.ntmps26
    go_wp2_with fail
    go_ret2
    exact Gave.none HR.out (Below.refl _ _)
  by_cases hS : allS warm
  case neg =>
    have HR : Hid (R = ([], 8)) := by show _ = _; rw [hR]; unfold restOut; rw [if_neg h4, if_neg hS]
    have HT : Hid (8 = mayZ warm) := by show _ = _; unfold mayZ; rw [if_neg hS]
    clear hR hS
    go_enter Try.func26, Try.ntmps26
    go_wp2_with (go_at_call 47; refine (rmay_any _ _ _ _ H.out.at_ (by omega) 8 HT.out).mono ?_; rintro e w1 ⟨rfl, rfl⟩)
    go_ret2
    exact Gave.none HR.out (Below.refl _ _)
  case pos =>
    have HT : Hid (0 = mayZ warm) := by show _ = _; unfold mayZ; rw [if_pos hS, if_neg (by omega)]
    have HR : Hid (R = restOut warm res) := hR
    have HS : Hid (allS warm) := hS
    clear hR hS
    obtain ⟨hcl, hcb⟩ := coefs_ge (warm.length : Int) (by omega) (by omega)
    obtain ⟨cs, hcs⟩ : ∃ cs, cs = coefs (warm.length : Int) := ⟨_, rfl⟩
    rw [← hcs] at hcl hcb
    have HCS : Hid (coefs (warm.length : Int) = cs) := hcs.symm
    have HCB : Hid (∀ c ∈ cs, -6 ≤ c ∧ c ≤ 6) := hcb
    have HCL : Hid (cs.length = warm.length) := by show _ = _; omega
    obtain ⟨T, hT⟩ : ∃ T, T = restZ cs warm res := ⟨_, rfl⟩
    have HTT : Hid (T = restZ cs warm res) := hT
    clear hcs hcb hcl hT
    go_enter Try.func26, Try.ntmps26
    go_wp2_with first
      | (go_at_call 47; refine (rmay_any _ _ _ _ H.out.at_ (by omega) 0 HT.out).mono ?_; rintro e w1 ⟨rfl, rfl⟩)
      | (at_builtin; go_must (refine wpList_append_ints _ rfl _ (.tmp 18) rfl w.heap.size _ [] rfl (OwnInts.nil _ _) a cap warm rfl H.out (by simp; omega) (Nat.le_refl _) ?_))
    intro v2 w2 hv2 hk2 hd2
    have HB2 : Hid (Below w.heap.size w w2) := hk2.out.below_of (Below.refl _ _) (fun k hk => by cases hk) (Nat.le_refl _)
    clear hk2 hd2
    go_wp2_with fail
    go_loopw [7, 22] (fun v i wr => ∃ (k : Nat) (x : List Int), k ≤ res.length ∧ i = .int .i64 (k : Int) ∧ x.length ≤ 1000000 ∧ Hid (x.length = warm.length + k) ∧ Hid (allS x) ∧ Hid (T = restZ cs x (res.drop k)) ∧ Hid (OwnInts wr w.heap.size v x) ∧ Hid (Below w.heap.size w wr)) (fun _ i _ => res.length - (intOf i).toNat)
    case atStart => exact ⟨0, warm, Nat.zero_le _, rfl, by omega, rfl, HS.out, HTT.out, hv2.out, HB2.out⟩
    case round =>
      obtain ⟨k, x, hk, rfl, hxl, HXL, hxs, ht, ho, hb⟩ := hrel
      obtain ⟨xa, xc, rfl, hxn, -, -⟩ := ho.out.ns
      have HXA : Hid (IntsAt wr xa x) := hxn.at_
      have hsz : w.heap.size ≤ wr.heap.size := hb.out.size
      have hbw : Hid (Below w.heap.size w wr) := hb.out
      clear hxn
      by_cases hkn : k < res.length
      · obtain ⟨r, hrx⟩ : ∃ x, res[k]? = some x := ⟨res[k], by simp [hkn]⟩
        obtain ⟨b, off, rfl, hc⟩ := HRI.out.mono hbw.out k r hrx
        obtain ⟨hr1, hr2⟩ := HI.out r (List.mem_of_getElem? hrx)
        obtain ⟨g, hg⟩ : ∃ g, g = guessZ x cs := ⟨_, rfl⟩
        have HG : Hid (g = guessZ x cs) := hg
        have hcx : Hid (cs.length ≤ x.length) := by show _ ≤ _; rw [HXL.out, HCL.out]; omega
        have hc4 : Hid (cs.length ≤ 4) := by show _ ≤ _; rw [HCL.out]; omega
        have hgb := guess_small hxs.out HCB.out hcx.out hc4.out
        rw [← hg] at hgb
        obtain ⟨hg1, hg2⟩ := hgb
        have HX : Hid (res[k]? = some r) := hrx
        clear hrx hg
        have hbad : ¬ isS (g + r) → R = ([], 8) := fun hn => by
          rw [HR.out]
          refine restOut_none h4 HS.out ?_
          rw [HCS.out, ← HTT.out]
          exact restZ_bad HX.out (by rw [← HG.out]; exact hn) T ht.out
        by_cases hfar1 : r < -1099511627776
        · have HR8 : Hid (R = ([], 8)) := hbad (by unfold isS; omega)
          clear hbad
          go_wp2_with fail
          go_ret2
          exact Gave.none HR8.out hbw.out
        by_cases hfar2 : 1099511627776 < r
        · have HR8 : Hid (R = ([], 8)) := hbad (by unfold isS; omega)
          clear hbad
          go_wp2_with fail
          go_ret2
          exact Gave.none HR8.out hbw.out
        have HW : Hid (IntKind.i64.wrap (g + r) = g + r) := Go.IntWalk.i64_in _ (by omega)
        by_cases hlo : g + r < -8388608
        · have HR8 : Hid (R = ([], 8)) := hbad (by unfold isS; omega)
          clear hbad
          go_wp2_with fail
          go_region_law (go_simp; go_at_call 48; refine (rtold_any wr.drew _ _ _ _ _ rfl HXA.out hxl cs HCS.out hcx.out hc4.out hxs.out HCB.out g HG.out).mono ?_; rintro e w3 ⟨rfl, hb3⟩; have hc3 : w3.cell? ⟨b, off + k, none⟩ = some (.int .i64 r) := (hb3.cell (p := ⟨b, off + k, none⟩) (World.block_lt_of_cell? wr _ hc)).trans hc; have HO3 : Hid (OwnInts w3 w.heap.size (.slice xa x.length xc) x) := OwnInts.mono (w := wr.drew) (World.ownsRow.drew ho.out) hb3; have HB3 : Hid (Below w.heap.size w w3) := hb.out.drew.trans (hb3.mono hsz); have hsz3 : w.heap.size ≤ w3.heap.size := Nat.le_trans hsz hb3.size; clear hb3)
          all_goals
            rw [HW.out]
            go_wp2_with fail
            go_ret2
            exact Gave.none HR8.out HB3.out
        by_cases hhi : 8388607 < g + r
        · have HR8 : Hid (R = ([], 8)) := hbad (by unfold isS; omega)
          clear hbad
          go_wp2_with fail
          go_region_law (go_simp; go_at_call 48; refine (rtold_any wr.drew _ _ _ _ _ rfl HXA.out hxl cs HCS.out hcx.out hc4.out hxs.out HCB.out g HG.out).mono ?_; rintro e w3 ⟨rfl, hb3⟩; have hc3 : w3.cell? ⟨b, off + k, none⟩ = some (.int .i64 r) := (hb3.cell (p := ⟨b, off + k, none⟩) (World.block_lt_of_cell? wr _ hc)).trans hc; have HO3 : Hid (OwnInts w3 w.heap.size (.slice xa x.length xc) x) := OwnInts.mono (w := wr.drew) (World.ownsRow.drew ho.out) hb3; have HB3 : Hid (Below w.heap.size w w3) := hb.out.drew.trans (hb3.mono hsz); have hsz3 : w.heap.size ≤ w3.heap.size := Nat.le_trans hsz hb3.size; clear hb3)
          all_goals
            rw [HW.out]
            go_wp2_with fail
            go_ret2
            exact Gave.none HR8.out HB3.out
        · clear hbad
          have HSR : Hid (isS (g + r)) := by show isS _; unfold isS; omega
          go_wp2_with fail
          go_region_law (go_simp; go_at_call 48; refine (rtold_any wr.drew _ _ _ _ _ rfl HXA.out hxl cs HCS.out hcx.out hc4.out hxs.out HCB.out g HG.out).mono ?_; rintro e w3 ⟨rfl, hb3⟩; have hc3 : w3.cell? ⟨b, off + k, none⟩ = some (.int .i64 r) := (hb3.cell (p := ⟨b, off + k, none⟩) (World.block_lt_of_cell? wr _ hc)).trans hc; have HO3 : Hid (OwnInts w3 w.heap.size (.slice xa x.length xc) x) := OwnInts.mono (w := wr.drew) (World.ownsRow.drew ho.out) hb3; have HB3 : Hid (Below w.heap.size w w3) := hb.out.drew.trans (hb3.mono hsz); have hsz3 : w.heap.size ≤ w3.heap.size := Nat.le_trans hsz hb3.size; clear hb3)
          all_goals
            rw [HW.out]
            go_wp2_with (at_builtin; go_must (refine wpList_append_int _ rfl (.tmp 52) (.tmp 54) 24 rfl w.heap.size i0 Try.underlying24 hi hz0 hz1 hz2 _ x rfl HO3.out (g + r) rfl hxl hsz3 ?_))
            intro v' w' h1 h2
            have HB' : Hid (Below w.heap.size w w') := HB3.out.trans h2.out
            have hxl' : (x ++ [g + r]).length ≤ 1000000 := by have := HXL.out; simp; omega
            have HXL' : Hid ((x ++ [g + r]).length = warm.length + (k + 1)) := by show _ = _; rw [List.length_append, HXL.out]; rfl
            have HT' : Hid (T = restZ cs (x ++ [g + r]) (res.drop (k + 1))) := by
              have := restZ_good HX.out (by rw [← HG.out]; exact HSR.out) T ht.out
              rw [← HG.out] at this
              exact this
            clear h2
            go_wp2_with fail
            exact ⟨⟨k + 1, x ++ [g + r], by omega, by go_num, hxl', HXL', hxs.out.snoc HSR.out, HT', h1, HB'⟩, by (simp [intOf]) <;> omega⟩
      · have e : k = res.length := by omega
        subst e
        have HX : Hid (restZ (coefs (warm.length : Int)) warm res = some x) := by
          show _ = _
          rw [HCS.out, ← HTT.out]
          exact restZ_end T ht.out
        by_cases h64 : 64 < x.length
        · have HR4 : Hid (R = ([], 4)) := by show _ = _; rw [HR.out]; exact restOut_long h4 HS.out HX.out h64
          go_wp2_with fail
          go_ret2
          exact Gave.none HR4.out hbw.out
        · have HR0 : Hid (R = (x, 0)) := by show _ = _; rw [HR.out]; exact restOut_some h4 HS.out HX.out h64
          go_wp2_with fail
          go_ret2
          rw [HR0.out]
          exact ⟨_, rfl, ho.out, hbw.out⟩

end Go.Proofs.Ythkfaackkcdcoab

/- Samples and Ruin; the document's example of law05. -/
namespace Go.Proofs.Ythkfaackkcdcoab
set_option linter.unusedVariables false
set_option linter.unusedSimpArgs false
open Go.RowKit Dg

theorem wrap64_mem (n : Int) : -9223372036854775808 ≤ wrap64 n ∧ wrap64 n ≤ 9223372036854775807 := by unfold wrap64; omega

set_option maxRecDepth 100000 in
set_option maxHeartbeats 4000000 in
theorem samples_any (w : World) (a : Option Addr) (cap n : Nat) (l : List Int) (wild : Bool) (h : IntsAt w a l) (hl : l.length ≤ maxLen) (hI : ∀ x ∈ l, I64 x) (hn : n ≤ 1000) :
    Calls Try.prog 13 #[.slice a l.length cap, .int .i64 n, .bool wild] w fun e w' => ∃ v zs, e = .returned v ∧ OwnInts w' w.heap.size v zs ∧ zs.length = min l.length n ∧ (∀ x ∈ zs, I64 x) ∧ (wild = false → allS zs) ∧ Below w.heap.size w w' := by
  obtain ⟨i0, hi, hz0, hz1, hz2⟩ := info_parts Try.info3
  unfold maxLen at hl
  have H : Hid (IntsAt w a l) := h
  have HI : Hid (∀ x ∈ l, I64 x) := hI
  obtain ⟨S, hSW⟩ : ∃ S : Prop, S ↔ wild = false := ⟨_, Iff.rfl⟩
  have HSW : Hid (wild = false → S) := hSW.2
  have hSN : wild = true → Hid (¬ S) := fun h hs => by have := hSW.1 hs; rw [h] at this; cases this
  have HSN := hid_of hSN
  clear h hI hSW hSN
  go_enter Try.func13, Try.ntmps13
  go_wp2
  go_loopw [7, 8] (fun v i wr => ∃ (k : Nat) (zs : List Int), k ≤ l.length ∧ k ≤ n ∧ i = .int .i64 (k : Int) ∧ zs.length ≤ 1000000 ∧ Hid (zs.length = k) ∧ Hid (∀ x ∈ zs, I64 x) ∧ Hid (S → allS zs) ∧ Hid (OwnInts wr w.heap.size v zs) ∧ Hid (Below w.heap.size w wr)) (fun _ i _ => l.length - (intOf i).toNat)
  case atStart => exact ⟨0, [], Nat.zero_le _, Nat.zero_le _, rfl, by decide, rfl, fun x hx => by simp at hx, fun _ x hx => by simp at hx, OwnInts.nil _ _, Below.refl _ _⟩
  case round =>
    obtain ⟨k, zs, hkl, hkn, rfl, hzl, HZL, HZI, HZS, ho, hb⟩ := hrel
    have hsz : w.heap.size ≤ wr.heap.size := hb.out.size
    by_cases hk1 : k < l.length
    · by_cases hk2 : k < n
      · obtain ⟨x, hx⟩ : ∃ x, l[k]? = some x := ⟨l[k], by simp [hk1]⟩
        obtain ⟨b, off, rfl, hc⟩ := H.out.mono hb.out k x hx
        obtain ⟨hx1, hx2⟩ := HI.out x (List.mem_of_getElem? hx)
        have hend : ∀ (y : Int) (v' : Value) (w' : World), I64 y → (S → isS y) → Hid (OwnInts w' w.heap.size v' (zs ++ [y])) → Hid (Below w.heap.size wr w') →
            ∃ (k' : Nat) (zs' : List Int), k' ≤ l.length ∧ k' ≤ n ∧ Value.int .i64 ((k : Int) + 1) = .int .i64 (k' : Int) ∧ zs'.length ≤ 1000000 ∧ Hid (zs'.length = k') ∧ Hid (∀ x ∈ zs', I64 x) ∧ Hid (S → allS zs') ∧ Hid (OwnInts w' w.heap.size v' zs') ∧ Hid (Below w.heap.size w w') := by
          intro y v' w' hy1 hy2 h1 h2
          refine ⟨k + 1, zs ++ [y], by omega, by omega, by go_num, by have := HZL.out; simp; omega, by show _ = _; simp [HZL.out], ?_, ?_, h1, hb.out.trans h2.out⟩
          · intro z hz
            rcases List.mem_append.1 hz with h | h
            · exact HZI.out z h
            · simp at h; subst h; exact hy1
          · intro hw
            exact (HZS.out hw).snoc (hy2 hw)
        have HEND := hid_of hend
        clear hx hend
        have hq : wild = false ∨ (wild = true ∧ x.tmod 5 ≠ 4) ∨ (wild = true ∧ x.tmod 5 = 4 ∧ Hid (¬ S)) := by
          by_cases hw : wild = false
          · exact .inl hw
          · have hw' : wild = true := by simpa using hw
            by_cases h : x.tmod 5 = 4
            · exact .inr (.inr ⟨hw', h, HSN.out hw'⟩)
            · exact .inr (.inl ⟨hw', h⟩)
        have hrg : x < -8388608 ∨ (-8388608 ≤ x ∧ 8388607 < x) ∨ (-8388608 ≤ x ∧ x ≤ 8388607) := by omega
        rcases hq with rfl | ⟨rfl, h5⟩ | ⟨rfl, h5, HNS⟩
        · rcases hrg with h1 | ⟨h1, h2⟩ | ⟨h1, h2⟩
          all_goals
            go_wp2_with first
              | (go_at_call 17; refine (within_any _ _ _ (by first | omega | exact (wrap64_mem _).1) (by first | omega | exact (wrap64_mem _).2) (by decide) (by decide)).mono ?_; rintro e w1 ⟨rfl, rfl⟩)
              | (at_builtin; go_must (refine wpList_append_int _ rfl (.tmp 52) (.tmp 54) 24 rfl w.heap.size i0 Try.underlying24 hi hz0 hz1 hz2 _ zs rfl ho.out _ rfl hzl hsz ?_))
            intro v' w' g1 g2
            go_wp2_with fail
            exact ⟨HEND.out _ v' w' (by unfold I64; omega) (fun _ => by unfold isS; omega) g1 g2, by (simp [intOf]) <;> omega⟩
        · have h5b : (x.tmod 5 != 4) = true := by simpa using h5
          have h5c : 8388607 < x → (x % 5 != 4) = true := fun h => by rw [← Int.tmod_eq_emod_of_nonneg (show 0 ≤ x by omega)]; exact h5b
          rcases hrg with h1 | ⟨h1, h2⟩ | ⟨h1, h2⟩
          all_goals
            (first | (have h5d := h5c h2; clear h5c) | clear h5c)
            go_wp2_with first
              | (go_at_call 17; refine (within_any _ _ _ (by first | omega | exact (wrap64_mem _).1) (by first | omega | exact (wrap64_mem _).2) (by decide) (by decide)).mono ?_; rintro e w1 ⟨rfl, rfl⟩)
              | (at_builtin; go_must (refine wpList_append_int _ rfl (.tmp 52) (.tmp 54) 24 rfl w.heap.size i0 Try.underlying24 hi hz0 hz1 hz2 _ zs rfl ho.out _ rfl hzl hsz ?_))
            intro v' w' g1 g2
            go_wp2_with fail
            exact ⟨HEND.out _ v' w' (by unfold I64; omega) (fun _ => by unfold isS; omega) g1 g2, by (simp [intOf]) <;> omega⟩
        · have h5b : (x.tmod 5 != 4) = false := by simpa using h5
          clear hrg
          go_wp2_with (at_builtin; go_must (refine wpList_append_int _ rfl (.tmp 52) (.tmp 54) 24 rfl w.heap.size i0 Try.underlying24 hi hz0 hz1 hz2 _ zs rfl ho.out _ rfl hzl hsz ?_))
          intro v' w' g1 g2
          go_wp2_with fail
          exact ⟨HEND.out _ v' w' (by unfold I64; omega) (fun hs => absurd hs HNS.out) g1 g2, by (simp [intOf]) <;> omega⟩
      · have e : k = n := by omega
        have hnf : decide ((k : Int) < (n : Int)) = false := by simp; omega
        have HL : Hid (zs.length = min l.length n) := by show _ = _; rw [HZL.out]; omega
        subst e
        go_wp2_with fail
        go_ret
        exact ⟨_, zs, rfl, ho.out, HL.out, HZI.out, fun h => HZS.out (HSW.out h), hb.out⟩
    · have HL : Hid (zs.length = min l.length n) := by show _ = _; rw [HZL.out]; omega
      go_wp2_with fail
      go_ret
      exact ⟨_, zs, rfl, ho.out, HL.out, HZI.out, fun h => HZS.out (HSW.out h), hb.out⟩

/-- All the cells of a row. -/
def CellsAt (w : World) (g : Nat) (cur : Array Value) : Prop := w.heap[g]? = some (.cells cur 3 (0, 0))
theorem CellsAt.cell {w : World} {g : Nat} {cur : Array Value} (h : CellsAt w g cur) {j : Nat} {u : Value} (hu : cur[j]? = some u) : w.cell? ⟨g, j, none⟩ = some u := by
  have h' : w.heap[g]? = some (.cells cur 3 (0, 0)) := h
  simp only [World.cell?, h']
  simpa using hu
theorem CellsAt.frozen {w : World} {g : Nat} {cur : Array Value} (h : CellsAt w g cur) (j : Nat) : w.frozen? ⟨g, j, none⟩ = false := by
  have h' : w.heap[g]? = some (.cells cur 3 (0, 0)) := h
  simp [World.frozen?, h']
theorem CellsAt.set {w : World} {g : Nat} {cur : Array Value} (h : CellsAt w g cur) (j : Nat) (u : Value) : CellsAt (w.setCell ⟨g, j, none⟩ u) g (cur.setIfInBounds j u) := heap_setCell_of h u

end Go.Proofs.Ythkfaackkcdcoab
