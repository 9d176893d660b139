/- The texts LpcMath, Lpc1, Lpc2, Lpc5, LBack, Rice1, Rice5, Ref1, Ref2, one behind the other. -/
import Derived.Test.YthkfaackkcdcoaaPart03
import Derived.Test.YthkfaackkcdcoaaPart01
import Derived.Test.YthkfaackkcdcoaaPart02

/- Predictors whose coefficients are handed in: guesses, what is left, what is restored; no program. -/
namespace Go.Proofs.Ythkfaackkcdcoaa
set_option linter.unusedVariables false
set_option linter.unusedSimpArgs false
open Go.RowKit Dg

/-- A coefficient that may be; a number that counts. -/
def isC (c : Int) : Prop := -32768 ≤ c ∧ c ≤ 32767
instance (x : Int) : Decidable (isC x) := by unfold isC; infer_instance
def isN (x : Int) : Prop := -16777216 ≤ x ∧ x ≤ 16777216
instance (x : Int) : Decidable (isN x) := by unfold isN; infer_instance
def allC (l : List Int) : Prop := ∀ x ∈ l, isC x
instance (l : List Int) : Decidable (allC l) := by unfold allC; infer_instance
theorem allC.snoc {l : List Int} (h : allC l) {x : Int} (hx : isC x) : allC (l ++ [x]) := by
  intro y hy
  rcases List.mem_append.1 hy with h1 | h1
  · exact h y h1
  · simp at h1; subst h1; exact hx
theorem allC.take {l : List Int} (h : allC l) (n : Nat) : allC (l.take n) := fun x hx => h x (List.mem_of_mem_take hx)
/-- As many coefficients as may be, each one that may be. -/
def areC (l : List Int) : Prop := 1 ≤ l.length ∧ l.length ≤ 12 ∧ allC l
instance (l : List Int) : Decidable (areC l) := by unfold areC; infer_instance
/-- A product that counts. -/
def term (c x : Int) : Int := if isC c ∧ isN x then c * x else 0
theorem mul_bound {c x : Int} (hc : isC c) (hx : isN x) : -549755813888 ≤ c * x ∧ c * x ≤ 549755813888 := by
  obtain ⟨h1, h2⟩ := hc
  obtain ⟨h3, h4⟩ := hx
  have a1 : 0 ≤ (c + 32768) * (x + 16777216) := Int.mul_nonneg (by omega) (by omega)
  have a2 : 0 ≤ (c + 32768) * (16777216 - x) := Int.mul_nonneg (by omega) (by omega)
  have a3 : 0 ≤ (32768 - c) * (x + 16777216) := Int.mul_nonneg (by omega) (by omega)
  have a4 : 0 ≤ (32768 - c) * (16777216 - x) := Int.mul_nonneg (by omega) (by omega)
  constructor <;> grind
theorem term_small (c x : Int) : -549755813888 ≤ term c x ∧ term c x ≤ 549755813888 := by
  unfold term
  split
  · rename_i h; exact mul_bound h.1 h.2
  · omega
/-- The first terms of a guess. -/
def lsum (past cs : List Int) : Nat → Int
  | 0 => 0
  | k + 1 => lsum past cs k + term (cs.getD k 0) (past.getD (past.length - 1 - k) 0)
theorem lsum_small (past cs : List Int) (k : Nat) : -549755813888 * (k : Int) ≤ lsum past cs k ∧ lsum past cs k ≤ 549755813888 * (k : Int) := by
  induction k with
  | zero => simp [lsum]
  | succ k ih =>
    have := term_small (cs.getD k 0) (past.getD (past.length - 1 - k) 0)
    simp only [lsum]
    omega
/-- How many terms a guess has. -/
def terms (past cs : List Int) : Nat := min (min past.length cs.length) 12
theorem terms_le (past cs : List Int) : terms past cs ≤ past.length ∧ terms past cs ≤ cs.length ∧ terms past cs ≤ 12 := by unfold terms; omega
def lguess (past cs : List Int) : Int := lsum past cs (terms past cs) / 4096
theorem lguess_small (past cs : List Int) : -1610612736 ≤ lguess past cs ∧ lguess past cs ≤ 1610612736 := by
  have h1 := lsum_small past cs (terms past cs)
  have h2 := (terms_le past cs).2.2
  unfold lguess
  omega
/-- What the guesses leave. -/
def lresidZ (l cs : List Int) : List Int := (List.range (l.length - cs.length)).map fun j => l.getD (cs.length + j) 0 - lguess (l.take (cs.length + j)) cs
@[simp] theorem length_lresidZ (l cs : List Int) : (lresidZ l cs).length = l.length - cs.length := by simp [lresidZ]
theorem lresidZ_get (l cs : List Int) (i : Nat) (ho : cs.length ≤ i) (hi : i < l.length) : (lresidZ l cs)[i - cs.length]? = some (l.getD i 0 - lguess (l.take i) cs) := by
  unfold lresidZ
  rw [List.getElem?_map, List.getElem?_range (by omega)]
  simp only [Option.map_some]
  rw [show cs.length + (i - cs.length) = i by omega]
theorem lresidZ_next (l cs : List Int) (i : Nat) (ho : cs.length ≤ i) (hi : i < l.length) (y : Int) (hy : y = l.getD i 0 - lguess (l.take i) cs) : (lresidZ l cs).take (i + 1 - cs.length) = (lresidZ l cs).take (i - cs.length) ++ [y] := by
  rw [show i + 1 - cs.length = i - cs.length + 1 by omega]
  exact take_next _ _ _ (by rw [hy]; exact lresidZ_get l cs i ho hi)
/-- What Residual answers: the numbers, and how it ends. -/
def lresOut (l cs : List Int) : List Int × Int :=
  if ¬ areC cs ∨ l.length < cs.length then ([], 1) else if allS l then (if 64 < l.length then ([], 4) else (lresidZ l cs, 0)) else ([], 8)
theorem lresOut_len (l cs : List Int) : (lresOut l cs).1.length ≤ l.length := by
  unfold lresOut
  split
  · simp
  split
  · split <;> simp
  · simp
/-- The samples that have these residuals, behind what is there; none: a sample that may not be. -/
def lrestZ (cs : List Int) : List Int → List Int → Option (List Int)
  | x, [] => some x
  | x, r :: rs => if isS (lguess x cs + r) then lrestZ cs (x ++ [lguess x cs + r]) rs else none
def lrestOut (warm res cs : List Int) : List Int × Int :=
  if ¬ areC cs ∨ warm.length ≠ cs.length then ([], 1) else if allS warm then (match lrestZ cs warm res with | none => ([], 8) | some x => if 64 < x.length then ([], 4) else (x, 0)) else ([], 8)
theorem lrestZ_good {cs x res : List Int} {j : Nat} {r : Int} (h : res[j]? = some r) (hs : isS (lguess x cs + r)) (T : Option (List Int)) (hT : T = lrestZ cs x (res.drop j)) : T = lrestZ cs (x ++ [lguess x cs + r]) (res.drop (j + 1)) := by
  have hj : j < res.length := (List.getElem?_eq_some_iff.1 h).1
  have e : res[j] = r := (List.getElem?_eq_some_iff.1 h).2
  rw [hT, List.drop_eq_getElem_cons hj, e]
  simp only [lrestZ]
  rw [if_pos hs]
theorem lrestZ_bad {cs x res : List Int} {j : Nat} {r : Int} (h : res[j]? = some r) (hs : ¬ isS (lguess x cs + r)) (T : Option (List Int)) (hT : T = lrestZ cs x (res.drop j)) : T = none := by
  have hj : j < res.length := (List.getElem?_eq_some_iff.1 h).1
  have e : res[j] = r := (List.getElem?_eq_some_iff.1 h).2
  rw [hT, List.drop_eq_getElem_cons hj, e]
  simp only [lrestZ]
  rw [if_neg hs]
theorem lrestZ_end {cs x res : List Int} (T : Option (List Int)) (hT : T = lrestZ cs x (res.drop res.length)) : T = some x := by
  rw [hT, List.drop_length]
  rfl
theorem lrestOut_none {warm res cs : List Int} (h4 : areC cs) (hl : warm.length = cs.length) (hS : allS warm) (h : lrestZ cs warm res = none) : lrestOut warm res cs = ([], 8) := by
  unfold lrestOut
  rw [if_neg (by simp [h4, hl]), if_pos hS, h]
theorem lrestOut_long {warm res cs x : List Int} (h4 : areC cs) (hl : warm.length = cs.length) (hS : allS warm) (h : lrestZ cs warm res = some x) (hx : 64 < x.length) : lrestOut warm res cs = ([], 4) := by
  unfold lrestOut
  rw [if_neg (by simp [h4, hl]), if_pos hS, h]
  simp [hx]
theorem lrestOut_some {warm res cs x : List Int} (h4 : areC cs) (hl : warm.length = cs.length) (hS : allS warm) (h : lrestZ cs warm res = some x) (hx : ¬ 64 < x.length) : lrestOut warm res cs = (x, 0) := by
  unfold lrestOut
  rw [if_neg (by simp [h4, hl]), if_pos hS, h]
  simp [hx]
theorem lrestZ_len (cs : List Int) (res : List Int) : ∀ (x y : List Int), lrestZ cs x res = some y → y.length = x.length + res.length := by
  induction res with
  | nil => intro x y h; simp [lrestZ] at h; subst h; simp
  | cons r rs ih =>
    intro x y h
    simp only [lrestZ] at h
    split at h
    · have := ih _ _ h
      simp at this ⊢
      omega
    · cases h
theorem lrestOut_len (warm res cs : List Int) : (lrestOut warm res cs).1.length ≤ warm.length + res.length := by
  unfold lrestOut
  split
  · simp
  split
  · split
    · simp
    · rename_i x hx
      have := lrestZ_len _ _ _ _ hx
      split <;> simp <;> omega
  · simp

end Go.Proofs.Ythkfaackkcdcoaa

/- The small functions of lpc, and Guess. -/
namespace Go.Proofs.Ythkfaackkcdcoaa
set_option linter.unusedVariables false
set_option linter.unusedSimpArgs false
open Go.RowKit Dg

set_option maxHeartbeats 1000000 in
theorem lis_any (w : World) (c : Int) (t : Bool) (ht : t = decide (isC c)) :
    Calls Try.prog 103 #[.int .i64 c] w fun e w' => e = .returned (.bool t) ∧ w = w' := by
  have HT : Hid (t = decide (isC c)) := ht
  clear ht
  by_cases h1 : -32768 ≤ c
  · by_cases h2 : c ≤ 32767
    · have e : t = true := by rw [HT.out]; exact decide_eq_true ⟨h1, h2⟩
      subst e
      go_enter Try.func103, Try.ntmps103
      go_wp2_with fail
      go_ret
      exact ⟨rfl, rfl⟩
    · have e : t = false := by rw [HT.out]; exact decide_eq_false (fun h => h2 h.2)
      subst e
      go_enter Try.func103, Try.ntmps103
      go_wp2_with fail
      go_ret
      exact ⟨rfl, rfl⟩
  · have e : t = false := by rw [HT.out]; exact decide_eq_false (fun h => h1 h.1)
    subst e
    go_enter Try.func103, Try.ntmps103
    go_wp2_with fail
    go_ret
    exact ⟨rfl, rfl⟩

set_option maxHeartbeats 1000000 in
theorem lare_any (w : World) (a : Option Addr) (cap : Nat) (l : List Int) (h : IntsAt w a l) (hl : l.length ≤ 1000000) (t : Bool) (ht : t = decide (allS l)) :
    Calls Try.prog 87 #[.slice a l.length cap] w fun e w' => e = .returned (.bool t) ∧ w = w' := by
  have H : Hid (IntsAt w a l) := h
  have HT : Hid (t = decide (allS l)) := ht
  clear h ht
  go_enter Try.func87, Try.ntmps87
  go_wp2
  go_loopw [7] (fun i wr => ∃ k : Nat, k ≤ l.length ∧ i = .int .i64 k ∧ Hid (allS (l.take k)) ∧ w = wr) (fun i _ => l.length - (intOf i).toNat)
  case atStart => exact ⟨0, Nat.zero_le _, rfl, fun x hx => by simp at hx, rfl⟩
  case round =>
    obtain ⟨k, hk, rfl, hall, rfl⟩ := hrel
    by_cases hkn : k < l.length
    · obtain ⟨x, hx⟩ : ∃ x, l[k]? = some x := ⟨l[k], by simp [hkn]⟩
      obtain ⟨b, off, rfl, hc⟩ := H.out k x hx
      have HX : Hid (l[k]? = some x) := hx
      clear hx
      have hbad : ¬ isS x → t = false := fun hn => by
        rw [HT.out]
        exact decide_eq_false (fun ha => hn (ha x (List.mem_of_getElem? HX.out)))
      by_cases hlo : x < -8388608
      · have ht := hbad (by unfold isS; omega)
        subst ht
        clear hbad
        go_wp2_with fail
        go_ret
        exact ⟨rfl, rfl⟩
      · by_cases hhi : 8388607 < x
        · have ht := hbad (by unfold isS; omega)
          subst ht
          clear hbad
          go_wp2_with fail
          go_ret
          exact ⟨rfl, rfl⟩
        · clear hbad
          go_wp2_with fail
          refine ⟨⟨k + 1, by omega, by go_num, ?_, by trivial⟩, by (simp [intOf]) <;> omega⟩
          show allS _
          rw [take_next l k x HX.out]
          exact hall.out.snoc (by unfold isS; omega)
    · have e : k = l.length := by omega
      subst e
      have ht : t = true := by
        have := hall.out
        rw [List.take_length] at this
        rw [HT.out]; exact decide_eq_true this
      subst ht
      go_wp2_with fail
      go_ret
      exact ⟨rfl, rfl⟩

set_option maxHeartbeats 1000000 in
theorem lcoefs_any (w : World) (a : Option Addr) (cap : Nat) (l : List Int) (h : IntsAt w a l) (hl : l.length ≤ 1000000) (t : Bool) (ht : t = decide (areC l)) :
    Calls Try.prog 86 #[.slice a l.length cap] w fun e w' => e = .returned (.bool t) ∧ w = w' := by
  have H : Hid (IntsAt w a l) := h
  have HT : Hid (t = decide (areC l)) := ht
  clear h ht
  by_cases h1 : l.length < 1
  · have e : t = false := by rw [HT.out]; exact decide_eq_false (fun h => by have := h.1; omega)
    subst e
    go_enter Try.func86, Try.ntmps86
    go_wp2_with fail
    go_ret
    exact ⟨rfl, rfl⟩
  by_cases h2 : 12 < l.length
  · have e : t = false := by rw [HT.out]; exact decide_eq_false (fun h => by have := h.2.1; omega)
    subst e
    go_enter Try.func86, Try.ntmps86
    go_wp2_with fail
    go_ret
    exact ⟨rfl, rfl⟩
  go_enter Try.func86, Try.ntmps86
  go_wp2_with fail
  go_loopw [15] (fun i wr => ∃ k : Nat, k ≤ l.length ∧ i = .int .i64 k ∧ Hid (allC (l.take k)) ∧ w = wr) (fun i _ => l.length - (intOf i).toNat)
  case atStart => exact ⟨0, Nat.zero_le _, rfl, fun x hx => by simp at hx, rfl⟩
  case round =>
    obtain ⟨k, hk, rfl, hall, rfl⟩ := hrel
    by_cases hkn : k < l.length
    · obtain ⟨x, hx⟩ : ∃ x, l[k]? = some x := ⟨l[k], by simp [hkn]⟩
      obtain ⟨b, off, rfl, hc⟩ := H.out k x hx
      have HX : Hid (l[k]? = some x) := hx
      clear hx
      by_cases hC : isC x
      · have HC : Hid (true = decide (isC x)) := (decide_eq_true hC).symm
        have HC' : Hid (isC x) := hC
        clear hC
        go_wp2_with (go_at_call 103; refine (lis_any _ _ true HC.out).mono ?_; rintro e w1 ⟨rfl, rfl⟩)
        refine ⟨⟨k + 1, by omega, by go_num, ?_, by trivial⟩, by (simp [intOf]) <;> omega⟩
        show allC _
        rw [take_next l k x HX.out]
        exact hall.out.snoc HC'.out
      · have HC : Hid (false = decide (isC x)) := (decide_eq_false hC).symm
        have e : t = false := by rw [HT.out]; exact decide_eq_false (fun h => hC (h.2.2 x (List.mem_of_getElem? HX.out)))
        subst e
        clear hC
        go_wp2_with (go_at_call 103; refine (lis_any _ _ false HC.out).mono ?_; rintro e w1 ⟨rfl, rfl⟩)
        go_ret
        exact ⟨rfl, rfl⟩
    · have e : k = l.length := by omega
      subst e
      have ht : t = true := by
        have := hall.out
        rw [List.take_length] at this
        rw [HT.out]; exact decide_eq_true ⟨by omega, by omega, this⟩
      subst ht
      go_wp2_with fail
      go_ret
      exact ⟨rfl, rfl⟩

set_option maxHeartbeats 1000000 in
theorem lguess_any (w : World) (a ca : Option Addr) (n m cap cc : Nat) (past cs : List Int) (hn : past.length = n) (hm : cs.length = m) (h : IntsAt w a past) (hc : IntsAt w ca cs) (hl : past.length ≤ 1000000) (hcl : cs.length ≤ 1000000) (g : Int) (hg : g = lguess past cs) :
    Calls Try.prog 88 #[.slice a n cap, .slice ca m cc] w fun e w' => e = .returned (.int .i64 g) ∧ w = w' := by
  subst hn hm
  have H : Hid (IntsAt w a past) := h
  have HC : Hid (IntsAt w ca cs) := hc
  have HG : Hid (g = lguess past cs) := hg
  clear h hc hg
  obtain ⟨q, hq⟩ : ∃ q, q = terms past cs := ⟨_, rfl⟩
  obtain ⟨hq1, hq2, hq3⟩ := terms_le past cs
  rw [← hq] at hq1 hq2 hq3
  have HQ := hid_of hq
  clear hq
  rcases (by omega : (cs.length < past.length ∧ 12 < cs.length) ∨ (cs.length < past.length ∧ cs.length ≤ 12) ∨ (past.length ≤ cs.length ∧ 12 < past.length) ∨ (past.length ≤ cs.length ∧ past.length ≤ 12)) with ⟨u1, u2⟩ | ⟨u1, u2⟩ | ⟨u1, u2⟩ | ⟨u1, u2⟩
  all_goals
    go_enter Try.func88, Try.ntmps88
    go_wp2_with fail
    go_loopw [5, 13] (fun s i wr => ∃ (k : Nat) (t : Int), k ≤ q ∧ s = .int .i64 t ∧ i = .int .i64 k ∧ Hid (t = lsum past cs k) ∧ w = wr) (fun _ i _ => q - (intOf i).toNat)
    case atStart => exact ⟨0, 0, Nat.zero_le _, rfl, rfl, rfl, rfl⟩
    case round =>
      obtain ⟨k, t, hk, rfl, rfl, ht, rfl⟩ := hrel
      have htb := lsum_small past cs k
      rw [← ht.out] at htb
      obtain ⟨ht1, ht2⟩ := htb
      have ht1' : -6597069766656 ≤ t := by omega
      have ht2' : t ≤ 6597069766656 := by omega
      clear ht1 ht2
      by_cases hkn : k < q
      · obtain ⟨c, hcx⟩ : ∃ x, cs[k]? = some x := ⟨cs[k]'(by omega), by simp⟩
        obtain ⟨b1, o1, rfl, hc1⟩ := HC.out k c hcx
        obtain ⟨m, hm⟩ : ∃ m, m = past.length - 1 - k := ⟨_, rfl⟩
        have hml : m < past.length := by omega
        obtain ⟨x, hx⟩ : ∃ x, past[m]? = some x := ⟨past[m], by simp [hml]⟩
        obtain ⟨b2, o2, rfl, hc2⟩ := H.out m x hx
        have hmI : (past.length : Int) - 1 - (k : Int) = (m : Int) := by omega
        have HNX : Hid (t + term c x = lsum past cs (k + 1)) := by
          show _ = _
          simp only [lsum]
          rw [getD_of hcx, ← hm, getD_of hx, ← ht.out]
        have hkc : k < cs.length := by omega
        have hkp : k < past.length := by omega
        have hkk : k < 12 := by omega
        clear hm hcx hx
        by_cases hC : isC c
        · have HT1 : Hid (true = decide (isC c)) := (decide_eq_true hC).symm
          by_cases hx1 : -16777216 ≤ x
          · by_cases hx2 : x ≤ 16777216
            · obtain ⟨p, hp⟩ : ∃ p, p = c * x := ⟨_, rfl⟩
              have hp12 := mul_bound hC ⟨hx1, hx2⟩
              rw [← hp] at hp12
              obtain ⟨hp1, hp2⟩ := hp12
              have HP : Hid (c * x = p) := hp.symm
              have HN : Hid (t + p = lsum past cs (k + 1)) := by
                show _ = _
                rw [← HNX.out]; unfold term; rw [if_pos ⟨hC, hx1, hx2⟩, hp]
              clear hp hC
              go_wp2_with (go_at_call 103; refine (lis_any _ _ true HT1.out).mono ?_; rintro e w1 ⟨rfl, rfl⟩)
              rw [HP.out, Go.IntWalk.wrap64_in p (by omega), Go.IntWalk.wrap64_in (t + p) (by omega)]
              exact ⟨⟨k + 1, t + p, by omega, rfl, by go_num, HN, by trivial⟩, by (simp [intOf]) <;> omega⟩
            · have HN : Hid (t = lsum past cs (k + 1)) := by
                show _ = _
                rw [← HNX.out]; unfold term; rw [if_neg (fun h => hx2 h.2.2)]; omega
              clear hC
              go_wp2_with (go_at_call 103; refine (lis_any _ _ true HT1.out).mono ?_; rintro e w1 ⟨rfl, rfl⟩)
              exact ⟨⟨k + 1, t, by omega, rfl, by go_num, HN, by trivial⟩, by (simp [intOf]) <;> omega⟩
          · have HN : Hid (t = lsum past cs (k + 1)) := by
              show _ = _
              rw [← HNX.out]; unfold term; rw [if_neg (fun h => hx1 h.2.1)]; omega
            clear hC
            go_wp2_with (go_at_call 103; refine (lis_any _ _ true HT1.out).mono ?_; rintro e w1 ⟨rfl, rfl⟩)
            exact ⟨⟨k + 1, t, by omega, rfl, by go_num, HN, by trivial⟩, by (simp [intOf]) <;> omega⟩
        · have HT1 : Hid (false = decide (isC c)) := (decide_eq_false hC).symm
          have HN : Hid (t = lsum past cs (k + 1)) := by
            show _ = _
            rw [← HNX.out]; unfold term; rw [if_neg (fun h => hC h.1)]; omega
          clear hC
          go_wp2_with (go_at_call 103; refine (lis_any _ _ false HT1.out).mono ?_; rintro e w1 ⟨rfl, rfl⟩)
          exact ⟨⟨k + 1, t, by omega, rfl, by go_num, HN, by trivial⟩, by (simp [intOf]) <;> omega⟩
      · have e : k = q := by omega
        have HE : Hid (t / 4096 = g) := by show _ = _; rw [ht.out, HG.out, e, HQ.out]; rfl
        first
          | (have e2 : k = 12 := by have h2 := HQ.out; unfold terms at h2; omega)
          | (have e2 : k = cs.length := by have h2 := HQ.out; unfold terms at h2; omega)
          | (have e2 : k = past.length := by have h2 := HQ.out; unfold terms at h2; omega)
        clear e hq1 hq2 hq3 hk hkn HQ
        subst e2
        go_wp2_with fail
        go_ret
        rw [HE.out]
        exact ⟨rfl, rfl⟩

end Go.Proofs.Ythkfaackkcdcoaa

/- Residual and Restore of lpc. -/
namespace Go.Proofs.Ythkfaackkcdcoaa
set_option linter.unusedVariables false
set_option linter.unusedSimpArgs false
open Go.RowKit Dg

set_option maxRecDepth 100000 in
set_option maxHeartbeats 4000000 in
theorem lresid_any (w : World) (a ca : Option Addr) (cap cc : Nat) (l cs : List Int) (h : Ns w a cap l) (hc : IntsAt w ca cs) (hl : l.length ≤ 1000000) (hcl : cs.length ≤ 1000000) (R : List Int × Int) (hR : R = lresOut l cs) :
    Calls Try.prog 60 #[.slice a l.length cap, .slice ca cs.length cc] w fun e w' => Gave w w' R e := by
  obtain ⟨i0, hi, hz0, hz1, hz2⟩ := info_parts Try.info3
  unfold lresOut at hR
  have H : Hid (Ns w a cap l) := h
  have HC : Hid (IntsAt w ca cs) := hc
  clear h hc
  by_cases h1 : areC cs
  case neg =>
    rw [if_pos (.inl h1)] at hR
    have HR : Hid (R = ([], 1)) := hR
    have HA : Hid (false = decide (areC cs)) := (decide_eq_false h1).symm
    clear hR h1
    go_enter Try.func60, Try.ntmps60
    go_wp2_with (go_at_call 86; refine (lcoefs_any _ _ _ _ HC.out hcl false HA.out).mono ?_; rintro e w1 ⟨rfl, rfl⟩)
    go_ret2
    exact Gave.none HR.out (Below.refl _ _)
  have HA : Hid (true = decide (areC cs)) := (decide_eq_true h1).symm
  have HC1 : Hid (areC cs) := h1
  have hc12 : cs.length ≤ 12 := h1.2.1
  by_cases h2 : l.length < cs.length
  · rw [if_pos (.inr h2)] at hR
    have HR : Hid (R = ([], 1)) := hR
    clear hR h1
    go_enter Try.func60, Try.ntmps60
    go_wp2_with (go_at_call 86; refine (lcoefs_any _ _ _ _ HC.out hcl true HA.out).mono ?_; rintro e w1 ⟨rfl, rfl⟩)
    go_ret2
    exact Gave.none HR.out (Below.refl _ _)
  rw [if_neg (by simp [h1, h2])] at hR
  clear h1
  have h2' : cs.length ≤ l.length := by omega
  by_cases hS : allS l
  case neg =>
    rw [if_neg hS] at hR
    have HT : Hid (false = decide (allS l)) := (decide_eq_false hS).symm
    have HR : Hid (R = ([], 8)) := hR
    clear hR hS
    go_enter Try.func60, Try.ntmps60
    go_wp2_with first
      | (go_at_call 86; refine (lcoefs_any _ _ _ _ HC.out hcl true HA.out).mono ?_; rintro e w1 ⟨rfl, rfl⟩)
      | (go_at_call 87; refine (lare_any _ _ _ _ H.out.at_ hl false HT.out).mono ?_; rintro e w1 ⟨rfl, rfl⟩)
    go_ret2
    exact Gave.none HR.out (Below.refl _ _)
  case pos =>
    rw [if_pos hS] at hR
    have HT : Hid (true = decide (allS l)) := (decide_eq_true hS).symm
    by_cases h64 : 64 < l.length
    · rw [if_pos h64] at hR
      have HR : Hid (R = ([], 4)) := hR
      clear hR hS
      go_enter Try.func60, Try.ntmps60
      go_wp2_with first
        | (go_at_call 86; refine (lcoefs_any _ _ _ _ HC.out hcl true HA.out).mono ?_; rintro e w1 ⟨rfl, rfl⟩)
        | (go_at_call 87; refine (lare_any _ _ _ _ H.out.at_ hl true HT.out).mono ?_; rintro e w1 ⟨rfl, rfl⟩)
      go_ret2
      exact Gave.none HR.out (Below.refl _ _)
    · rw [if_neg h64] at hR
      have HR : Hid (R = (lresidZ l cs, 0)) := hR
      have HS : Hid (allS l) := hS
      clear hR hS
      go_enter Try.func60, Try.ntmps60
      go_wp2_with first
        | (go_at_call 86; refine (lcoefs_any _ _ _ _ HC.out hcl true HA.out).mono ?_; rintro e w1 ⟨rfl, rfl⟩)
        | (go_at_call 87; refine (lare_any _ _ _ _ H.out.at_ hl true HT.out).mono ?_; rintro e w1 ⟨rfl, rfl⟩)
      go_loopw [6, 7] (fun v i wr => ∃ (k : Nat), cs.length ≤ k ∧ k ≤ l.length ∧ i = .int .i64 (k : Int) ∧ Hid (OwnInts wr w.heap.size v ((lresidZ l cs).take (k - cs.length))) ∧ Hid (Below w.heap.size w wr)) (fun _ i _ => l.length - (intOf i).toNat)
      case atStart => exact ⟨cs.length, Nat.le_refl _, h2', rfl, by rw [Nat.sub_self]; exact OwnInts.nil _ _, Below.refl _ _⟩
      case round =>
        obtain ⟨k, hnk, hkl, rfl, ho, hb⟩ := hrel
        by_cases hk : k < l.length
        · obtain ⟨x, hx⟩ : ∃ x, l[k]? = some x := ⟨l[k], by simp [hk]⟩
          have hat := H.out.at_.mono hb.out
          obtain ⟨b, off, rfl, hc⟩ := hat k x hx
          have hs1 := slice_ints (some ⟨b, off, none⟩) l.length cap k (by have := H.out.le; omega)
          have HTL : Hid ((l.take k).length = k) := by show _ = _; simp; omega
          have HTK : Hid (IntsAt wr (some ⟨b, off, none⟩) (l.take k)) := hat.take k
          have HC2 : Hid (IntsAt wr ca cs) := HC.out.mono hb.out
          obtain ⟨g, hg⟩ : ∃ g, g = lguess (l.take k) cs := ⟨_, rfl⟩
          have HG : Hid (g = lguess (l.take k) cs) := hg
          obtain ⟨hg1, hg2⟩ := lguess_small (l.take k) cs
          rw [← hg] at hg1 hg2
          obtain ⟨hx1, hx2⟩ := HS.out x (List.mem_of_getElem? hx)
          obtain ⟨y, hy⟩ : ∃ y, y = x - g := ⟨_, rfl⟩
          have HNX : Hid ((lresidZ l cs).take (k + 1 - cs.length) = (lresidZ l cs).take (k - cs.length) ++ [x - g]) := lresidZ_next l cs k hnk hk _ (by rw [getD_of hx, ← hg])
          have hol : ((lresidZ l cs).take (k - cs.length)).length ≤ 1000000 := by simp; omega
          have hsz : w.heap.size ≤ wr.heap.size := hb.out.size
          clear hx hg hat
          go_wp2_with fail
          have HW : Hid (IntKind.i64.wrap (x - g) = x - g) := Go.IntWalk.i64_in _ (by omega)
          go_region_law first
            | (go_simp; go_at_call 88; refine (lguess_any wr.drew _ _ _ _ _ _ _ _ HTL.out rfl HTK.out HC2.out (by rw [HTL.out]; omega) hcl g HG.out).mono ?_; rintro e w2 ⟨rfl, rfl⟩)
            | (refine step_append_int wr.drew rfl (.tmp 32) (.tmp 43) 22 rfl w.heap.size i0 Try.underlying22 hi hz0 hz1 hz2 u6 ((lresidZ l cs).take (k - cs.length)) (by rfl) (World.ownsRow.drew ho.out) (IntKind.i64.wrap (x - g)) (by rfl) hol hsz ?_; intro v' w' h1 h2)
          all_goals
            rw [HW.out, ← HNX.out] at h1
            have HB' : Hid (Below w.heap.size w w') := hb.out.drew.trans h2.out
            clear h2
            go_wp2_with fail
            exact ⟨⟨k + 1, by omega, by omega, by go_num, h1, HB'⟩, by (simp [intOf]) <;> omega⟩
        · have e : k = l.length := by omega
          subst e
          have ho' := ho.out
          rw [List.take_of_length_le (by simp)] at ho'
          have HO : Hid (OwnInts wr w.heap.size _ (lresidZ l cs)) := ho'
          clear ho ho'
          go_wp2_with fail
          go_ret2
          rw [HR.out]
          exact ⟨_, rfl, HO.out, hb.out⟩

set_option maxRecDepth 100000 in
set_option maxHeartbeats 4000000 in
theorem lrest_any (w : World) (a ra ca : Option Addr) (cap rc cc : Nat) (warm res cs : List Int) (h : Ns w a cap warm) (hr : IntsAt w ra res) (hc : IntsAt w ca cs) (hl : warm.length ≤ 100000) (hrl : res.length ≤ 100000) (hcl : cs.length ≤ 100000) (hI : ∀ x ∈ res, I64 x) (R : List Int × Int) (hR : R = lrestOut warm res cs) :
    Calls Try.prog 65 #[.slice a warm.length cap, .slice ra res.length rc, .slice ca cs.length cc] w fun e w' => Gave w w' R e := by
  obtain ⟨i0, hi, hz0, hz1, hz2⟩ := info_parts Try.info3
  have H : Hid (Ns w a cap warm) := h
  have HRI : Hid (IntsAt w ra res) := hr
  have HC : Hid (IntsAt w ca cs) := hc
  have HI : Hid (∀ x ∈ res, I64 x) := hI
  clear h hr hI hc
  by_cases h1 : areC cs
  case neg =>
    have HR : Hid (R = ([], 1)) := by show _ = _; rw [hR]; unfold lrestOut; rw [if_pos (.inl h1)]
    have HA : Hid (false = decide (areC cs)) := (decide_eq_false h1).symm
    clear hR h1
    go_enter Try.func65, Try.ntmps65
    go_wp2_with (go_at_call 86; refine (lcoefs_any _ _ _ _ HC.out (by omega) false HA.out).mono ?_; rintro e w1 ⟨rfl, rfl⟩)
    go_ret2
    exact Gave.none HR.out (Below.refl _ _)
  have HA : Hid (true = decide (areC cs)) := (decide_eq_true h1).symm
  have HC1 : Hid (areC cs) := h1
  have hc12 : cs.length ≤ 12 := h1.2.1
  by_cases h2 : warm.length = cs.length
  case neg =>
    have HR : Hid (R = ([], 1)) := by show _ = _; rw [hR]; unfold lrestOut; rw [if_pos (.inr h2)]
    have hb2 : ((warm.length : Int) != (cs.length : Int)) = true := by simp; omega
    have hb3 : (warm.length != cs.length) = true := by simp; omega
    clear hR h1
    go_enter Try.func65, Try.ntmps65
    go_wp2_with (go_at_call 86; refine (lcoefs_any _ _ _ _ HC.out (by omega) true HA.out).mono ?_; rintro e w1 ⟨rfl, rfl⟩)
    go_ret2
    exact Gave.none HR.out (Below.refl _ _)
  have hb2 : ((warm.length : Int) != (cs.length : Int)) = false := by simp; omega
  have hb3 : (warm.length != cs.length) = false := by simp; omega
  have HWC : Hid (warm.length = cs.length) := h2
  have hw12 : warm.length ≤ 12 := by omega
  clear h1 h2
  by_cases hS : allS warm
  case neg =>
    have HR : Hid (R = ([], 8)) := by show _ = _; rw [hR]; unfold lrestOut; rw [if_neg (by simp [HC1.out, HWC.out]), if_neg hS]
    have HT : Hid (false = decide (allS warm)) := (decide_eq_false hS).symm
    clear hR hS
    go_enter Try.func65, Try.ntmps65
    go_wp2_with first
      | (go_at_call 86; refine (lcoefs_any _ _ _ _ HC.out (by omega) true HA.out).mono ?_; rintro e w1 ⟨rfl, rfl⟩)
      | (go_at_call 87; refine (lare_any _ _ _ _ H.out.at_ (by omega) false HT.out).mono ?_; rintro e w1 ⟨rfl, rfl⟩)
    go_ret2
    exact Gave.none HR.out (Below.refl _ _)
  case pos =>
    have HT : Hid (true = decide (allS warm)) := (decide_eq_true hS).symm
    have HR : Hid (R = lrestOut warm res cs) := hR
    have HS : Hid (allS warm) := hS
    clear hR hS
    obtain ⟨T, hT⟩ : ∃ T, T = lrestZ cs warm res := ⟨_, rfl⟩
    have HTT : Hid (T = lrestZ cs warm res) := hT
    clear hT
    go_enter Try.func65, Try.ntmps65
    go_wp2_with first
      | (go_at_call 86; refine (lcoefs_any _ _ _ _ HC.out (by omega) true HA.out).mono ?_; rintro e w1 ⟨rfl, rfl⟩)
      | (go_at_call 87; refine (lare_any _ _ _ _ H.out.at_ (by omega) true HT.out).mono ?_; rintro e w1 ⟨rfl, rfl⟩)
      | (at_builtin; go_must (refine wpList_append_ints _ rfl (.tmp 25) (.tmp 26) rfl w.heap.size _ [] rfl (OwnInts.lit w w.heap.size [] 0 rfl (Nat.le_refl _) (by decide) #[] rfl) a cap warm rfl (H.out.mono ((Below.refl _ _).alloc (Nat.le_refl _) _)) (by simp; omega) (by simp) ?_))
    intro v2 w2 hv2 hk2 hd2
    have HB2 : Hid (Below w.heap.size w w2) := hk2.out.below_of ((Below.refl _ _).alloc (Nat.le_refl _) _) (fun k hk => by cases hk; exact Nat.le_refl _) (by simp)
    clear hk2 hd2
    go_wp2_with fail
    go_loopw [8, 30] (fun v i wr => ∃ (k : Nat) (x : List Int), k ≤ res.length ∧ i = .int .i64 (k : Int) ∧ x.length ≤ 1000000 ∧ Hid (x.length = warm.length + k) ∧ Hid (allS x) ∧ Hid (T = lrestZ cs x (res.drop k)) ∧ Hid (OwnInts wr w.heap.size v x) ∧ Hid (Below w.heap.size w wr)) (fun _ i _ => res.length - (intOf i).toNat)
    case atStart => exact ⟨0, warm, Nat.zero_le _, rfl, by omega, rfl, HS.out, HTT.out, hv2.out, HB2.out⟩
    case round =>
      obtain ⟨k, x, hk, rfl, hxl, HXL, hxs, ht, ho, hb⟩ := hrel
      obtain ⟨xa, xc, rfl, hxn, -, -⟩ := ho.out.ns
      have HXA : Hid (IntsAt wr xa x) := hxn.at_
      have hsz : w.heap.size ≤ wr.heap.size := hb.out.size
      clear hxn
      by_cases hkn : k < res.length
      · obtain ⟨r, hrx⟩ : ∃ x, res[k]? = some x := ⟨res[k], by simp [hkn]⟩
        obtain ⟨b, off, rfl, hc⟩ := HRI.out.mono hb.out k r hrx
        obtain ⟨hr1, hr2⟩ := HI.out r (List.mem_of_getElem? hrx)
        have HC2 : Hid (IntsAt wr ca cs) := HC.out.mono hb.out
        obtain ⟨g, hg⟩ : ∃ g, g = lguess x cs := ⟨_, rfl⟩
        have HG : Hid (g = lguess x cs) := hg
        obtain ⟨hg1, hg2⟩ := lguess_small x cs
        rw [← hg] at hg1 hg2
        have HX : Hid (res[k]? = some r) := hrx
        clear hrx hg
        have hbad : ¬ isS (g + r) → R = ([], 8) := fun hn => by
          rw [HR.out]
          refine lrestOut_none HC1.out HWC.out HS.out ?_
          rw [← HTT.out]
          exact lrestZ_bad HX.out (by rw [← HG.out]; exact hn) T ht.out
        by_cases hlo : r < -8388608 - g
        · have HR8 : Hid (R = ([], 8)) := hbad (by unfold isS; omega)
          clear hbad
          go_wp2_with (go_at_call 88; refine (lguess_any wr _ _ _ _ _ _ _ _ rfl rfl HXA.out HC2.out hxl (by omega) g HG.out).mono ?_; rintro e w3 ⟨rfl, rfl⟩)
          go_ret2
          exact Gave.none HR8.out hb.out
        by_cases hhi : 8388607 - g < r
        · have HR8 : Hid (R = ([], 8)) := hbad (by unfold isS; omega)
          clear hbad
          go_wp2_with (go_at_call 88; refine (lguess_any wr _ _ _ _ _ _ _ _ rfl rfl HXA.out HC2.out hxl (by omega) g HG.out).mono ?_; rintro e w3 ⟨rfl, rfl⟩)
          go_ret2
          exact Gave.none HR8.out hb.out
        · clear hbad
          have HSR : Hid (isS (g + r)) := by show isS _; unfold isS; omega
          go_wp2_with first
            | (go_at_call 88; refine (lguess_any wr _ _ _ _ _ _ _ _ rfl rfl HXA.out HC2.out hxl (by omega) g HG.out).mono ?_; rintro e w3 ⟨rfl, rfl⟩)
            | (at_builtin; go_must (refine wpList_append_int _ rfl (.tmp 47) (.tmp 51) 22 rfl w.heap.size i0 Try.underlying22 hi hz0 hz1 hz2 _ x rfl ho.out (g + r) rfl hxl hsz ?_))
          intro v' w' h1 h2
          have HB' : Hid (Below w.heap.size w w') := hb.out.trans h2.out
          have hxl' : (x ++ [g + r]).length ≤ 1000000 := by have := HXL.out; simp; omega
          have HXL' : Hid ((x ++ [g + r]).length = warm.length + (k + 1)) := by show _ = _; rw [List.length_append, HXL.out]; rfl
          have HT' : Hid (T = lrestZ cs (x ++ [g + r]) (res.drop (k + 1))) := by
            have := lrestZ_good HX.out (by rw [← HG.out]; exact HSR.out) T ht.out
            rw [← HG.out] at this
            exact this
          clear h2
          go_wp2_with fail
          exact ⟨⟨k + 1, x ++ [g + r], by omega, by go_num, hxl', HXL', hxs.out.snoc HSR.out, HT', h1, HB'⟩, by (simp [intOf]) <;> omega⟩
      · have e : k = res.length := by omega
        subst e
        have HX : Hid (lrestZ cs warm res = some x) := by
          show _ = _
          rw [← HTT.out]
          exact lrestZ_end T ht.out
        by_cases h64 : 64 < x.length
        · have HR4 : Hid (R = ([], 4)) := by show _ = _; rw [HR.out]; exact lrestOut_long HC1.out HWC.out HS.out HX.out h64
          go_wp2_with fail
          go_ret2
          exact Gave.none HR4.out hb.out
        · have HR0 : Hid (R = (x, 0)) := by show _ = _; rw [HR.out]; exact lrestOut_some HC1.out HWC.out HS.out HX.out h64
          go_wp2_with fail
          go_ret2
          rw [HR0.out]
          exact ⟨_, rfl, ho.out, hb.out⟩

end Go.Proofs.Ythkfaackkcdcoaa

/- The document's example of law06; its coefficients. -/
namespace Go.Proofs.Ythkfaackkcdcoaa
set_option linter.unusedVariables false
set_option linter.unusedSimpArgs false
open Go.RowKit Dg

end Go.Proofs.Ythkfaackkcdcoaa

/- LpcBack: the walk of the law. -/
namespace Go.Proofs.Ythkfaackkcdcoaa
set_option linter.unusedVariables false
set_option linter.unusedSimpArgs false
open Go.RowKit Dg

theorem lresOut_ok (l cs : List Int) (hc : areC cs) (hl : cs.length ≤ l.length) (h64 : l.length ≤ 64) (hS : allS l) : (lresidZ l cs, 0) = lresOut l cs := by
  unfold lresOut
  rw [if_neg (by simp [hc]; omega), if_pos hS, if_neg (by omega)]
theorem lresOut_arg (l cs : List Int) (h : ¬ areC cs ∨ l.length < cs.length) : ([], 1) = lresOut l cs := by
  unfold lresOut
  rw [if_pos h]
theorem lrestZ_resid (l cs : List Int) (hS : allS l) (m : Nat) : ∀ n, cs.length ≤ n → n + m = l.length → lrestZ cs (l.take n) ((lresidZ l cs).drop (n - cs.length)) = some l := by
  induction m with
  | zero =>
    intro n hn he
    rw [List.drop_of_length_le (by simp; omega), List.take_of_length_le (by omega)]
    rfl
  | succ m ih =>
    intro n hn he
    have hlt : n < l.length := by omega
    have hg := lresidZ_get l cs n hn hlt
    have hd : n - cs.length < (lresidZ l cs).length := by simp; omega
    have e1 : (lresidZ l cs)[n - cs.length] = l.getD n 0 - lguess (l.take n) cs := (List.getElem?_eq_some_iff.1 hg).2
    rw [List.drop_eq_getElem_cons hd, e1]
    simp only [lrestZ]
    have e2 : lguess (l.take n) cs + (l.getD n 0 - lguess (l.take n) cs) = l.getD n 0 := by omega
    rw [e2, if_pos (hS.at hlt)]
    have e3 : l.take n ++ [l.getD n 0] = l.take (n + 1) := (take_next l n _ (by simp [List.getD, hlt])).symm
    rw [e3, show n - cs.length + 1 = n + 1 - cs.length by omega]
    exact ih (n + 1) (by omega) (by omega)
theorem lrestOut_resid (l cs : List Int) (hc : areC cs) (hl : cs.length ≤ l.length) (h64 : l.length ≤ 64) (hS : allS l) : (l, 0) = lrestOut (l.take cs.length) (lresidZ l cs) cs := by
  have h := lrestZ_resid l cs hS (l.length - cs.length) cs.length (Nat.le_refl _) (by omega)
  rw [Nat.sub_self, List.drop_zero] at h
  exact (lrestOut_some hc (by simp; omega) (hS.take _) h (by omega)).symm
theorem lresidZ_i64 (l cs : List Int) (hS : allS l) : ∀ x ∈ lresidZ l cs, I64 x := by
  intro x hx
  unfold lresidZ at hx
  obtain ⟨j, hj, rfl⟩ := List.mem_map.1 hx
  have hj' := List.mem_range.1 hj
  have h1 := hS.at (k := cs.length + j) (by omega)
  have h2 := lguess_small (l.take (cs.length + j)) cs
  unfold isS at h1
  unfold I64
  omega

end Go.Proofs.Ythkfaackkcdcoaa

/- Walks over the small functions of package rice. -/
namespace Go.Proofs.Ythkfaackkcdcoaa
set_option linter.unusedVariables false
set_option linter.unusedSimpArgs false
open Go.RowKit Dg

/-- A number that may be. -/
def isNum (z : Int) : Bool := decide (0 ≤ z ∧ z < 4294967296)
/-- A parameter that may be. -/
def isPar (k : Int) : Bool := decide (0 ≤ k ∧ k ≤ 24)
/-- A number that is written raw. -/
def isRawOf (z : Int) (k : Nat) : Bool := decide (24 ≤ z / 2 ^ k)
/-- Zig, as the document says it. -/
def zigOf (n : Int) : Int := if n < -1099511627776 ∨ 1099511627776 ≤ n then 0 else if n < 0 then -2 * n - 1 else 2 * n
/-- Zag, as the document says it. -/
def zagOf (z : Int) : Int := if z < 0 ∨ 2199023255552 ≤ z then 0 else if z % 2 = 1 then -((z + 1) / 2) else z / 2
/-- The size of a number that may be, with a parameter that may be. -/
def sizeIn (z : Int) (k : Nat) : Int := if 24 ≤ z / 2 ^ k then 56 else z / 2 ^ k + 1 + k
/-- The size of a number. -/
def sizeOf1 (z k : Int) : Int := if isNum z = true ∧ isPar k = true then sizeIn z k.toNat else 0

theorem isNum_true {z : Int} (h : isNum z = true) : 0 ≤ z ∧ z < 4294967296 := by simpa [isNum] using h
theorem isNum_false {z : Int} (h : isNum z = false) : z < 0 ∨ 4294967296 ≤ z := by simp [isNum] at h; omega
theorem isPar_true {z : Int} (h : isPar z = true) : 0 ≤ z ∧ z ≤ 24 := by simpa [isPar] using h
theorem isPar_false {z : Int} (h : isPar z = false) : z < 0 ∨ 24 < z := by simp [isPar] at h; omega

theorem quot_le (z : Int) (k : Nat) (hz : 0 ≤ z) : 0 ≤ z / 2 ^ k ∧ z / 2 ^ k ≤ z := by
  have hp : (0 : Int) < 2 ^ k := Int.pow_pos (by decide)
  exact ⟨Int.ediv_nonneg hz (by omega), Int.ediv_le_self _ hz⟩

set_option maxHeartbeats 400000 in
theorem isNumber_any (z : Int) (w : World) :
    Calls Try.prog 95 #[.int .i64 z] w fun e w' => e = .returned (.bool (isNum z)) ∧ w = w' := by
  obtain ⟨b, hb⟩ : ∃ b, b = isNum z := ⟨_, rfl⟩
  rw [← hb]
  match b, hb with
  | true, hb =>
    obtain ⟨h1, h2⟩ := isNum_true hb.symm
    clear hb
    go_enter Try.func95, Try.ntmps95
    go_wp2
    go_ret
    exact ⟨rfl, rfl⟩
  | false, hb =>
    rcases isNum_false hb.symm with h1 | h1
    · clear hb
      go_enter Try.func95, Try.ntmps95
      go_wp2
      go_ret
      exact ⟨rfl, rfl⟩
    · clear hb
      have h2 : 0 ≤ z := by omega
      go_enter Try.func95, Try.ntmps95
      go_wp2
      go_ret
      refine ⟨?_, rfl⟩
      show Ending.returned (.bool (decide (z < 4294967296))) = _
      rw [decide_eq_false (by omega)]

set_option maxHeartbeats 400000 in
theorem isParameter_any (z : Int) (w : World) :
    Calls Try.prog 97 #[.int .i64 z] w fun e w' => e = .returned (.bool (isPar z)) ∧ w = w' := by
  obtain ⟨b, hb⟩ : ∃ b, b = isPar z := ⟨_, rfl⟩
  rw [← hb]
  match b, hb with
  | true, hb =>
    obtain ⟨h1, h2⟩ := isPar_true hb.symm
    clear hb
    go_enter Try.func97, Try.ntmps97
    go_wp2
    go_ret
    exact ⟨rfl, rfl⟩
  | false, hb =>
    rcases isPar_false hb.symm with h1 | h1
    · clear hb
      go_enter Try.func97, Try.ntmps97
      go_wp2
      go_ret
      exact ⟨rfl, rfl⟩
    · clear hb
      have h2 : 0 ≤ z := by omega
      go_enter Try.func97, Try.ntmps97
      go_wp2
      go_ret
      refine ⟨?_, rfl⟩
      show Ending.returned (.bool (decide (z ≤ 24))) = _
      rw [decide_eq_false (by omega)]

set_option maxHeartbeats 400000 in
theorem isRaw_any (z : Int) (k : Nat) (w : World) (h0 : 0 ≤ z) (h1 : z < 4294967296) (hk : k ≤ 62) :
    Calls Try.prog 98 #[.int .i64 z, .int .i64 k] w fun e w' => e = .returned (.bool (isRawOf z k)) ∧ w = w' := by
  go_enter Try.func98, Try.ntmps98
  go_wp2
  go_ret
  exact ⟨rfl, rfl⟩

set_option maxHeartbeats 1000000 in
theorem zig_any (n : Int) (w : World) :
    Calls Try.prog 78 #[.int .i64 n] w fun e w' => e = .returned (.int .i64 (zigOf n)) ∧ w = w' := by
  by_cases h1 : n < -1099511627776
  · have e : zigOf n = 0 := by simp [zigOf, h1]
    rw [e]
    go_enter Try.func78, Try.ntmps78
    go_wp2
    go_ret
    exact ⟨rfl, rfl⟩
  · by_cases h2 : 1099511627776 ≤ n
    · have e : zigOf n = 0 := by simp [zigOf, h2]
      rw [e]
      go_enter Try.func78, Try.ntmps78
      go_wp2
      go_ret
      exact ⟨rfl, rfl⟩
    · by_cases h3 : n < 0
      · have e : zigOf n = -2 * n - 1 := by simp only [zigOf]; rw [if_neg (by omega), if_pos h3]
        rw [e]
        clear e
        go_enter Try.func78, Try.ntmps78
        go_wp2
        go_ret
        exact ⟨rfl, rfl⟩
      · have e : zigOf n = 2 * n := by simp only [zigOf]; rw [if_neg (by omega), if_neg h3]
        rw [e]
        clear e
        go_enter Try.func78, Try.ntmps78
        go_wp2
        go_ret
        exact ⟨rfl, rfl⟩

theorem tdiv2_neg (z : Int) (h : 0 ≤ z) : (-(z + 1)).tdiv 2 = -((z + 1) / 2) := by
  rw [Int.neg_tdiv, Int.tdiv_eq_ediv_of_nonneg (by omega)]
theorem tdiv2_pos (z : Int) (h : 0 ≤ z) : z.tdiv 2 = z / 2 := Int.tdiv_eq_ediv_of_nonneg h
theorem tmod2_pos (z : Int) (h : 0 ≤ z) : z.tmod 2 = z % 2 := Int.tmod_eq_emod_of_nonneg h

set_option maxHeartbeats 1000000 in
theorem zag_any (n : Int) (w : World) :
    Calls Try.prog 90 #[.int .i64 n] w fun e w' => e = .returned (.int .i64 (zagOf n)) ∧ w = w' := by
  by_cases h1 : n < 0
  · have e : zagOf n = 0 := by simp [zagOf, h1]
    rw [e]
    go_enter Try.func90, Try.ntmps90
    go_wp2
    go_ret
    exact ⟨rfl, rfl⟩
  · by_cases h2 : 2199023255552 ≤ n
    · have e : zagOf n = 0 := by simp [zagOf, h2]
      rw [e]
      go_enter Try.func90, Try.ntmps90
      go_wp2
      go_ret
      exact ⟨rfl, rfl⟩
    · by_cases h3 : n % 2 = 1
      · have e : zagOf n = -((n + 1) / 2) := by simp only [zagOf]; rw [if_neg (by omega), if_pos h3]
        rw [e]
        clear e
        have hm : n.tmod 2 = 1 := by rw [tmod2_pos n (by omega)]; exact h3
        have hd := tdiv2_neg n (by omega)
        go_enter Try.func90, Try.ntmps90
        go_wp2
        all_goals go_ret
        all_goals exact ⟨rfl, rfl⟩
      · have e : zagOf n = n / 2 := by simp only [zagOf]; rw [if_neg (by omega), if_neg h3]
        rw [e]
        clear e
        have hm : n.tmod 2 = 0 := by rw [tmod2_pos n (by omega)]; omega
        have hd := tdiv2_pos n (by omega)
        go_enter Try.func90, Try.ntmps90
        go_wp2
        all_goals go_ret
        all_goals exact ⟨rfl, rfl⟩

set_option maxHeartbeats 1000000 in
theorem size_in (z : Int) (k : Nat) (w : World) (hz : isNum z = true) (hk : k ≤ 24) :
    Calls Try.prog 105 #[.int .i64 z, .int .i64 k] w fun e w' => e = .returned (.int .i64 (sizeIn z k)) ∧ w = w' := by
  have hp : isPar (k : Int) = true := by simp [isPar]; omega
  obtain ⟨h1, h2⟩ := isNum_true hz
  obtain ⟨h3, h4⟩ := quot_le z k h1
  by_cases hr : 24 ≤ z / 2 ^ k
  · have er : isRawOf z k = true := by simp [isRawOf, hr]
    have e : sizeIn z k = 56 := by simp [sizeIn, hr]
    rw [e]
    clear e
    go_enter Try.func105, Try.ntmps105
    go_wp2_with first
      | (go_at_call 95; refine (isNumber_any z w).mono ?_; rw [hz]; rintro e w2 ⟨rfl, rfl⟩)
      | (go_at_call 97; refine (isParameter_any k w).mono ?_; rw [hp]; rintro e w2 ⟨rfl, rfl⟩)
      | (go_at_call 98; refine (isRaw_any z k w h1 h2 (by omega)).mono ?_; rw [er]; rintro e w2 ⟨rfl, rfl⟩)
    go_ret
    exact ⟨rfl, rfl⟩
  · have er : isRawOf z k = false := by simp [isRawOf, hr]
    have e : sizeIn z k = z / 2 ^ k + 1 + k := by simp [sizeIn, hr]
    rw [e]
    clear e
    go_enter Try.func105, Try.ntmps105
    go_wp2_with first
      | (go_at_call 95; refine (isNumber_any z w).mono ?_; rw [hz]; rintro e w2 ⟨rfl, rfl⟩)
      | (go_at_call 97; refine (isParameter_any k w).mono ?_; rw [hp]; rintro e w2 ⟨rfl, rfl⟩)
      | (go_at_call 98; refine (isRaw_any z k w h1 h2 (by omega)).mono ?_; rw [er]; rintro e w2 ⟨rfl, rfl⟩)
    go_ret
    exact ⟨rfl, rfl⟩

set_option maxHeartbeats 1000000 in
theorem size_any (z k : Int) (w : World) :
    Calls Try.prog 105 #[.int .i64 z, .int .i64 k] w fun e w' => e = .returned (.int .i64 (sizeOf1 z k)) ∧ w = w' := by
  by_cases hz : isNum z = true
  · by_cases hk : isPar k = true
    · have e : sizeOf1 z k = sizeIn z k.toNat := by simp [sizeOf1, hz, hk]
      obtain ⟨h1, h2⟩ := isPar_true hk
      have ek : k = (k.toNat : Int) := by omega
      rw [e]
      have := size_in z k.toNat w hz (by omega)
      rw [← ek] at this
      exact this
    · have e : sizeOf1 z k = 0 := by simp [sizeOf1, hk]
      rw [e]
      clear e
      have hk : isPar k = false := by simpa using hk
      go_enter Try.func105, Try.ntmps105
      go_wp2_with first
        | (go_at_call 95; refine (isNumber_any z w).mono ?_; rw [hz]; rintro e w2 ⟨rfl, rfl⟩)
        | (go_at_call 97; refine (isParameter_any k w).mono ?_; rw [hk]; rintro e w2 ⟨rfl, rfl⟩)
      go_ret
      exact ⟨rfl, rfl⟩
  · have e : sizeOf1 z k = 0 := by simp [sizeOf1, hz]
    rw [e]
    clear e
    have hz : isNum z = false := by simpa using hz
    go_enter Try.func105, Try.ntmps105
    go_wp2_with first
      | (go_at_call 95; refine (isNumber_any z w).mono ?_; rw [hz]; rintro e w2 ⟨rfl, rfl⟩)
    go_ret
    exact ⟨rfl, rfl⟩

theorem size_wake : sizeOf1 5 1 = 4 := by decide
theorem zig_wake : zigOf (-1) = 1 := by decide

end Go.Proofs.Ythkfaackkcdcoaa

/- Put of package rice. -/
namespace Go.Proofs.Ythkfaackkcdcoaa
set_option linter.unusedVariables false
set_option linter.unusedSimpArgs false
open Go.RowKit Dg

/-- A number's digits, as the document says them. -/
def riceDig (z : Int) (k : Nat) : List Bool := if 24 ≤ z / 2 ^ k then List.replicate 24 true ++ dig z 32 else (List.replicate (z / 2 ^ k).toNat true ++ [false]) ++ dig z k

theorem length_riceDig (z : Int) (k : Nat) (hz : 0 ≤ z) : ((riceDig z k).length : Int) = sizeIn z k := by
  have := quot_le z k hz
  unfold riceDig sizeIn
  split <;> simp <;> omega
theorem length_riceDig_le (z : Int) (k : Nat) (hz : 0 ≤ z) (hk : k ≤ 24) : (riceDig z k).length ≤ 56 := by
  have := quot_le z k hz
  have e := length_riceDig z k hz
  unfold sizeIn at e
  split at e <;> omega

theorem ones_at (w : World) (b : Nat) (rv : Value) (ds : List Bool) (n : Nat) (h : WrAt w b rv ds) (hlt : ds.length < 4398046500000) (hn : n ≤ 1024) (I : Int) (hI : I = (n : Int)) :
    Calls Try.prog 99 #[.pointer (some ⟨b, 0, none⟩), .int .i64 I] w fun e w' => e = .returned (.bool true) ∧ Wrote w w' b rv (ds ++ (List.replicate n true ++ [false])) := by
  subst hI
  exact ones_any w b rv ds n h hlt hn

theorem dig_ones : dig (-1) 24 = List.replicate 24 true := by decide

set_option maxHeartbeats 1000000 in
theorem ricePut_bad (w : World) (p : Value) (z k : Int) (h : (isNum z && isPar k) = false) :
    Calls Try.prog 80 #[p, .int .i64 z, .int .i64 k] w fun e w' => e = .returned (.bool false) ∧ w = w' := by
  cases hz : isNum z with
  | false =>
    have HZ : Hid (isNum z = false) := hz
    clear h hz
    go_enter Try.func80, Try.ntmps80
    go_wp2_with (go_at_call 95; refine (isNumber_any z w).mono ?_; rw [HZ.out]; rintro e w2 ⟨rfl, rfl⟩)
    go_ret
    exact ⟨rfl, rfl⟩
  | true =>
    have HZ : Hid (isNum z = true) := hz
    have HK : Hid (isPar k = false) := by show _ = _; simpa [hz] using h
    clear h hz
    go_enter Try.func80, Try.ntmps80
    go_wp2_with first
      | (go_at_call 95; refine (isNumber_any z w).mono ?_; rw [HZ.out]; rintro e w2 ⟨rfl, rfl⟩)
      | (go_at_call 97; refine (isParameter_any k w).mono ?_; rw [HK.out]; rintro e w2 ⟨rfl, rfl⟩)
    go_ret
    exact ⟨rfl, rfl⟩

set_option maxHeartbeats 2000000 in
theorem ricePut_any (w : World) (b : Nat) (rv : Value) (ds : List Bool) (z : Int) (k : Nat) (h : WrAt w b rv ds) (hlt : ds.length ≤ 1000000) (hz : isNum z = true) (hk : k ≤ 24) :
    Calls Try.prog 80 #[.pointer (some ⟨b, 0, none⟩), .int .i64 z, .int .i64 k] w fun e w' => e = .returned (.bool true) ∧ Wrote w w' b rv (ds ++ riceDig z k) := by
  have hp : isPar (k : Int) = true := by simp [isPar]; omega
  obtain ⟨h1, h2⟩ := isNum_true hz
  obtain ⟨h3, h4⟩ := quot_le z k h1
  have HZ : Hid (isNum z = true) := hz
  have HP : Hid (isPar (k : Int) = true) := hp
  have HW : Hid (WrAt w b rv ds) := h
  clear hz hp h
  by_cases hr : 24 ≤ z / 2 ^ k
  · have er : isRawOf z k = true := by simp [isRawOf, hr]
    have HR : Hid (isRawOf z k = true) := er
    have HD : Hid (riceDig z k = List.replicate 24 true ++ dig z 32) := by show _ = _; simp only [riceDig]; rw [if_pos hr]
    clear er
    obtain ⟨d1, hd1⟩ : ∃ d1, d1 = ds ++ dig (-1) 24 := ⟨_, rfl⟩
    have HD1 : Hid (d1 = ds ++ dig (-1) 24) := hd1
    have hl1 : d1.length < 4398046511000 := by rw [hd1]; simp; omega
    clear hd1
    go_enter Try.func80, Try.ntmps80
    go_wp2_with first
      | (go_at_call 95; refine (isNumber_any z w).mono ?_; rw [HZ.out]; rintro e w2 ⟨rfl, rfl⟩)
      | (go_at_call 97; refine (isParameter_any k w).mono ?_; rw [HP.out]; rintro e w2 ⟨rfl, rfl⟩)
      | (go_at_call 98; refine (isRaw_any z k w h1 h2 (by omega)).mono ?_; rw [HR.out]; rintro e w2 ⟨rfl, rfl⟩)
      | fail
    refine (put_any w b rv ds (-1) 24 HW.out (by omega) (by decide)).mono ?_
    rw [← HD1.out]
    rintro e w1 ⟨rfl, rv1, hw1, hk1, hn1⟩
    have HW1 : Hid (WrAt w1 b rv1 d1) := hw1
    have HK1 : Hid (Kept (Wf b rv) w w1) := hk1
    have HN1 : Hid (∀ k, rv1.ownBlock = some k → rv.ownBlock = some k ∨ w.heap.size ≤ k) := hn1
    clear hw1 hk1 hn1
    go_wp2_with fail
    refine (put_any w1 b rv1 d1 z 32 HW1.out hl1 (by decide)).mono ?_
    rintro e w2 ⟨rfl, hw2⟩
    have HW2 : Hid (Wrote w1 w2 b rv1 (d1 ++ dig z 32)) := hw2
    clear hw2
    go_wp2
    go_ret
    refine ⟨rfl, ?_⟩
    have := Wrote.trans HK1.out HN1.out HW2.out
    rw [HD1.out, dig_ones, List.append_assoc, ← HD.out] at this
    exact this
  · have er : isRawOf z k = false := by simp [isRawOf, hr]
    have HR : Hid (isRawOf z k = false) := er
    obtain ⟨q, hq⟩ : ∃ q : Nat, q = (z / 2 ^ k).toNat := ⟨_, rfl⟩
    have HD : Hid (riceDig z k = (List.replicate q true ++ [false]) ++ dig z k) := by show _ = _; simp only [riceDig]; rw [if_neg hr, hq]
    have hqz : z / 2 ^ k = (q : Int) := by omega
    have HQ : Hid (z / 2 ^ k = (q : Int)) := hqz
    have hq24 : q < 24 := by omega
    clear er hq hqz
    obtain ⟨d1, hd1⟩ : ∃ d1, d1 = ds ++ (List.replicate q true ++ [false]) := ⟨_, rfl⟩
    have HD1 : Hid (d1 = ds ++ (List.replicate q true ++ [false])) := hd1
    have hl1 : d1.length < 4398046511000 := by rw [hd1]; simp; omega
    clear hd1
    go_enter Try.func80, Try.ntmps80
    go_wp2_with first
      | (go_at_call 95; refine (isNumber_any z w).mono ?_; rw [HZ.out]; rintro e w2 ⟨rfl, rfl⟩)
      | (go_at_call 97; refine (isParameter_any k w).mono ?_; rw [HP.out]; rintro e w2 ⟨rfl, rfl⟩)
      | (go_at_call 98; refine (isRaw_any z k w h1 h2 (by omega)).mono ?_; rw [HR.out]; rintro e w2 ⟨rfl, rfl⟩)
      | fail
    refine (ones_at w b rv ds q HW.out (by omega) (by omega) _ HQ.out).mono ?_
    rw [← HD1.out]
    rintro e w1 ⟨rfl, rv1, hw1, hk1, hn1⟩
    have HW1 : Hid (WrAt w1 b rv1 d1) := hw1
    have HK1 : Hid (Kept (Wf b rv) w w1) := hk1
    have HN1 : Hid (∀ k, rv1.ownBlock = some k → rv.ownBlock = some k ∨ w.heap.size ≤ k) := hn1
    clear hw1 hk1 hn1
    go_wp2_with fail
    refine (put_any w1 b rv1 d1 z k HW1.out hl1 (by omega)).mono ?_
    rintro e w2 ⟨rfl, hw2⟩
    have HW2 : Hid (Wrote w1 w2 b rv1 (d1 ++ dig z k)) := hw2
    clear hw2
    go_wp2
    go_ret
    refine ⟨rfl, ?_⟩
    have := Wrote.trans HK1.out HN1.out HW2.out
    rw [HD1.out, List.append_assoc, ← HD.out] at this
    exact this

end Go.Proofs.Ythkfaackkcdcoaa

/- The document's own answers, by their contracts: digits as bytes: Get, TakeOnes, Rest. -/
namespace Go.Proofs.Ythkfaackkcdcoaa
set_option linter.unusedVariables false
set_option linter.unusedSimpArgs false
open Go.RowKit Dg

/-- Digits, a byte each, that can be read. -/
def BtAt (w : World) (v : Value) (ds : List Bool) : Prop :=
  (v = .slice none 0 0 ∧ ds = []) ∨
  ∃ b off cap, v = .slice (some ⟨b, off, none⟩) ds.length cap ∧ b < w.heap.size ∧ ds.length ≤ cap ∧ cap ≤ maxLen ∧ ∀ j d, ds[j]? = some d → w.cell? ⟨b, off + j, none⟩ = some (.int .u8 (d.toNat : Int))

theorem BtAt.kept {w w' : World} {v : Value} {ds : List Bool} {F : Nat → Prop} (h : BtAt w v ds) (hk : Kept F w w') (hF : ∀ k, v.ownBlock = some k → ¬ F k) : BtAt w' v ds := by
  rcases h with h | ⟨b, off, cap, rfl, hb, hl, hm, hc⟩
  · exact Or.inl h
  · refine Or.inr ⟨b, off, cap, rfl, Nat.lt_of_lt_of_le hb hk.size, hl, hm, fun j d hd => ?_⟩
    rw [hk.cell hb (hF b rfl)]
    exact hc j d hd
theorem BtAt.below {w w' : World} {v : Value} {ds : List Bool} (h : BtAt w v ds) (hb : Below w.heap.size w w') : BtAt w' v ds :=
  h.kept (F := fun _ => False) (Kept.of_below hb) (fun _ _ h => h)
theorem BtAt.drew {w : World} {v : Value} {ds : List Bool} (h : BtAt w v ds) : BtAt w.drew v ds := h
theorem BtAt.drewN {w : World} {v : Value} {ds : List Bool} (n : Nat) (h : BtAt w v ds) : BtAt (w.drewN n) v ds := h
theorem BtAt.lt {w : World} {v : Value} {ds : List Bool} (h : BtAt w v ds) : ∀ k, v.ownBlock = some k → k < w.heap.size := by
  rcases h with ⟨rfl, _⟩ | ⟨b, off, cap, rfl, hb, _⟩
  · intro k hk; simp [Value.ownBlock] at hk
  · intro k hk; simp [Value.ownBlock] at hk; omega

/-- What is behind the first n digits. -/
theorem BtAt.drop {w : World} {b off cap o n : Nat} {ds : List Bool} (hb : b < w.heap.size) (hn : n ≤ ds.length) (hl : ds.length ≤ cap) (hm : cap ≤ maxLen) (hc : ∀ j d, ds[j]? = some d → w.cell? ⟨b, off + j, none⟩ = some (.int .u8 (d.toNat : Int))) (ho : cap ≠ n → o = off + n) :
    BtAt w (.slice (some ⟨b, o, none⟩) (ds.length - n) (cap - n)) (ds.drop n) := by
  refine Or.inr ⟨b, o, cap - n, by simp, hb, by simp; omega, by omega, fun j d hd => ?_⟩
  have hj : n + j < ds.length := by
    have := (List.getElem?_eq_some_iff.1 hd).1
    simp at this; omega
  rw [ho (by omega)]
  rw [List.getElem?_drop] at hd
  have := hc (n + j) d hd
  rw [Nat.add_assoc]
  exact this

/-- Get: what comes, how many are taken, whether it may be. -/
def getOut (ds : List Bool) (n : Int) : Nat × Nat × Bool :=
  if 0 ≤ n ∧ n ≤ 62 ∧ n ≤ ds.length then (num (ds.take n.toNat), n.toNat, true) else (0, 0, false)

end Go.Proofs.Ythkfaackkcdcoaa

/- The document's own answers, by their contracts: TakeOnes, Rest. -/
namespace Go.Proofs.Ythkfaackkcdcoaa
set_option linter.unusedVariables false
set_option linter.unusedSimpArgs false
open Go.RowKit Dg

/-- How many ones are ahead, m at most. -/
def lead : List Bool → Nat → Nat
  | [], _ => 0
  | _ :: _, 0 => 0
  | true :: ds, m + 1 => lead ds m + 1
  | false :: _, _ + 1 => 0
theorem lead_le (ds : List Bool) : ∀ m, lead ds m ≤ m := by
  induction ds with
  | nil => intro m; simp [lead]
  | cons d ds ih =>
    intro m
    cases m with
    | zero => simp [lead]
    | succ m => cases d with
      | true => have := ih m; simp [lead]; omega
      | false => simp [lead]
theorem lead_le_length (ds : List Bool) : ∀ m, lead ds m ≤ ds.length := by
  induction ds with
  | nil => intro m; simp [lead]
  | cons d ds ih =>
    intro m
    cases m with
    | zero => simp [lead]
    | succ m => cases d with
      | true => have := ih m; simp [lead]; omega
      | false => simp [lead]
theorem lead_true (ds : List Bool) : ∀ m i, i < lead ds m → ds[i]? = some true := by
  induction ds with
  | nil => intro m i h; simp [lead] at h
  | cons d ds ih =>
    intro m i h
    cases m with
    | zero => simp [lead] at h
    | succ m => cases d with
      | true =>
        simp only [lead] at h
        cases i with
        | zero => rfl
        | succ i => rw [List.getElem?_cons_succ]; exact ih m i (by omega)
      | false => simp [lead] at h
theorem lead_false (ds : List Bool) : ∀ m, lead ds m < m → lead ds m < ds.length → ds[lead ds m]? = some false := by
  induction ds with
  | nil => intro m _ h; simp at h
  | cons d ds ih =>
    intro m h1 h2
    cases m with
    | zero => omega
    | succ m => cases d with
      | true =>
        simp only [lead, List.length_cons] at h1 h2 ⊢
        rw [List.getElem?_cons_succ]
        exact ih m (by omega) (by omega)
      | false => simp [lead]

/-- Ones: what comes, how many are taken, whether it may be. -/
def onesOut (ds : List Bool) (most : Int) : Nat × Nat × Bool :=
  if 0 ≤ most ∧ most ≤ 1024 then
    if lead ds most.toNat = most.toNat then (most.toNat, most.toNat, true)
    else if lead ds most.toNat = ds.length then (0, 0, false)
    else (lead ds most.toNat, lead ds most.toNat + 1, true)
  else (0, 0, false)

end Go.Proofs.Ythkfaackkcdcoaa
