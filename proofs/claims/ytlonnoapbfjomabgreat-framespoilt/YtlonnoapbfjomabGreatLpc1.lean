/- The small functions of lpc, and Guess. -/
import Derived.Test.YtlonnoapbfjomabGreatLpcMath
namespace Go.Proofs.YtlonnoapbfjomabGreat
set_option linter.unusedVariables false
set_option linter.unusedSimpArgs false
open Go.RowKit Dg

set_option maxHeartbeats 1000000 in
theorem lis_any (w : World) (c : Int) (t : Bool) (ht : t = decide (isC c)) :
    Calls Tryz.prog 105 #[.int .i64 c] w fun e w' => e = .returned (.bool t) ∧ w = w' := by
  have HT : Hid (t = decide (isC c)) := ht
  clear ht
  by_cases h1 : -32768 ≤ c
  · by_cases h2 : c ≤ 32767
    · have e : t = true := by rw [HT.out]; exact decide_eq_true ⟨h1, h2⟩
      subst e
      go_enter Tryz.func105, Tryz.ntmps105
      go_wp2_with fail
      go_ret
      exact ⟨rfl, rfl⟩
    · have e : t = false := by rw [HT.out]; exact decide_eq_false (fun h => h2 h.2)
      subst e
      go_enter Tryz.func105, Tryz.ntmps105
      go_wp2_with fail
      go_ret
      exact ⟨rfl, rfl⟩
  · have e : t = false := by rw [HT.out]; exact decide_eq_false (fun h => h1 h.1)
    subst e
    go_enter Tryz.func105, Tryz.ntmps105
    go_wp2_with fail
    go_ret
    exact ⟨rfl, rfl⟩

set_option maxHeartbeats 1000000 in
theorem lare_any (w : World) (a : Option Addr) (cap : Nat) (l : List Int) (h : IntsAt w a l) (hl : l.length ≤ 1000000) (t : Bool) (ht : t = decide (allS l)) :
    Calls Tryz.prog 93 #[.slice a l.length cap] w fun e w' => e = .returned (.bool t) ∧ w = w' := by
  have H : Hid (IntsAt w a l) := h
  have HT : Hid (t = decide (allS l)) := ht
  clear h ht
  go_enter Tryz.func93, Tryz.ntmps93
  go_wp2
  go_loopw [7] (fun i wr => ∃ k : Nat, k ≤ l.length ∧ i = .int .i64 k ∧ Hid (allS (l.take k)) ∧ w = wr) (fun i _ => l.length - (intOf i).toNat)
  case atStart => exact ⟨0, Nat.zero_le _, rfl, fun x hx => by simp at hx, rfl⟩
  case round =>
    obtain ⟨k, hk, rfl, hall, rfl⟩ := hrel
    by_cases hkn : k < l.length
    · obtain ⟨x, hx⟩ : ∃ x, l[k]? = some x := ⟨l[k], by simp [hkn]⟩
      obtain ⟨b, off, rfl, hc⟩ := H.out k x hx
      have HX : Hid (l[k]? = some x) := hx
      clear hx
      have hbad : ¬ isS x → t = false := fun hn => by
        rw [HT.out]
        exact decide_eq_false (fun ha => hn (ha x (List.mem_of_getElem? HX.out)))
      by_cases hlo : x < -8388608
      · have ht := hbad (by unfold isS; omega)
        subst ht
        clear hbad
        go_wp2_with fail
        go_ret
        exact ⟨rfl, rfl⟩
      · by_cases hhi : 8388607 < x
        · have ht := hbad (by unfold isS; omega)
          subst ht
          clear hbad
          go_wp2_with fail
          go_ret
          exact ⟨rfl, rfl⟩
        · clear hbad
          go_wp2_with fail
          refine ⟨⟨k + 1, by omega, by go_num, ?_, by trivial⟩, by (simp [intOf]) <;> omega⟩
          show allS _
          rw [take_next l k x HX.out]
          exact hall.out.snoc (by unfold isS; omega)
    · have e : k = l.length := by omega
      subst e
      have ht : t = true := by
        have := hall.out
        rw [List.take_length] at this
        rw [HT.out]; exact decide_eq_true this
      subst ht
      go_wp2_with fail
      go_ret
      exact ⟨rfl, rfl⟩

set_option maxHeartbeats 1000000 in
theorem lcoefs_any (w : World) (a : Option Addr) (cap : Nat) (l : List Int) (h : IntsAt w a l) (hl : l.length ≤ 1000000) (t : Bool) (ht : t = decide (areC l)) :
    Calls Tryz.prog 92 #[.slice a l.length cap] w fun e w' => e = .returned (.bool t) ∧ w = w' := by
  have H : Hid (IntsAt w a l) := h
  have HT : Hid (t = decide (areC l)) := ht
  clear h ht
  by_cases h1 : l.length < 1
  · have e : t = false := by rw [HT.out]; exact decide_eq_false (fun h => by have := h.1; omega)
    subst e
    go_enter Tryz.func92, Tryz.ntmps92
    go_wp2_with fail
    go_ret
    exact ⟨rfl, rfl⟩
  by_cases h2 : 12 < l.length
  · have e : t = false := by rw [HT.out]; exact decide_eq_false (fun h => by have := h.2.1; omega)
    subst e
    go_enter Tryz.func92, Tryz.ntmps92
    go_wp2_with fail
    go_ret
    exact ⟨rfl, rfl⟩
  go_enter Tryz.func92, Tryz.ntmps92
  go_wp2_with fail
  go_loopw [15] (fun i wr => ∃ k : Nat, k ≤ l.length ∧ i = .int .i64 k ∧ Hid (allC (l.take k)) ∧ w = wr) (fun i _ => l.length - (intOf i).toNat)
  case atStart => exact ⟨0, Nat.zero_le _, rfl, fun x hx => by simp at hx, rfl⟩
  case round =>
    obtain ⟨k, hk, rfl, hall, rfl⟩ := hrel
    by_cases hkn : k < l.length
    · obtain ⟨x, hx⟩ : ∃ x, l[k]? = some x := ⟨l[k], by simp [hkn]⟩
      obtain ⟨b, off, rfl, hc⟩ := H.out k x hx
      have HX : Hid (l[k]? = some x) := hx
      clear hx
      by_cases hC : isC x
      · have HC : Hid (true = decide (isC x)) := (decide_eq_true hC).symm
        have HC' : Hid (isC x) := hC
        clear hC
        go_wp2_with (go_at_call 105; refine (lis_any _ _ true HC.out).mono ?_; rintro e w1 ⟨rfl, rfl⟩)
        refine ⟨⟨k + 1, by omega, by go_num, ?_, by trivial⟩, by (simp [intOf]) <;> omega⟩
        show allC _
        rw [take_next l k x HX.out]
        exact hall.out.snoc HC'.out
      · have HC : Hid (false = decide (isC x)) := (decide_eq_false hC).symm
        have e : t = false := by rw [HT.out]; exact decide_eq_false (fun h => hC (h.2.2 x (List.mem_of_getElem? HX.out)))
        subst e
        clear hC
        go_wp2_with (go_at_call 105; refine (lis_any _ _ false HC.out).mono ?_; rintro e w1 ⟨rfl, rfl⟩)
        go_ret
        exact ⟨rfl, rfl⟩
    · have e : k = l.length := by omega
      subst e
      have ht : t = true := by
        have := hall.out
        rw [List.take_length] at this
        rw [HT.out]; exact decide_eq_true ⟨by omega, by omega, this⟩
      subst ht
      go_wp2_with fail
      go_ret
      exact ⟨rfl, rfl⟩

set_option maxHeartbeats 1000000 in
theorem lguess_any (w : World) (a ca : Option Addr) (n m cap cc : Nat) (past cs : List Int) (hn : past.length = n) (hm : cs.length = m) (h : IntsAt w a past) (hc : IntsAt w ca cs) (hl : past.length ≤ 1000000) (hcl : cs.length ≤ 1000000) (g : Int) (hg : g = lguess past cs) :
    Calls Tryz.prog 94 #[.slice a n cap, .slice ca m cc] w fun e w' => e = .returned (.int .i64 g) ∧ w = w' := by
  subst hn hm
  have H : Hid (IntsAt w a past) := h
  have HC : Hid (IntsAt w ca cs) := hc
  have HG : Hid (g = lguess past cs) := hg
  clear h hc hg
  obtain ⟨q, hq⟩ : ∃ q, q = terms past cs := ⟨_, rfl⟩
  obtain ⟨hq1, hq2, hq3⟩ := terms_le past cs
  rw [← hq] at hq1 hq2 hq3
  have HQ := hid_of hq
  clear hq
  rcases (by omega : (cs.length < past.length ∧ 12 < cs.length) ∨ (cs.length < past.length ∧ cs.length ≤ 12) ∨ (past.length ≤ cs.length ∧ 12 < past.length) ∨ (past.length ≤ cs.length ∧ past.length ≤ 12)) with ⟨u1, u2⟩ | ⟨u1, u2⟩ | ⟨u1, u2⟩ | ⟨u1, u2⟩
  all_goals
    go_enter Tryz.func94, Tryz.ntmps94
    go_wp2_with fail
    go_loopw [5, 13] (fun s i wr => ∃ (k : Nat) (t : Int), k ≤ q ∧ s = .int .i64 t ∧ i = .int .i64 k ∧ Hid (t = lsum past cs k) ∧ w = wr) (fun _ i _ => q - (intOf i).toNat)
    case atStart => exact ⟨0, 0, Nat.zero_le _, rfl, rfl, rfl, rfl⟩
    case round =>
      obtain ⟨k, t, hk, rfl, rfl, ht, rfl⟩ := hrel
      have htb := lsum_small past cs k
      rw [← ht.out] at htb
      obtain ⟨ht1, ht2⟩ := htb
      have ht1' : -6597069766656 ≤ t := by omega
      have ht2' : t ≤ 6597069766656 := by omega
      clear ht1 ht2
      by_cases hkn : k < q
      · obtain ⟨c, hcx⟩ : ∃ x, cs[k]? = some x := ⟨cs[k]'(by omega), by simp⟩
        obtain ⟨b1, o1, rfl, hc1⟩ := HC.out k c hcx
        obtain ⟨m, hm⟩ : ∃ m, m = past.length - 1 - k := ⟨_, rfl⟩
        have hml : m < past.length := by omega
        obtain ⟨x, hx⟩ : ∃ x, past[m]? = some x := ⟨past[m], by simp [hml]⟩
        obtain ⟨b2, o2, rfl, hc2⟩ := H.out m x hx
        have hmI : (past.length : Int) - 1 - (k : Int) = (m : Int) := by omega
        have HNX : Hid (t + term c x = lsum past cs (k + 1)) := by
          show _ = _
          simp only [lsum]
          rw [getD_of hcx, ← hm, getD_of hx, ← ht.out]
        have hkc : k < cs.length := by omega
        have hkp : k < past.length := by omega
        have hkk : k < 12 := by omega
        clear hm hcx hx
        by_cases hC : isC c
        · have HT1 : Hid (true = decide (isC c)) := (decide_eq_true hC).symm
          by_cases hx1 : -16777216 ≤ x
          · by_cases hx2 : x ≤ 16777216
            · obtain ⟨p, hp⟩ : ∃ p, p = c * x := ⟨_, rfl⟩
              have hp12 := mul_bound hC ⟨hx1, hx2⟩
              rw [← hp] at hp12
              obtain ⟨hp1, hp2⟩ := hp12
              have HP : Hid (c * x = p) := hp.symm
              have HN : Hid (t + p = lsum past cs (k + 1)) := by
                show _ = _
                rw [← HNX.out]; unfold term; rw [if_pos ⟨hC, hx1, hx2⟩, hp]
              clear hp hC
              go_wp2_with (go_at_call 105; refine (lis_any _ _ true HT1.out).mono ?_; rintro e w1 ⟨rfl, rfl⟩)
              rw [HP.out, Go.IntWalk.wrap64_in p (by omega), Go.IntWalk.wrap64_in (t + p) (by omega)]
              exact ⟨⟨k + 1, t + p, by omega, rfl, by go_num, HN, by trivial⟩, by (simp [intOf]) <;> omega⟩
            · have HN : Hid (t = lsum past cs (k + 1)) := by
                show _ = _
                rw [← HNX.out]; unfold term; rw [if_neg (fun h => hx2 h.2.2)]; omega
              clear hC
              go_wp2_with (go_at_call 105; refine (lis_any _ _ true HT1.out).mono ?_; rintro e w1 ⟨rfl, rfl⟩)
              exact ⟨⟨k + 1, t, by omega, rfl, by go_num, HN, by trivial⟩, by (simp [intOf]) <;> omega⟩
          · have HN : Hid (t = lsum past cs (k + 1)) := by
              show _ = _
              rw [← HNX.out]; unfold term; rw [if_neg (fun h => hx1 h.2.1)]; omega
            clear hC
            go_wp2_with (go_at_call 105; refine (lis_any _ _ true HT1.out).mono ?_; rintro e w1 ⟨rfl, rfl⟩)
            exact ⟨⟨k + 1, t, by omega, rfl, by go_num, HN, by trivial⟩, by (simp [intOf]) <;> omega⟩
        · have HT1 : Hid (false = decide (isC c)) := (decide_eq_false hC).symm
          have HN : Hid (t = lsum past cs (k + 1)) := by
            show _ = _
            rw [← HNX.out]; unfold term; rw [if_neg (fun h => hC h.1)]; omega
          clear hC
          go_wp2_with (go_at_call 105; refine (lis_any _ _ false HT1.out).mono ?_; rintro e w1 ⟨rfl, rfl⟩)
          exact ⟨⟨k + 1, t, by omega, rfl, by go_num, HN, by trivial⟩, by (simp [intOf]) <;> omega⟩
      · have e : k = q := by omega
        have HE : Hid (t / 4096 = g) := by show _ = _; rw [ht.out, HG.out, e, HQ.out]; rfl
        first
          | (have e2 : k = 12 := by have h2 := HQ.out; unfold terms at h2; omega)
          | (have e2 : k = cs.length := by have h2 := HQ.out; unfold terms at h2; omega)
          | (have e2 : k = past.length := by have h2 := HQ.out; unfold terms at h2; omega)
        clear e hq1 hq2 hq3 hk hkn HQ
        subst e2
        go_wp2_with fail
        go_ret
        rw [HE.out]
        exact ⟨rfl, rfl⟩

end Go.Proofs.YtlonnoapbfjomabGreat
