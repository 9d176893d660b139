/- The document's own answers of chapter 6: down, Guess, MayCoefs. -/
import Derived.Test.YtlonnoapbfjomabGreatLpc2
import Derived.BigQuiet
namespace Go.Proofs.YtlonnoapbfjomabGreat
set_option linter.unusedVariables false
set_option linter.unusedSimpArgs false
open Go.RowKit Dg

theorem tdiv_low {s : Int} (h : s < 0) (h0 : s.tmod 4096 = 0) : s.tdiv 4096 = s / 4096 := by
  have h1 := Int.mul_tdiv_add_tmod s 4096
  omega
theorem tdiv_down {s : Int} (h : s < 0) (h0 : s.tmod 4096 ≠ 0) : s.tdiv 4096 - 1 = s / 4096 := by
  have h1 := Int.mul_tdiv_add_tmod s 4096
  have h2 : s.tmod 4096 = -((-s).tmod 4096) := by rw [Int.neg_tmod]; omega
  have h3 : (-s).tmod 4096 = (-s) % 4096 := Int.tmod_eq_emod_of_nonneg (by omega)
  omega
set_option maxHeartbeats 1000000 in
theorem rdown_any (w : World) (s g : Int) (h1 : -6597069766656 ≤ s) (h2 : s ≤ 6597069766656) (hg : s / 4096 = g) :
    Calls Tryz.prog 46 #[.int .i64 s, .int .i64 4096] w fun e w' => e = .returned (.int .i64 g) ∧ w = w' := by
  have HG := hid_of hg
  clear hg
  by_cases h0 : 0 ≤ s
  · go_enter Tryz.func46, Tryz.ntmps46
    go_wp2_with fail
    all_goals
      rw [HG.out]
      go_ret
      exact ⟨rfl, rfl⟩
  · have hneg : s < 0 := by omega
    by_cases hm : s.tmod 4096 = 0
    · have ht := tdiv_low hneg hm
      have hmb : (s.tmod 4096 != 0) = false := by simpa using hm
      have HT := hid_of ht
      clear ht
      go_enter Tryz.func46, Tryz.ntmps46
      go_wp2_with fail
      rw [HT.out, HG.out]
      go_ret
      exact ⟨rfl, rfl⟩
    · have ht := tdiv_down hneg hm
      have hmb : (s.tmod 4096 != 0) = true := by simpa using hm
      have HW : Hid (wrap64 (s.tdiv 4096 - 1) = g) := by
        show _ = _
        rw [ht, HG.out]
        exact Go.IntWalk.wrap64_in _ (by have := HG.out; omega)
      clear ht
      go_enter Tryz.func46, Tryz.ntmps46
      go_wp2_with fail
      rw [HW.out]
      go_ret
      exact ⟨rfl, rfl⟩

set_option maxRecDepth 100000 in
set_option maxHeartbeats 2000000 in
theorem rguess_any (w : World) (a ca : Option Addr) (n m cap cc : Nat) (past cs : List Int) (hn : past.length = n) (hm : cs.length = m) (h : IntsAt w a past) (hc : IntsAt w ca cs) (hl : past.length ≤ 1000000) (hcl : cs.length ≤ 1000000) (g : Int) (hg : g = lguess past cs) :
    Calls Tryz.prog 48 #[.slice a n cap, .slice ca m cc] w fun e w' => e = .returned (.int .i64 g) ∧ ∃ d, w' = w.drewN d := by
  subst hn hm
  have H : Hid (IntsAt w a past) := h
  have HC : Hid (IntsAt w ca cs) := hc
  have HG : Hid (g = lguess past cs) := hg
  clear h hc hg
  obtain ⟨q, hq⟩ : ∃ q, q = terms past cs := ⟨_, rfl⟩
  obtain ⟨hq1, hq2, hq3⟩ := terms_le past cs
  rw [← hq] at hq1 hq2 hq3
  have HQ := hid_of hq
  clear hq
  go_enter Tryz.func48, Tryz.ntmps48
  go_wp2_with fail
  go_loopw [5, 6] (fun s i wr => ∃ (k d : Nat) (t : Int), k ≤ q ∧ s = .int .i64 t ∧ i = .int .i64 k ∧ Hid (t = lsum past cs k) ∧ wr = w.drewN d) (fun _ i _ => q - (intOf i).toNat)
  case atStart => exact ⟨0, 0, 0, Nat.zero_le _, rfl, rfl, rfl, rfl⟩
  case round =>
    obtain ⟨k, d, t, hk, rfl, rfl, ht, rfl⟩ := hrel
    have htb := lsum_small past cs k
    rw [← ht.out] at htb
    obtain ⟨ht1, ht2⟩ := htb
    have ht1' : -6597069766656 ≤ t := by omega
    have ht2' : t ≤ 6597069766656 := by omega
    clear ht1 ht2
    by_cases hkn : k < q
    · obtain ⟨c, hcx⟩ : ∃ x, cs[k]? = some x := ⟨cs[k]'(by omega), by simp⟩
      obtain ⟨b1, o1, rfl, hc1⟩ := HC.out k c hcx
      obtain ⟨m, hm⟩ : ∃ m, m = past.length - 1 - k := ⟨_, rfl⟩
      have hml : m < past.length := by omega
      obtain ⟨x, hx⟩ : ∃ x, past[m]? = some x := ⟨past[m], by simp [hml]⟩
      obtain ⟨b2, o2, rfl, hc2⟩ := H.out m x hx
      have hmI : (past.length : Int) - 1 - (k : Int) = (m : Int) := by omega
      have HNX : Hid (t + term c x = lsum past cs (k + 1)) := by
        show _ = _
        simp only [lsum]
        rw [getD_of hcx, ← hm, getD_of hx, ← ht.out]
      have hkc : k < cs.length := by omega
      have hkp : k < past.length := by omega
      have hkk : k < 12 := by omega
      clear hm hcx hx
      by_cases hall : -32768 ≤ c ∧ c ≤ 32767 ∧ -16777216 ≤ x ∧ x ≤ 16777216
      · obtain ⟨hc3, hc4, hx1, hx2⟩ := hall
        obtain ⟨p, hp⟩ : ∃ p, p = c * x := ⟨_, rfl⟩
        have hp12 := mul_bound ⟨hc3, hc4⟩ ⟨hx1, hx2⟩
        rw [← hp] at hp12
        obtain ⟨hp1, hp2⟩ := hp12
        have HP : Hid (c * x = p) := hp.symm
        have HN : Hid (t + p = lsum past cs (k + 1)) := by
          show _ = _
          rw [← HNX.out]; unfold term; rw [if_pos ⟨⟨hc3, hc4⟩, hx1, hx2⟩, hp]
        clear hp
        go_wp2_with fail
        go_quiet (fail)
        go_wp2_with fail
        rw [HP.out, Go.IntWalk.wrap64_in p (by omega), Go.IntWalk.wrap64_in (t + p) (by omega)]
        exact ⟨⟨k + 1, d + nq, t + p, by omega, rfl, by go_num, HN, rfl⟩, by (simp [intOf]) <;> omega⟩
      · have HN : Hid (t = lsum past cs (k + 1)) := by
          show _ = _
          rw [← HNX.out]; unfold term; rw [if_neg (fun h => hall ⟨h.1.1, h.1.2, h.2.1, h.2.2⟩)]; omega
        rcases (by omega : c < -32768 ∨ (-32768 ≤ c ∧ 32767 < c) ∨ (-32768 ≤ c ∧ c ≤ 32767 ∧ x < -16777216) ∨ (-32768 ≤ c ∧ c ≤ 32767 ∧ -16777216 ≤ x ∧ 16777216 < x)) with hA | ⟨hA, hB⟩ | ⟨hA, hB, hD⟩ | ⟨hA, hB, hD, hE⟩
        all_goals
          clear hall
          go_wp2_with fail
          go_quiet (fail)
          go_wp2_with fail
          exact ⟨⟨k + 1, d + nq, t, by omega, rfl, by go_num, HN, rfl⟩, by (simp [intOf]) <;> omega⟩
    · have e : k = q := by omega
      have HE : Hid (t / 4096 = g) := by show _ = _; rw [ht.out, HG.out, e, HQ.out]; rfl
      have hend : ¬ (k < cs.length ∧ k < past.length ∧ k < 12) := by have h2 := HQ.out; unfold terms at h2; omega
      clear e hk hkn HQ hq1 hq2 hq3
      rcases (by omega : cs.length ≤ k ∨ (k < cs.length ∧ past.length ≤ k) ∨ (k < cs.length ∧ k < past.length ∧ 12 ≤ k)) with hA | ⟨hA, hB⟩ | ⟨hA, hB, hD⟩
      all_goals
        clear hend
        go_wp2_with (go_at_call 46; refine (rdown_any _ _ g ht1' ht2' HE.out).mono ?_; rintro e w1 ⟨rfl, rfl⟩)
        go_ret
        exact ⟨rfl, d, rfl⟩

set_option maxHeartbeats 1000000 in
theorem rcoefs6_any (w : World) (a : Option Addr) (cap : Nat) (l : List Int) (h : IntsAt w a l) (hl : l.length ≤ 1000000) (t : Bool) (ht : t = decide (areC l)) :
    Calls Tryz.prog 47 #[.slice a l.length cap] w fun e w' => e = .returned (.bool t) ∧ w = w' := by
  have H : Hid (IntsAt w a l) := h
  have HT : Hid (t = decide (areC l)) := ht
  clear h ht
  go_enter Tryz.func47, Tryz.ntmps47
  go_wp2_with fail
  go_loopw [6] (fun i wr => ∃ k : Nat, k ≤ l.length ∧ i = .int .i64 k ∧ Hid (allC (l.take k)) ∧ w = wr) (fun i _ => l.length - (intOf i).toNat)
  case atStart => exact ⟨0, Nat.zero_le _, rfl, fun x hx => by simp at hx, rfl⟩
  case round =>
    obtain ⟨k, hk, rfl, hall, rfl⟩ := hrel
    by_cases hkn : k < l.length
    · obtain ⟨x, hx⟩ : ∃ x, l[k]? = some x := ⟨l[k], by simp [hkn]⟩
      obtain ⟨b, off, rfl, hc⟩ := H.out k x hx
      have HX : Hid (l[k]? = some x) := hx
      clear hx
      have hbad : ¬ isC x → t = false := fun hn => by
        rw [HT.out]
        exact decide_eq_false (fun ha => hn (ha.2.2 x (List.mem_of_getElem? HX.out)))
      by_cases hlo : x < -32768
      · have ht := hbad (by unfold isC; omega)
        subst ht
        clear hbad
        go_wp2_with fail
        go_ret
        exact ⟨rfl, rfl⟩
      · by_cases hhi : 32767 < x
        · have ht := hbad (by unfold isC; omega)
          subst ht
          clear hbad
          go_wp2_with fail
          go_ret
          exact ⟨rfl, rfl⟩
        · clear hbad
          go_wp2_with fail
          refine ⟨⟨k + 1, by omega, by go_num, ?_, by trivial⟩, by (simp [intOf]) <;> omega⟩
          show allC _
          rw [take_next l k x HX.out]
          exact hall.out.snoc (by unfold isC; omega)
    · have e : k = l.length := by omega
      subst e
      have ha := hall.out
      rw [List.take_length] at ha
      clear hall hk hkn
      rcases (by omega : l.length < 1 ∨ (1 ≤ l.length ∧ l.length ≤ 12) ∨ (1 ≤ l.length ∧ 12 < l.length)) with h1 | ⟨h1, h2⟩ | ⟨h1, h2⟩
      · have ht : t = false := by rw [HT.out]; exact decide_eq_false (fun h => by have := h.1; omega)
        subst ht
        go_wp2_with fail
        go_ret
        exact ⟨rfl, rfl⟩
      · have ht : t = true := by rw [HT.out]; exact decide_eq_true ⟨h1, h2, ha⟩
        subst ht
        have hb12 : decide ((l.length : Int) ≤ 12) = true := by simp; omega
        go_wp2_with fail
        go_ret
        exact ⟨rfl, rfl⟩
      · have ht : t = false := by rw [HT.out]; exact decide_eq_false (fun h => by have := h.2.1; omega)
        subst ht
        have hb12 : decide ((l.length : Int) ≤ 12) = false := by simp; omega
        go_wp2_with fail
        go_ret
        exact ⟨rfl, rfl⟩

end Go.Proofs.YtlonnoapbfjomabGreat
