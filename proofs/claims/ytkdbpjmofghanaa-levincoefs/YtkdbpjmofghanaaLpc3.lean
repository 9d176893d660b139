/- The document's own answers of chapter 6: down, Guess, MayCoefs. -/
import Derived.Test.YtkdbpjmofghanaaLpc2
import Derived.BigQuiet
namespace Go.Proofs.Ytkdbpjmofghanaa
set_option linter.unusedVariables false
set_option linter.unusedSimpArgs false
open Go.RowKit Dg

theorem tdiv_low {s : Int} (h : s < 0) (h0 : s.tmod 4096 = 0) : s.tdiv 4096 = s / 4096 := by
  have h1 := Int.mul_tdiv_add_tmod s 4096
  omega
theorem tdiv_down {s : Int} (h : s < 0) (h0 : s.tmod 4096 ≠ 0) : s.tdiv 4096 - 1 = s / 4096 := by
  have h1 := Int.mul_tdiv_add_tmod s 4096
  have h2 : s.tmod 4096 = -((-s).tmod 4096) := by rw [Int.neg_tmod]; omega
  have h3 : (-s).tmod 4096 = (-s) % 4096 := Int.tmod_eq_emod_of_nonneg (by omega)
  omega
set_option maxHeartbeats 1000000 in
theorem rdown_any (w : World) (s g : Int) (h1 : -6597069766656 ≤ s) (h2 : s ≤ 6597069766656) (hg : s / 4096 = g) :
    Calls Try.prog 26 #[.int .i64 s, .int .i64 4096] w fun e w' => e = .returned (.int .i64 g) ∧ w = w' := by
  have HG := hid_of hg
  clear hg
  by_cases h0 : 0 ≤ s
  · go_enter Try.func26, Try.ntmps26
    go_wp2_with fail
    all_goals
      rw [HG.out]
      go_ret
      exact ⟨rfl, rfl⟩
  · have hneg : s < 0 := by omega
    by_cases hm : s.tmod 4096 = 0
    · have ht := tdiv_low hneg hm
      have hmb : (s.tmod 4096 != 0) = false := by simpa using hm
      have HT := hid_of ht
      clear ht
      go_enter Try.func26, Try.ntmps26
      go_wp2_with fail
      rw [HT.out, HG.out]
      go_ret
      exact ⟨rfl, rfl⟩
    · have ht := tdiv_down hneg hm
      have hmb : (s.tmod 4096 != 0) = true := by simpa using hm
      have HW : Hid (wrap64 (s.tdiv 4096 - 1) = g) := by
        show _ = _
        rw [ht, HG.out]
        exact Go.IntWalk.wrap64_in _ (by have := HG.out; omega)
      clear ht
      go_enter Try.func26, Try.ntmps26
      go_wp2_with fail
      rw [HW.out]
      go_ret
      exact ⟨rfl, rfl⟩

set_option maxHeartbeats 1000000 in
theorem rcoefs6_any (w : World) (a : Option Addr) (cap : Nat) (l : List Int) (h : IntsAt w a l) (hl : l.length ≤ 1000000) (t : Bool) (ht : t = decide (areC l)) :
    Calls Try.prog 27 #[.slice a l.length cap] w fun e w' => e = .returned (.bool t) ∧ w = w' := by
  have H : Hid (IntsAt w a l) := h
  have HT : Hid (t = decide (areC l)) := ht
  clear h ht
  go_enter Try.func27, Try.ntmps27
  go_wp2_with fail
  go_loopw [6] (fun i wr => ∃ k : Nat, k ≤ l.length ∧ i = .int .i64 k ∧ Hid (allC (l.take k)) ∧ w = wr) (fun i _ => l.length - (intOf i).toNat)
  case atStart => exact ⟨0, Nat.zero_le _, rfl, fun x hx => by simp at hx, rfl⟩
  case round =>
    obtain ⟨k, hk, rfl, hall, rfl⟩ := hrel
    by_cases hkn : k < l.length
    · obtain ⟨x, hx⟩ : ∃ x, l[k]? = some x := ⟨l[k], by simp [hkn]⟩
      obtain ⟨b, off, rfl, hc⟩ := H.out k x hx
      have HX : Hid (l[k]? = some x) := hx
      clear hx
      have hbad : ¬ isC x → t = false := fun hn => by
        rw [HT.out]
        exact decide_eq_false (fun ha => hn (ha.2.2 x (List.mem_of_getElem? HX.out)))
      by_cases hlo : x < -32768
      · have ht := hbad (by unfold isC; omega)
        subst ht
        clear hbad
        go_wp2_with fail
        go_ret
        exact ⟨rfl, rfl⟩
      · by_cases hhi : 32767 < x
        · have ht := hbad (by unfold isC; omega)
          subst ht
          clear hbad
          go_wp2_with fail
          go_ret
          exact ⟨rfl, rfl⟩
        · clear hbad
          go_wp2_with fail
          refine ⟨⟨k + 1, by omega, by go_num, ?_, by trivial⟩, by (simp [intOf]) <;> omega⟩
          show allC _
          rw [take_next l k x HX.out]
          exact hall.out.snoc (by unfold isC; omega)
    · have e : k = l.length := by omega
      subst e
      have ha := hall.out
      rw [List.take_length] at ha
      clear hall hk hkn
      rcases (by omega : l.length < 1 ∨ (1 ≤ l.length ∧ l.length ≤ 12) ∨ (1 ≤ l.length ∧ 12 < l.length)) with h1 | ⟨h1, h2⟩ | ⟨h1, h2⟩
      · have ht : t = false := by rw [HT.out]; exact decide_eq_false (fun h => by have := h.1; omega)
        subst ht
        go_wp2_with fail
        go_ret
        exact ⟨rfl, rfl⟩
      · have ht : t = true := by rw [HT.out]; exact decide_eq_true ⟨h1, h2, ha⟩
        subst ht
        have hb12 : decide ((l.length : Int) ≤ 12) = true := by simp; omega
        go_wp2_with fail
        go_ret
        exact ⟨rfl, rfl⟩
      · have ht : t = false := by rw [HT.out]; exact decide_eq_false (fun h => by have := h.2.1; omega)
        subst ht
        have hb12 : decide ((l.length : Int) ≤ 12) = false := by simp; omega
        go_wp2_with fail
        go_ret
        exact ⟨rfl, rfl⟩

end Go.Proofs.Ytkdbpjmofghanaa
