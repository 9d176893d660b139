/- LpcBack: the walk of the law. -/
import Derived.Test.YtgikbcicjeeofaaLpc5
namespace Go.Proofs.Ytgikbcicjeeofaa
set_option linter.unusedVariables false
set_option linter.unusedSimpArgs false
open Go.RowKit Dg

theorem lresOut_ok (l cs : List Int) (hc : areC cs) (hl : cs.length ≤ l.length) (h64 : l.length ≤ 64) (hS : allS l) : (lresidZ l cs, 0) = lresOut l cs := by
  unfold lresOut
  rw [if_neg (by simp [hc]; omega), if_pos hS, if_neg (by omega)]
theorem lresOut_arg (l cs : List Int) (h : ¬ areC cs ∨ l.length < cs.length) : ([], 1) = lresOut l cs := by
  unfold lresOut
  rw [if_pos h]
theorem lrestZ_resid (l cs : List Int) (hS : allS l) (m : Nat) : ∀ n, cs.length ≤ n → n + m = l.length → lrestZ cs (l.take n) ((lresidZ l cs).drop (n - cs.length)) = some l := by
  induction m with
  | zero =>
    intro n hn he
    rw [List.drop_of_length_le (by simp; omega), List.take_of_length_le (by omega)]
    rfl
  | succ m ih =>
    intro n hn he
    have hlt : n < l.length := by omega
    have hg := lresidZ_get l cs n hn hlt
    have hd : n - cs.length < (lresidZ l cs).length := by simp; omega
    have e1 : (lresidZ l cs)[n - cs.length] = l.getD n 0 - lguess (l.take n) cs := (List.getElem?_eq_some_iff.1 hg).2
    rw [List.drop_eq_getElem_cons hd, e1]
    simp only [lrestZ]
    have e2 : lguess (l.take n) cs + (l.getD n 0 - lguess (l.take n) cs) = l.getD n 0 := by omega
    rw [e2, if_pos (hS.at hlt)]
    have e3 : l.take n ++ [l.getD n 0] = l.take (n + 1) := (take_next l n _ (by simp [List.getD, hlt])).symm
    rw [e3, show n - cs.length + 1 = n + 1 - cs.length by omega]
    exact ih (n + 1) (by omega) (by omega)
theorem lrestOut_resid (l cs : List Int) (hc : areC cs) (hl : cs.length ≤ l.length) (h64 : l.length ≤ 64) (hS : allS l) : (l, 0) = lrestOut (l.take cs.length) (lresidZ l cs) cs := by
  have h := lrestZ_resid l cs hS (l.length - cs.length) cs.length (Nat.le_refl _) (by omega)
  rw [Nat.sub_self, List.drop_zero] at h
  exact (lrestOut_some hc (by simp; omega) (hS.take _) h (by omega)).symm
theorem lresidZ_i64 (l cs : List Int) (hS : allS l) : ∀ x ∈ lresidZ l cs, I64 x := by
  intro x hx
  unfold lresidZ at hx
  obtain ⟨j, hj, rfl⟩ := List.mem_map.1 hx
  have hj' := List.mem_range.1 hj
  have h1 := hS.at (k := cs.length + j) (by omega)
  have h2 := lguess_small (l.take (cs.length + j)) cs
  unfold isS at h1
  unfold I64
  omega

set_option maxRecDepth 100000 in
set_option maxHeartbeats 4000000 in
theorem lback_any (W : World) (a : Option Addr) (len cap : Nat) (z : List Int) (ca : Option Addr) (clen ccap : Nat) (cz : List Int) (hr : IsRow .i64 W a len cap z) (hc : IsRow .i64 W ca clen ccap cz) :
    Calls Try.prog 8 #[.slice a len cap, .slice ca clen ccap] W fun e W' => e = .returned (.bool true) ∧ Below W.heap.size W W' := by
  obtain ⟨l, hll, hI, hat, hle, hm, hnone, hblk⟩ := hr.ints
  obtain ⟨cl, hcl, hcI, hcat, hcle, hcm, hcnone, hcblk⟩ := hc.ints
  subst hll hcl
  have HA : Hid (IntsAt W a l) := hat
  have HI : Hid (∀ x ∈ l, I64 x) := hI
  have HM : Hid (l.length ≤ maxLen) := Nat.le_trans hle hm
  have HCA : Hid (IntsAt W ca cl) := hcat
  have HCI : Hid (∀ x ∈ cl, I64 x) := hcI
  have HCM : Hid (cl.length ≤ maxLen) := Nat.le_trans hcle hcm
  clear hat hI hle hm hnone hblk hr hcI hcat hcle hcm hcnone hcblk hc
  go_enter Try.func8, Try.ntmps8
  go_wp2_with fail
  refine (samples_any W a cap 64 l false HA.out HM.out HI.out (by decide)).mono ?_
  rintro e w1 ⟨v1, xs, rfl, hv1, hxl, -, hxS, hb1⟩
  obtain ⟨a1, c1, rfl, hn1', hor1, hm1⟩ := hv1.ns
  have hx64 : xs.length ≤ 64 := by omega
  have HS : Hid (allS xs) := hxS rfl
  have HB1 : Hid (Below W.heap.size W w1) := hb1
  have HN1 : Hid (Ns w1 a1 c1 xs) := hn1'
  have HCA1 : Hid (IntsAt w1 ca cl) := HCA.out.mono hb1
  have hs1 : W.heap.size ≤ w1.heap.size := hb1.size
  clear hv1 hxl hb1 hn1' hor1 hm1 HA HI HM HCA hxS
  go_wp2_with fail
  refine (coefs6_any w1 ca ccap cl false HCA1.out HCM.out HCI.out).mono ?_
  rintro e w2 ⟨v2, zs, rfl, hv2, hcl2, -, hcC, hb2⟩
  obtain ⟨a2, c2, rfl, hn2', -, hm2⟩ := hv2.ns
  obtain ⟨cs, hcs⟩ : ∃ cs, cs = zs.take 12 := ⟨_, rfl⟩
  have HCL : Hid (min zs.length 12 = cs.length) := by show _ = _; rw [hcs]; simp; omega
  have hc12 : cs.length ≤ 12 := by rw [hcs]; simp; omega
  have HCC : Hid (allC cs) := by rw [hcs]; exact (hcC rfl).take 12
  have HB2 : Hid (Below W.heap.size W w2) := HB1.out.trans (hb2.mono hs1)
  have HN2 : Hid (Ns w2 a1 c1 xs) := HN1.out.mono hb2
  have HC2 : Hid (IntsAt w2 a2 cs) := by rw [hcs]; exact hn2'.at_.take 12
  have HXN : Hid (zs.length ≤ c2 ∧ c2 ≤ maxLen ∧ (a2 = none → zs.length = 0 ∧ c2 = 0)) := ⟨hn2'.le, hm2, fun e => by have h1 := hn2'.nil e; have h2 := hn2'.le; omega⟩
  have hs2 : W.heap.size ≤ w2.heap.size := HB2.out.size
  clear hv2 hcl2 hb2 hn2' HB1 HN1 HCA1 HCI HCM hcC hm2 hcs
  go_wp2_with fail
  refine (cutInt_any w2 a2 zs.length c2 12 (by decide) HXN.out.1 HXN.out.2.1 HXN.out.2.2).mono ?_
  rw [HCL.out]
  rintro e w0 ⟨rfl, rfl⟩
  clear HXN HCL
  by_cases hshort : cs.length < 1 ∨ xs.length < cs.length
  · have HR : Hid (([], 1) = lresOut xs cs) := lresOut_arg xs cs (by
      rcases hshort with h | h
      · exact .inl (fun hc => by have := hc.1; omega)
      · exact .inr h)
    have hsp : ((cs.length : Int) == 0) = true ∨ (((cs.length : Int) == 0) = false ∧ 0 < cs.length ∧ xs.length < cs.length) := by
      by_cases h : cs.length = 0
      · exact .inl (beq_iff_eq.2 (by omega))
      · exact .inr ⟨beq_eq_false_iff_ne.2 (by omega), by omega, by omega⟩
    clear hshort
    rcases hsp with hb0 | ⟨hb0, h0, h3⟩
    all_goals
      go_wp2_with fail
      refine (lresid_any w2 a1 a2 c1 c2 xs cs HN2.out HC2.out (by omega) (by omega) _ HR.out).mono ?_
      rintro e w3 hg
      obtain ⟨a3, c3, rfl, -, -, hb3⟩ := hg.ok
      have HB3 : Hid (Below W.heap.size W w3) := HB2.out.trans (hb3.mono hs2)
      have hs3 : W.heap.size ≤ w3.heap.size := HB3.out.size
      clear hg hb3
      go_wp2_with fail
      refine (wakes6_any _).mono ?_
      rintro e w6 ⟨rfl, hb6⟩
      have HB6 : Hid (Below W.heap.size W w6) := HB3.out.trans (hb6.mono hs3)
      clear hb6
      go_wp2
      go_ret
      exact ⟨rfl, HB6.out⟩
  · have hc1 : 0 < cs.length := by omega
    have hcx : cs.length ≤ xs.length := by omega
    have hb0 : ((cs.length : Int) == 0) = false := beq_eq_false_iff_ne.2 (by omega)
    have hC : areC cs := ⟨by omega, hc12, HCC.out⟩
    obtain ⟨L, hL⟩ : ∃ L, L = lresidZ xs cs := ⟨_, rfl⟩
    have HR : Hid ((L, 0) = lresOut xs cs) := by show _ = _; rw [hL]; exact lresOut_ok xs cs hC hcx hx64 HS.out
    obtain ⟨ws, hws⟩ : ∃ ws, ws = xs.take cs.length := ⟨_, rfl⟩
    have HWL : Hid (ws.length = cs.length) := by show _ = _; rw [hws]; simp; omega
    have hws12 : ws.length ≤ 12 := by rw [HWL.out]; omega
    have HT : Hid ((xs, 0) = lrestOut ws L cs) := by show _ = _; rw [hL, hws]; exact lrestOut_resid xs cs hC hcx hx64 HS.out
    have hL64 : L.length ≤ 64 := by rw [hL]; simp; omega
    have HLI : Hid (∀ x ∈ L, I64 x) := by rw [hL]; exact lresidZ_i64 xs cs HS.out
    have hsl := slice_ints a1 xs.length c1 cs.length (by have := HN2.out.le; omega)
    have hslw : ∀ w : World, (Instr.sliceAt 22 (.slice a1 xs.length c1) none (some (.int .i64 (cs.length : Int))) none).run Try.prog w = .ok (.slice a1 ws.length c1) w := by rw [HWL.out]; exact hsl
    have HWA : Hid (Ns w2 a1 c1 ws) := ⟨by rw [hws]; exact HN2.out.at_.take cs.length, by have := HN2.out.le; rw [HWL.out]; omega, HN2.out.nil⟩
    clear hL hws hsl hC hshort
    go_wp2_with fail
    refine (lresid_any w2 a1 a2 c1 c2 xs cs HN2.out HC2.out (by omega) (by omega) _ HR.out).mono ?_
    rintro e w3 hg
    obtain ⟨a3, c3, rfl, -, hn3, hb3⟩ := hg.ok
    have HB3 : Hid (Below W.heap.size W w3) := HB2.out.trans (hb3.mono hs2)
    have HN3 : Hid (Ns w3 a3 c3 L) := hn3
    have HX3 : Hid (Ns w3 a1 c1 xs) := HN2.out.mono hb3
    have HW3 : Hid (Ns w3 a1 c1 ws) := HWA.out.mono hb3
    have HC3 : Hid (IntsAt w3 a2 cs) := HC2.out.mono hb3
    have hs3 : W.heap.size ≤ w3.heap.size := HB3.out.size
    clear hg hb3 hn3 HN2 HWA HB2 HR HC2
    go_wp2_with fail
    refine (lrest_any w3 a1 a3 a2 c1 c3 c2 ws L cs HW3.out HN3.out.at_ HC3.out (by omega) (by omega) (by omega) HLI.out _ HT.out).mono ?_
    rintro e w4 hg
    obtain ⟨a4, c4, rfl, -, hn4, hb4⟩ := hg.ok
    have HB4 : Hid (Below W.heap.size W w4) := HB3.out.trans (hb4.mono hs3)
    have HN4 : Hid (IntsAt w4 a4 xs) := hn4.at_
    have HX4 : Hid (Ns w4 a1 c1 xs) := HX3.out.mono hb4
    have hs4 : W.heap.size ≤ w4.heap.size := HB4.out.size
    clear hg hb4 hn4 HN3 HX3 HW3 HB3 HT hslw HC3
    go_wp2_with fail
    refine (sameInt_any w4 a4 a1 c4 c1 xs HN4.out HX4.out.at_ (by omega)).mono ?_
    rintro e w5 ⟨rfl, n5, rfl⟩
    go_wp2_with fail
    refine (wakes6_any _).mono ?_
    rintro e w6 ⟨rfl, hb6⟩
    have HB6 : Hid (Below W.heap.size W w6) := (below_drewN HB4.out n5).trans (hb6.mono hs4)
    clear hb6
    go_wp2
    go_ret
    exact ⟨rfl, HB6.out⟩

end Go.Proofs.Ytgikbcicjeeofaa
