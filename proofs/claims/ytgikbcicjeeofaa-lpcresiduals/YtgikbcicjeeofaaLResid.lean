/- LpcResiduals: the walk of the law. -/
import Derived.Test.YtgikbcicjeeofaaLpc4
import Derived.Test.YtgikbcicjeeofaaLpc5
namespace Go.Proofs.Ytgikbcicjeeofaa
set_option linter.unusedVariables false
set_option linter.unusedSimpArgs false
open Go.RowKit Dg

theorem cutInt_at (w : World) (a : Option Addr) (len cap n : Nat) (z : Int) (hz : z = (n : Int)) (hn : n ≤ 4096) (hle : len ≤ cap) (hm : cap ≤ maxLen) (h0 : a = none → len = 0 ∧ cap = 0) :
    Calls Try.prog 11 #[.slice a len cap, .int .i64 z] w fun e w' => e = .returned (.slice a (min len n) cap) ∧ w = w' := by
  rw [hz]
  exact cutInt_any w a len cap n hn hle hm h0

set_option maxRecDepth 100000 in
set_option maxHeartbeats 4000000 in
theorem lresids_any (W : World) (a : Option Addr) (len cap : Nat) (z : List Int) (ca : Option Addr) (clen ccap : Nat) (cz : List Int) (ra : Option Addr) (rlen rcap : Nat) (rz : List Int) (wild bad : Bool) (n : Int) (hr : IsRow .i64 W a len cap z) (hc : IsRow .i64 W ca clen ccap cz) (hrr : IsRow .i64 W ra rlen rcap rz) (hn : I64 n) :
    Calls Try.prog 7 #[.slice a len cap, .slice ca clen ccap, .slice ra rlen rcap, .bool wild, .bool bad, .int .i64 n] W fun e W' => e = .returned (.bool true) ∧ Below W.heap.size W W' := by
  obtain ⟨l, hll, hI, hat, hle, hm, hnone, hblk⟩ := hr.ints
  obtain ⟨cl, hcl, hcI, hcat, hcle, hcm, hcnone, hcblk⟩ := hc.ints
  obtain ⟨rl, hrl, hrI, hrat, hrle, hrm, hrnone, hrblk⟩ := hrr.ints
  obtain ⟨hn1, hn2⟩ := hn
  subst hll hcl
  obtain ⟨rs, hrs⟩ : ∃ rs, rs = rl.take 70 := ⟨_, rfl⟩
  have HRL : Hid (min rlen 70 = rs.length) := by show _ = _; rw [hrs, ← hrl]; simp; omega
  have hrs70 : rs.length ≤ 70 := by rw [hrs]; simp; omega
  have HA : Hid (IntsAt W a l) := hat
  have HI : Hid (∀ x ∈ l, I64 x) := hI
  have HM : Hid (l.length ≤ maxLen) := Nat.le_trans hle hm
  have HCA : Hid (IntsAt W ca cl) := hcat
  have HCI : Hid (∀ x ∈ cl, I64 x) := hcI
  have HCM : Hid (cl.length ≤ maxLen) := Nat.le_trans hcle hcm
  have HRA : Hid (IntsAt W ra rs) := by rw [hrs]; exact hrat.take 70
  have HRI : Hid (∀ x ∈ rs, I64 x) := by rw [hrs]; exact fun x hx => hrI x (List.mem_of_mem_take hx)
  have HRC : Hid (rlen ≤ rcap ∧ rcap ≤ maxLen ∧ (ra = none → rlen = 0 ∧ rcap = 0)) := ⟨hrle, hrm, hrnone⟩
  obtain ⟨d, hd⟩ : ∃ d : Nat, (d : Int) = n % 3 := ⟨(n % 3).toNat, by omega⟩
  have HD : Hid (n % 3 = (d : Int)) := hd.symm
  have hd3 : d < 3 := by omega
  clear hat hI hle hm hnone hblk hr hrl hrI hrat hrle hrm hrnone hrblk hrr hrs hcI hcat hcle hcm hcnone hcblk hc hd
  go_enter Try.func7, Try.ntmps7
  go_wp2_with fail
  refine (samples_any W a cap 70 l wild HA.out HM.out HI.out (by decide)).mono ?_
  rintro e w1 ⟨v1, xs, rfl, hv1, hxl, -, -, hb1⟩
  obtain ⟨a1, c1, rfl, hn1', hor1, hm1⟩ := hv1.ns
  have hx70 : xs.length ≤ 70 := by omega
  have HB1 : Hid (Below W.heap.size W w1) := hb1
  have HN1 : Hid (Ns w1 a1 c1 xs) := hn1'
  have HM1 : Hid (c1 ≤ maxLen) := hm1
  have HCA1 : Hid (IntsAt w1 ca cl) := HCA.out.mono hb1
  have HR1 : Hid (IntsAt w1 ra rs) := HRA.out.mono hb1
  have hs1 : W.heap.size ≤ w1.heap.size := hb1.size
  clear hv1 hxl hb1 hn1' hor1 hm1 HA HI HM HRA HCA
  go_wp2_with fail
  refine (coefs6_any w1 ca ccap cl bad HCA1.out HCM.out HCI.out).mono ?_
  rintro e w2 ⟨v2, cs, rfl, hv2, hcl2, -, -, hb2⟩
  obtain ⟨a2, c2, rfl, hn2', -, -⟩ := hv2.ns
  have hc14 : cs.length ≤ 14 := by omega
  have HB2 : Hid (Below W.heap.size W w2) := HB1.out.trans (hb2.mono hs1)
  have HN2 : Hid (Ns w2 a1 c1 xs) := HN1.out.mono hb2
  have HC2 : Hid (IntsAt w2 a2 cs) := hn2'.at_
  have HR2 : Hid (IntsAt w2 ra rs) := HR1.out.mono hb2
  have hs2 : W.heap.size ≤ w2.heap.size := HB2.out.size
  clear hv2 hcl2 hb2 hn2' HB1 HN1 HCA1 HR1 HCI HCM
  obtain ⟨⟨L, k⟩, hR⟩ : ∃ R, R = lresOut xs cs := ⟨_, rfl⟩
  have HR := hid_of hR
  have hLl : L.length ≤ 70 := by
    have := lresOut_len xs cs
    rw [← hR] at this
    simp at this
    omega
  clear hR
  go_wp2_with fail
  refine (lresid_any w2 a1 a2 c1 c2 xs cs HN2.out HC2.out (by omega) (by omega) _ HR.out).mono ?_
  rintro e w3 hg
  obtain ⟨a3, c3, rfl, -, hn3, hb3⟩ := hg.ok
  have HB3 : Hid (Below W.heap.size W w3) := HB2.out.trans (hb3.mono hs2)
  have HN3 : Hid (Ns w3 a1 c1 xs) := HN2.out.mono hb3
  have HC3 : Hid (IntsAt w3 a2 cs) := HC2.out.mono hb3
  have HR3 : Hid (IntsAt w3 ra rs) := HR2.out.mono hb3
  have HL3 : Hid (IntsAt w3 a3 L) := hn3.at_
  have hs3 : W.heap.size ≤ w3.heap.size := HB3.out.size
  clear hg hn3 hb3 HN2 HC2 HR2 HB2
  go_wp2_with fail
  refine (rlresid_any w3 a1 a2 c1 c2 xs cs HN3.out HC3.out (by omega) (by omega) _ HR.out).mono ?_
  rintro e w4 hg
  obtain ⟨a4, c4, rfl, -, hn4, hb4⟩ := hg.ok
  have HB4 : Hid (Below W.heap.size W w4) := HB3.out.trans (hb4.mono hs3)
  have HN4 : Hid (Ns w4 a1 c1 xs) := HN3.out.mono hb4
  have HC4 : Hid (IntsAt w4 a2 cs) := HC3.out.mono hb4
  have HR4 : Hid (IntsAt w4 ra rs) := HR3.out.mono hb4
  have HL4 : Hid (IntsAt w4 a3 L) := HL3.out.mono hb4
  have HK4 : Hid (IntsAt w4 a4 L) := hn4.at_
  have hs4 : W.heap.size ≤ w4.heap.size := HB4.out.size
  clear hg hn4 hb4 HN3 HC3 HR3 HL3 HB3 HR
  go_wp2_with fail
  refine (sameInt_any w4 a3 a4 c3 c4 L HL4.out HK4.out (by omega)).mono ?_
  rintro e w5 ⟨rfl, n5, hw5⟩
  have HB5 : Hid (Below W.heap.size W w5) := by rw [hw5]; exact below_drewN HB4.out n5
  have HN5 : Hid (Ns w5 a1 c1 xs) := by rw [hw5]; exact HN4.out.drewN n5
  have HC5 : Hid (IntsAt w5 a2 cs) := by rw [hw5]; exact HC4.out.drewN n5
  have HR5 : Hid (IntsAt w5 ra rs) := by rw [hw5]; exact HR4.out.drewN n5
  have hs5 : W.heap.size ≤ w5.heap.size := HB5.out.size
  clear hw5 HB4 HN4 HC4 HR4 HL4 HK4
  go_wp2_with fail
  refine (cutInt_any w5 ra rlen rcap 70 (by decide) HRC.out.1 HRC.out.2.1 HRC.out.2.2).mono ?_
  rw [HRL.out]
  rintro e w0 ⟨rfl, rfl⟩
  clear HRC HRL
  go_wp2_with fail
  refine (within_any n 3 w5 hn1 hn2 (by decide) (by decide)).mono ?_
  rw [HD.out]
  rintro e w0 ⟨rfl, rfl⟩
  clear HD
  obtain ⟨m, hm⟩ : ∃ m : Nat, m = cs.length + d - 1 := ⟨_, rfl⟩
  have hm16 : m ≤ 16 := by omega
  obtain ⟨ws, hws⟩ : ∃ ws, ws = xs.take m := ⟨_, rfl⟩
  have HWL : Hid (min xs.length m = ws.length) := by show _ = _; rw [hws]; simp; omega
  have hws16 : ws.length ≤ 16 := by rw [← HWL.out]; omega
  have HWN : Hid (Ns w5 a1 c1 ws) := ⟨by rw [hws]; exact HN5.out.at_.take m, by have := HN5.out.le; rw [← HWL.out]; omega, HN5.out.nil⟩
  have HXN : Hid (xs.length ≤ c1 ∧ c1 ≤ maxLen ∧ (a1 = none → xs.length = 0 ∧ c1 = 0)) := ⟨HN5.out.le, HM1.out, fun e => by have h1 := HN5.out.nil e; have h2 := HN5.out.le; omega⟩
  obtain ⟨⟨L2, k2⟩, hR⟩ : ∃ R, R = lrestOut ws rs cs := ⟨_, rfl⟩
  have HR := hid_of hR
  have hL2 : L2.length ≤ 100 := by
    have := lrestOut_len ws rs cs
    rw [← hR] at this
    simp at this
    omega
  clear hR hws HN5 HM1
  rcases (by omega : (cs.length + d < 1 ∧ m = 0) ∨ (1 ≤ cs.length + d ∧ (m : Int) = (cs.length : Int) + (d : Int) - 1)) with ⟨hz, hm0⟩ | ⟨hz, hme⟩
  all_goals
    (first | (have HZ : Hid ((0 : Int) = (m : Int)) := by show _ = _; omega) | (have HZ : Hid ((cs.length : Int) + (d : Int) - 1 = (m : Int)) := hme.symm))
    clear hm
    go_wp2_with fail
    refine (cutInt_at w5 a1 xs.length c1 m _ HZ.out (by omega) HXN.out.1 HXN.out.2.1 HXN.out.2.2).mono ?_
    rw [HWL.out]
    rintro e w0 ⟨rfl, rfl⟩
    go_wp2_with fail
    refine (lrest_any w5 a1 ra a2 c1 rcap c2 ws rs cs HWN.out HR5.out HC5.out (by omega) (by omega) (by omega) HRI.out _ HR.out).mono ?_
    rintro e w6 hg
    obtain ⟨a6, c6, rfl, -, hn6, hb6⟩ := hg.ok
    have HB6 : Hid (Below W.heap.size W w6) := HB5.out.trans (hb6.mono hs5)
    have HN6 : Hid (IntsAt w6 a6 L2) := hn6.at_
    have HW6 : Hid (Ns w6 a1 c1 ws) := HWN.out.mono hb6
    have HR6 : Hid (IntsAt w6 ra rs) := HR5.out.mono hb6
    have HC6 : Hid (IntsAt w6 a2 cs) := HC5.out.mono hb6
    have hs6 : W.heap.size ≤ w6.heap.size := HB6.out.size
    clear hg hn6 hb6 HWN HR5 HC5 HB5
    go_wp2_with fail
    refine (rlrest_any w6 a1 ra a2 c1 rcap c2 ws rs cs HW6.out HR6.out HC6.out (by omega) (by omega) (by omega) HRI.out _ HR.out).mono ?_
    rintro e w7 hg
    obtain ⟨a7, c7, rfl, -, hn7, hb7⟩ := hg.ok
    have HB7 : Hid (Below W.heap.size W w7) := HB6.out.trans (hb7.mono hs6)
    have HN7 : Hid (IntsAt w7 a6 L2) := HN6.out.mono hb7
    have HQ7 : Hid (IntsAt w7 a7 L2) := hn7.at_
    have hs7 : W.heap.size ≤ w7.heap.size := HB7.out.size
    clear hg hn7 hb7 HN6 HW6 HR6 HC6 HB6
    go_wp2_with fail
    refine (sameInt_any w7 a6 a7 c6 c7 L2 HN7.out HQ7.out (by omega)).mono ?_
    rintro e w8 ⟨rfl, n8, rfl⟩
    go_wp2_with fail
    refine (wakes6_any _).mono ?_
    rintro e w9 ⟨rfl, hb9⟩
    have HB9 : Hid (Below W.heap.size W w9) := (below_drewN HB7.out n8).trans (hb9.mono hs7)
    clear hb9
    go_wp2_with fail
    go_ret
    exact ⟨rfl, HB9.out⟩

end Go.Proofs.Ytgikbcicjeeofaa
