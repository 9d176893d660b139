/- LpcGuesses: the walk of the law. -/
import Derived.Test.YtgikbcicjeeofaaLpc4
import Derived.Test.YtgikbcicjeeofaaLpc5
namespace Go.Proofs.Ytgikbcicjeeofaa
set_option linter.unusedVariables false
set_option linter.unusedSimpArgs false
open Go.RowKit Dg

set_option maxRecDepth 100000 in
set_option maxHeartbeats 4000000 in
theorem lguesses_any (W : World) (a : Option Addr) (len cap : Nat) (z : List Int) (ca : Option Addr) (clen ccap : Nat) (cz : List Int) (hr : IsRow .i64 W a len cap z) (hc : IsRow .i64 W ca clen ccap cz) :
    Calls Try.prog 6 #[.slice a len cap, .slice ca clen ccap] W fun e W' => e = .returned (.bool true) ∧ Below W.heap.size W W' := by
  obtain ⟨l, hll, hI, hat, hle, hm, hnone, hblk⟩ := hr.ints
  obtain ⟨rl, hrl, hrI, hrat, hrle, hrm, hrnone, hrblk⟩ := hc.ints
  obtain ⟨ps, hps⟩ : ∃ ps, ps = l.take 30 := ⟨_, rfl⟩
  obtain ⟨cs, hcs⟩ : ∃ cs, cs = rl.take 20 := ⟨_, rfl⟩
  have HPL : Hid (min len 30 = ps.length) := by show _ = _; rw [hps, ← hll]; simp; omega
  have HCL : Hid (min clen 20 = cs.length) := by show _ = _; rw [hcs, ← hrl]; simp; omega
  have hp30 : ps.length ≤ 30 := by rw [hps]; simp; omega
  have hc20 : cs.length ≤ 20 := by rw [hcs]; simp; omega
  have HA : Hid (IntsAt W a ps) := by rw [hps]; exact hat.take 30
  have HC : Hid (IntsAt W ca cs) := by rw [hcs]; exact hrat.take 20
  have HR1 : Hid (len ≤ cap ∧ cap ≤ maxLen ∧ (a = none → len = 0 ∧ cap = 0)) := ⟨hle, hm, hnone⟩
  have HR2 : Hid (clen ≤ ccap ∧ ccap ≤ maxLen ∧ (ca = none → clen = 0 ∧ ccap = 0)) := ⟨hrle, hrm, hrnone⟩
  obtain ⟨g, hg⟩ : ∃ g, g = lguess ps cs := ⟨_, rfl⟩
  have HG := hid_of hg
  clear hll hI hat hle hm hnone hblk hr hrl hrI hrat hrle hrm hrnone hrblk hc hps hcs hg
  go_enter Try.func6, Try.ntmps6
  go_wp2_with fail
  refine (cutInt_any W a len cap 30 (by decide) HR1.out.1 HR1.out.2.1 HR1.out.2.2).mono ?_
  rw [HPL.out]
  rintro e w0 ⟨rfl, rfl⟩
  go_wp2_with fail
  refine (cutInt_any W ca clen ccap 20 (by decide) HR2.out.1 HR2.out.2.1 HR2.out.2.2).mono ?_
  rw [HCL.out]
  rintro e w0 ⟨rfl, rfl⟩
  clear HR1 HR2 HPL HCL
  go_wp2_with fail
  refine (lguess_any W a ca _ _ cap ccap ps cs rfl rfl HA.out HC.out (by omega) (by omega) g HG.out).mono ?_
  rintro e w0 ⟨rfl, rfl⟩
  go_wp2_with fail
  refine (rguess_any W a ca _ _ cap ccap ps cs rfl rfl HA.out HC.out (by omega) (by omega) g HG.out).mono ?_
  rintro e w0 ⟨rfl, d, rfl⟩
  go_wp2_with fail
  refine (wakes6_any _).mono ?_
  rintro e w6 ⟨rfl, hb6⟩
  have HB6 : Hid (Below W.heap.size W w6) := (below_drewN (Below.refl _ _) d).trans (hb6.mono (Nat.le_refl _))
  clear hb6
  go_wp2
  go_ret
  exact ⟨rfl, HB6.out⟩

end Go.Proofs.Ytgikbcicjeeofaa
