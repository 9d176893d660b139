/- LevinScales: the walk of the law. -/
import Derived.Test.YtkdbpjmofghanaaLev5
namespace Go.Proofs.Ytkdbpjmofghanaa
set_option linter.unusedVariables false
set_option linter.unusedSimpArgs false
open Go.RowKit Dg

theorem scOut_len (l : List Int) (s : Nat) : (scOut l s).1.length ≤ l.length := by
  unfold scOut
  split <;> simp
theorem shift_of (l : List Int) : ∃ s, isR l → IsShift (l.getD 0 0) s := by
  by_cases h : isR l
  · obtain ⟨s, -, hs⟩ := shift_exists h.2.1 (h.2.2.at h.1).2
    exact ⟨s, fun _ => hs⟩
  · exact ⟨0, fun h' => absurd h' h⟩
set_option maxRecDepth 100000 in
set_option maxHeartbeats 4000000 in
theorem vscales_any (W : World) (a : Option Addr) (len cap : Nat) (z : List Int) (hr : IsRow .i64 W a len cap z) :
    Calls Try.prog 7 #[.slice a len cap] W fun e W' => e = .returned (.bool true) ∧ Below W.heap.size W W' := by
  obtain ⟨l, hll, hI, hat, hle, hm, hnone, hblk⟩ := hr.ints
  obtain ⟨rs, hrs⟩ : ∃ rs, rs = l.take 14 := ⟨_, rfl⟩
  have HRL : Hid (min len 14 = rs.length) := by show _ = _; rw [hrs, ← hll]; simp; omega
  have hrs14 : rs.length ≤ 14 := by rw [hrs]; simp; omega
  have HRA : Hid (IntsAt W a rs) := by rw [hrs]; exact hat.take 14
  have HRC : Hid (len ≤ cap ∧ cap ≤ maxLen ∧ (a = none → len = 0 ∧ cap = 0)) := ⟨hle, hm, hnone⟩
  clear hat hI hle hm hnone hblk hr hrs hll
  obtain ⟨s, hs⟩ := shift_of rs
  have HS := hid_of hs
  obtain ⟨⟨L, k⟩, hR⟩ : ∃ R, R = scOut rs s := ⟨_, rfl⟩
  have HR := hid_of hR
  have hLl : L.length ≤ 14 := by
    have := scOut_len rs s
    rw [← hR] at this
    simp at this
    omega
  clear hR hs
  go_enter Try.func7, Try.ntmps7
  go_wp2_with fail
  refine (cutInt_any W a len cap 14 (by decide) HRC.out.1 HRC.out.2.1 HRC.out.2.2).mono ?_
  rw [HRL.out]
  rintro e w0 ⟨rfl, rfl⟩
  clear HRC HRL
  go_wp2_with fail
  refine (vscaled_any W a cap rs s HRA.out (by omega) HS.out _ HR.out).mono ?_
  rintro e w2 hg
  obtain ⟨a2, c2, rfl, -, hn2, hb2⟩ := hg.ok
  have HB2 : Hid (Below W.heap.size W w2) := hb2
  have HN2 : Hid (IntsAt w2 a rs) := HRA.out.mono hb2
  have HL2 : Hid (IntsAt w2 a2 L) := hn2.at_
  have hs2 : W.heap.size ≤ w2.heap.size := HB2.out.size
  clear hg hb2 hn2
  go_wp2_with fail
  refine (rscaled_any w2 a cap rs s HN2.out (by omega) HS.out _ HR.out).mono ?_
  rintro e w3 hg
  obtain ⟨a3, c3, rfl, -, hn3, hb3⟩ := hg.ok
  have HB3 : Hid (Below W.heap.size W w3) := HB2.out.trans (hb3.mono hs2)
  have HL3 : Hid (IntsAt w3 a2 L) := HL2.out.mono hb3
  have HM3 : Hid (IntsAt w3 a3 L) := hn3.at_
  have hs3 : W.heap.size ≤ w3.heap.size := HB3.out.size
  clear hg hb3 hn3 HB2 HN2 HL2
  go_wp2_with fail
  refine (sameInt_any w3 a2 a3 c2 c3 L HL3.out HM3.out (by omega)).mono ?_
  rintro e w5 ⟨rfl, n5, rfl⟩
  go_wp2_with fail
  refine (wakes7_any _).mono ?_
  rintro e w6 ⟨rfl, hb6⟩
  have HB6 : Hid (Below W.heap.size W w6) := (below_drewN HB3.out n5).trans (hb6.mono hs3)
  clear hb6
  go_wp2
  go_ret
  exact ⟨rfl, HB6.out⟩

end Go.Proofs.Ytkdbpjmofghanaa
