/- LevinAutos: the walk of the law. -/
import Derived.Test.YtkdbpjmofghanaaLev5
namespace Go.Proofs.Ytkdbpjmofghanaa
set_option linter.unusedVariables false
set_option linter.unusedSimpArgs false
open Go.RowKit Dg

theorem autoOut_len (l : List Int) (o : Int) : (autoOut l o).1.length ≤ 13 := by
  unfold autoOut
  split
  · simp
  · split
    · split
      · simp
      · simp; omega
    · simp
set_option maxRecDepth 100000 in
set_option maxHeartbeats 4000000 in
theorem vautos_any (W : World) (a : Option Addr) (len cap : Nat) (z : List Int) (o : Int) (wild : Bool) (hr : IsRow .i64 W a len cap z) (ho : I64 o) :
    Calls Try.prog 6 #[.slice a len cap, .int .i64 o, .bool wild] W fun e W' => e = .returned (.bool true) ∧ Below W.heap.size W W' := by
  obtain ⟨l, hll, hI, hat, hle, hm, hnone, hblk⟩ := hr.ints
  subst hll
  have HA : Hid (IntsAt W a l) := hat
  have HI : Hid (∀ x ∈ l, I64 x) := hI
  have HM : Hid (l.length ≤ maxLen) := Nat.le_trans hle hm
  clear hat hI hle hm hnone hblk hr
  go_enter Try.func6, Try.ntmps6
  go_wp2_with fail
  refine (samples_any W a cap 70 l wild HA.out HM.out HI.out (by decide)).mono ?_
  rintro e w1 ⟨v1, xs, rfl, hv1, hxl, -, -, hb1⟩
  obtain ⟨a1, c1, rfl, hn1', -, -⟩ := hv1.ns
  have hx70 : xs.length ≤ 70 := by omega
  have HB1 : Hid (Below W.heap.size W w1) := hb1
  have HN1 : Hid (IntsAt w1 a1 xs) := hn1'.at_
  have hs1 : W.heap.size ≤ w1.heap.size := hb1.size
  clear hv1 hxl hb1 hn1' HA HI HM
  obtain ⟨⟨L, k⟩, hR⟩ : ∃ R, R = autoOut xs o := ⟨_, rfl⟩
  have HR := hid_of hR
  have hLl : L.length ≤ 13 := by
    have := autoOut_len xs o
    rw [← hR] at this
    exact this
  clear hR
  go_wp2_with fail
  refine (vauto_any w1 a1 c1 xs o HN1.out (by omega) _ HR.out).mono ?_
  rintro e w2 hg
  obtain ⟨a2, c2, rfl, -, hn2, hb2⟩ := hg.ok
  have HB2 : Hid (Below W.heap.size W w2) := HB1.out.trans (hb2.mono hs1)
  have HN2 : Hid (IntsAt w2 a1 xs) := HN1.out.mono hb2
  have HL2 : Hid (IntsAt w2 a2 L) := hn2.at_
  have hs2 : W.heap.size ≤ w2.heap.size := HB2.out.size
  clear hg hb2 hn2 HB1 HN1
  go_wp2_with fail
  refine (rauto_any w2 a1 c1 xs o HN2.out (by omega) _ HR.out).mono ?_
  rintro e w3 hg
  obtain ⟨a3, c3, rfl, -, hn3, hb3⟩ := hg.ok
  have HB3 : Hid (Below W.heap.size W w3) := HB2.out.trans (hb3.mono hs2)
  have HL3 : Hid (IntsAt w3 a2 L) := HL2.out.mono hb3
  have HM3 : Hid (IntsAt w3 a3 L) := hn3.at_
  have hs3 : W.heap.size ≤ w3.heap.size := HB3.out.size
  clear hg hb3 hn3 HB2 HN2 HL2
  go_wp2_with fail
  refine (sameInt_any w3 a2 a3 c2 c3 L HL3.out HM3.out (by omega)).mono ?_
  rintro e w5 ⟨rfl, n5, rfl⟩
  go_wp2_with fail
  refine (wakes7_any _).mono ?_
  rintro e w6 ⟨rfl, hb6⟩
  have HB6 : Hid (Below W.heap.size W w6) := (below_drewN HB3.out n5).trans (hb6.mono hs3)
  clear hb6
  go_wp2
  go_ret
  exact ⟨rfl, HB6.out⟩

end Go.Proofs.Ytkdbpjmofghanaa
