/- FixedResiduals: the walk of the law. -/
import Derived.Test.YtepnjglhchbknaaFix5
namespace Go.Proofs.Ytepnjglhchbknaa
set_option linter.unusedVariables false
set_option linter.unusedSimpArgs false
open Go.RowKit Dg

set_option maxRecDepth 100000 in
set_option maxHeartbeats 4000000 in
theorem xresid_any (W : World) (a : Option Addr) (len cap : Nat) (z : List Int) (o : Int) (wild : Bool) (hr : IsRow .i64 W a len cap z) (ho : I64 o) :
    Calls Try.prog 6 #[.slice a len cap, .int .i64 o, .bool wild] W fun e W' => e = .returned (.bool true) ∧ Below W.heap.size W W' := by
  obtain ⟨l, hll, hI, hat, hle, hm, hnone, hblk⟩ := hr.ints
  obtain ⟨ho1, ho2⟩ := ho
  subst hll
  have HA : Hid (IntsAt W a l) := hat
  have HI : Hid (∀ x ∈ l, I64 x) := hI
  have HM : Hid (l.length ≤ maxLen) := Nat.le_trans hle hm
  clear hat hI hle hm hnone hblk hr
  go_enter Try.func6, Try.ntmps6
  go_wp2_with fail
  refine (samples_any W a cap 70 l wild HA.out HM.out HI.out (by decide)).mono ?_
  rintro e w1 ⟨v1, xs, rfl, hv1, hxl, hxI, -, hb1⟩
  obtain ⟨a1, c1, rfl, hn1, hor1, -⟩ := hv1.ns
  have hx70 : xs.length ≤ 70 := by omega
  have HB1 : Hid (Below W.heap.size W w1) := hb1
  have HN1 : Hid (Ns w1 a1 c1 xs) := hn1
  have HO1 : Hid (OwnInts w1 W.heap.size (.slice a1 xs.length c1) xs) := hv1
  have HOR1 := hid_of hor1
  have hs1 : W.heap.size ≤ w1.heap.size := hb1.size
  clear hv1 hxl hxI hb1 hn1 hor1 HA HI HM
  go_wp2_with fail
  refine (copyInt_any w1 a1 c1 xs HN1.out.at_ (by omega) HOR1.out).mono ?_
  rintro e w2 ⟨v2, rfl, hv2, hb2⟩
  obtain ⟨a2, c2, rfl, hn2, -, -⟩ := hv2.ns
  have HB2 : Hid (Below W.heap.size W w2) := HB1.out.trans (hb2.mono hs1)
  have HN2 : Hid (Ns w2 a2 c2 xs) := hn2
  have HO2 : Hid (OwnInts w2 w1.heap.size (.slice a2 xs.length c2) xs) := hv2
  have HN1' : Hid (Ns w2 a1 c1 xs) := HN1.out.mono hb2
  have HO1' : Hid (OwnInts w2 W.heap.size (.slice a1 xs.length c1) xs) := HO1.out.mono hb2
  have hs2 : W.heap.size ≤ w2.heap.size := HB2.out.size
  clear hv2 hb2 hn2 HN1 HO1 HB1 HOR1
  obtain ⟨⟨L, k⟩, hR⟩ : ∃ R, R = resOut xs o := ⟨_, rfl⟩
  have HR := hid_of hR
  have hLl : L.length ≤ 70 := by
    have : (resOut xs o).1.length ≤ xs.length := by
      unfold resOut
      split
      · simp
      split
      · split <;> simp
      · simp
    rw [← hR] at this
    simp at this
    omega
  clear hR
  go_wp2_with fail
  refine (fresid_any w2 a2 c2 xs o HN2.out (by omega) _ HR.out).mono ?_
  rintro e w3 hg
  obtain ⟨a3, c3, rfl, ho3, hn3, hb3⟩ := hg.ok
  have HB3 : Hid (Below W.heap.size W w3) := HB2.out.trans (hb3.mono hs2)
  have HN1 : Hid (Ns w3 a1 c1 xs) := HN1'.out.mono hb3
  have HN2' : Hid (Ns w3 a2 c2 xs) := HN2.out.mono hb3
  have HO1 : Hid (OwnInts w3 W.heap.size (.slice a1 xs.length c1) xs) := HO1'.out.mono hb3
  have HO2' : Hid (OwnInts w3 w1.heap.size (.slice a2 xs.length c2) xs) := HO2.out.mono hb3
  have HO3 : Hid (OwnInts w3 w2.heap.size (.slice a3 L.length c3) L) := ho3
  have HD1 : Hid (∀ q, (Value.slice a1 xs.length c1).ownBlock = some q → q < w2.heap.size) := fun q hq => (World.ownsRow.lt HO1'.out q hq).2
  have HD2 : Hid (∀ q, (Value.slice a2 xs.length c2).ownBlock = some q → q < w2.heap.size) := fun q hq => (World.ownsRow.lt HO2.out q hq).2
  have hs3 : W.heap.size ≤ w3.heap.size := HB3.out.size
  clear hg ho3 hn3 hb3 HN1' HN2 HO1' HO2 HB2
  go_wp2_with fail
  refine (rresid_any w3 a1 c1 xs o HN1.out (by omega) _ HR.out).mono ?_
  rintro e w4 hg
  obtain ⟨a4, c4, rfl, -, hn4, hb4⟩ := hg.ok
  have HB4 : Hid (Below W.heap.size W w4) := HB3.out.trans (hb4.mono hs3)
  have HO1' : Hid (OwnInts w4 W.heap.size (.slice a1 xs.length c1) xs) := HO1.out.mono hb4
  have HO2 : Hid (OwnInts w4 w1.heap.size (.slice a2 xs.length c2) xs) := HO2'.out.mono hb4
  have HO3' : Hid (OwnInts w4 w2.heap.size (.slice a3 L.length c3) L) := HO3.out.mono hb4
  have HN4 : Hid (IntsAt w4 a4 L) := hn4.at_
  have hs4 : W.heap.size ≤ w4.heap.size := HB4.out.size
  clear hg hn4 hb4 HN1 HN2' HO1 HO2' HO3 HB3
  go_wp2_with fail
  refine (sameInt_any w4 a3 a4 c3 c4 L HO3'.out.at HN4.out (by omega)).mono ?_
  rintro e w5 ⟨rfl, n5, rfl⟩
  go_wp2_with fail
  refine (fcoefs_any _ o).mono ?_
  rintro e w6 ⟨v6, rfl, ho6, hb6⟩
  obtain ⟨a6, c6, rfl, hn6, -, -⟩ := ho6.ns
  have HB6 : Hid (Below W.heap.size W w6) := (below_drewN HB4.out n5).trans (hb6.mono hs4)
  have HO1 : Hid (OwnInts w6 W.heap.size (.slice a1 xs.length c1) xs) := OwnInts.mono (HO1'.out.drewN n5) hb6
  have HO2' : Hid (OwnInts w6 w1.heap.size (.slice a2 xs.length c2) xs) := OwnInts.mono (HO2.out.drewN n5) hb6
  have HO3 : Hid (OwnInts w6 w2.heap.size (.slice a3 L.length c3) L) := OwnInts.mono (HO3'.out.drewN n5) hb6
  have HN6 : Hid (IntsAt w6 a6 (coefs o)) := hn6.at_
  have hs6 : W.heap.size ≤ w6.heap.size := HB6.out.size
  clear ho6 hb6 hn6 HO1' HO2 HO3' HN4 HB4
  go_wp2_with fail
  refine (rcoefs_any _ o).mono ?_
  rintro e w7 ⟨v7, rfl, ho7, hb7⟩
  obtain ⟨a7, c7, rfl, hn7, -, -⟩ := ho7.ns
  have HB7 : Hid (Below W.heap.size W w7) := HB6.out.trans (hb7.mono hs6)
  have HO1' : Hid (OwnInts w7 W.heap.size (.slice a1 xs.length c1) xs) := HO1.out.mono hb7
  have HO2 : Hid (OwnInts w7 w1.heap.size (.slice a2 xs.length c2) xs) := HO2'.out.mono hb7
  have HO3' : Hid (OwnInts w7 w2.heap.size (.slice a3 L.length c3) L) := HO3.out.mono hb7
  have HN6' : Hid (IntsAt w7 a6 (coefs o)) := HN6.out.mono hb7
  have HN7 : Hid (IntsAt w7 a7 (coefs o)) := hn7.at_
  have hs7 : W.heap.size ≤ w7.heap.size := HB7.out.size
  clear ho7 hb7 hn7 HO1 HO2' HO3 HN6 HB6
  go_wp2_with fail
  refine (sameInt_any w7 a6 a7 c6 c7 (coefs o) HN6'.out HN7.out (by have := coefs_le o; omega)).mono ?_
  rintro e w8 ⟨rfl, n8, rfl⟩
  go_wp2_with fail
  refine (ruin_any (w7.drewN n8) w2.heap.size (.slice a3 L.length c3) L (HO3'.out.drewN n8)).mono ?_
  rintro e w9 ⟨rfl, hk9⟩
  have hd : ∀ q, (Value.slice a3 L.length c3).ownBlock = some q → w2.heap.size ≤ q := fun q hq => (World.ownsRow.lt HO3'.out q hq).1
  have HN1 : Hid (IntsAt w9 a1 xs) := OwnInts.at (ownsRow_other (HO1'.out.drewN n8) hk9 (fun q hq e => by have := HD1.out q hq; have := hd q e; omega))
  have HN2 : Hid (IntsAt w9 a2 xs) := OwnInts.at (ownsRow_other (HO2.out.drewN n8) hk9 (fun q hq e => by have := HD2.out q hq; have := hd q e; omega))
  have HB9 : Hid (Below W.heap.size W w9) := hk9.below_of (below_drewN HB7.out n8) (fun q hq => Nat.le_trans hs2 (hd q hq)) hs7
  have hs9 : W.heap.size ≤ w9.heap.size := HB9.out.size
  clear hk9 hd HO1' HO2 HO3' HN6' HN7 HB7 HD1 HD2
  go_wp2_with fail
  refine (sameInt_any w9 a2 a1 c2 c1 xs HN2.out HN1.out (by omega)).mono ?_
  rintro e w10 ⟨rfl, n10, rfl⟩
  go_wp2_with fail
  refine (wakes5_any _).mono ?_
  rintro e w11 ⟨rfl, hb11⟩
  have HB11 : Hid (Below W.heap.size W w11) := (below_drewN HB9.out n10).trans (hb11.mono hs9)
  clear hb11
  go_wp2
  go_ret
  exact ⟨rfl, HB11.out⟩

end Go.Proofs.Ytepnjglhchbknaa
