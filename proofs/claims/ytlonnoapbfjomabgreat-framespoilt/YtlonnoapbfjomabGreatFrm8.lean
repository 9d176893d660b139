/- The document's own Decode: verbatim. -/
import Derived.Test.YtlonnoapbfjomabGreatFrm7
namespace Go.Proofs.YtlonnoapbfjomabGreat
set_option linter.unusedVariables false
set_option linter.unusedSimpArgs false
open Go.RowKit Dg

set_option maxRecDepth 100000 in
set_option maxHeartbeats 4000000 in
theorem rdec_verb (w : World) (v : Value) (l : List Nat) (h : SlAt w v l) (hl : l.length ≤ 1000000) (hby : ∀ x ∈ l, x < 256) (K n : Nat) (hg1 : getOut (left l 0) 8 = (K, 8, true)) (hg2 : getOut (left l (0 + 8)) 8 = (n, 8, true)) (hK : K = 1) (hn1 : 1 ≤ n) (hn2 : n ≤ 64) (R : List Int × Int) (hR : R = outOf ((sampsT n (left l 16)).bind (finT K n))) :
    Calls Tryz.prog 17 #[v] w fun e w' => Gave w w' R e := by
  have HSL := hid_of h
  have HBY := hid_of hby
  clear h hby
  have HG1 := hid_of hg1
  have HG2 := hid_of hg2
  clear hg1 hg2
  obtain ⟨T, hT⟩ : ∃ T, T = sampsT n (left l 16) := ⟨_, rfl⟩
  have HT := hid_of hT
  have HR : Hid (R = outOf (T.bind (finT K n))) := by show _ = _; rw [hR, hT]
  clear hR hT
  have hb0 : (K == 0) = false := beq_eq_false_iff_ne.2 (by omega)
  have hb1 : (K == 1) = true := beq_iff_eq.2 hK
  have hK6 : K ≤ 6 := by omega
  have hK1 : K ≤ 1 := by omega
  have hK18 : K ≤ 18 := by omega
  have HK := hid_of hK
  clear hK
  go_enter Tryz.func17, Tryz.ntmps17
  go_wp2_with fail
  refine (of_any w v l HSL.out hl HBY.out).mono ?_
  rintro e w1 ⟨v1, rfl, h1, hb1⟩
  have HBT1 : Hid (BtAt w1 v1 (left l 0)) := by show BtAt _ _ _; rw [left_zero]; exact BtAt.of_owns h1
  have HB1 := hid_of hb1
  clear h1 hb1
  go_wp2_with fail
  refine (rget_all' w1 v1 l 0 8 HBT1.out _ HG1.out).mono ?_
  rintro e w2 ⟨v2, rfl, hb2, -, m2, rfl⟩
  have HBT2 := hid_of hb2
  clear hb2 HBT1
  go_wp2_with fail
  refine (rget_all' (w1.drewN m2) v2 l _ 8 HBT2.out _ HG2.out).mono ?_
  rintro e w3 ⟨v3, rfl, hb3, -, m3, rfl⟩
  have HBT3 : Hid (BtAt (w1.drewN (m2 + m3)) v3 (left l (0 + 8 + 8))) := hb3
  have HB3 : Hid (Below w.heap.size w (w1.drewN (m2 + m3))) := below_drewN HB1.out (m2 + m3)
  clear hb3 HBT2 HB1
  go_wp2_with fail
  generalize w1.drewN (m2 + m3) = w4 at *
  have hs4 : w.heap.size ≤ w4.heap.size := HB3.out.size
  refine (rsamples_any w4 v3 l 16 n HBT3.out (by omega) T HT.out).mono ?_
  intro e w5 hg
  cases hTT : T with
  | none =>
    rw [hTT] at hg
    have HN : Hid (R = ([], 2)) := by show _ = _; rw [HR.out, hTT]; rfl
    obtain ⟨x5, v5, rfl, hb5⟩ := hg
    have HB5 : Hid (Below w.heap.size w w5) := HB3.out.trans (hb5.mono hs4)
    clear hb5 hTT
    go_wp2_with fail
    go_ret2
    exact Gave.none HN.out HB5.out
  | some q =>
    obtain ⟨xs, r⟩ := q
    rw [hTT] at hg
    obtain ⟨x5, v5, p, rfl, ho5, hbt5, hr, hv5, hb5⟩ := hg
    simp only at ho5 hr
    have HXL : Hid (xs.length = n) := sampsT_len _ _ _ (HT.out.symm.trans hTT)
    have HR2 : Hid (R = outOf (finT K n (xs, left l p))) := by show _ = _; rw [HR.out, hTT, hr]; rfl
    have HB5 : Hid (Below w.heap.size w w5) := HB3.out.trans (hb5.mono hs4)
    have hs5 : w.heap.size ≤ w5.heap.size := HB5.out.size
    have HBT5 := hid_of hbt5
    have HO5 := hid_of ho5
    have HV5 : Hid (∀ k, v5.ownBlock = some k → k < w4.heap.size) := fun k hk => HBT3.out.lt k (hv5 k hk)
    have HLP := hid_of (left_short l p hl)
    have HBTW := hid_of hbt5
    have HBW := hid_of HB5.out
    have HOW : Hid (OwnInts w5 w.heap.size x5 xs) := ho5.base hs4
    clear ho5 hbt5 hr hv5 hb5 hTT
    go_wp2_with fail
    go_loopw [4, 11, 12] (fun b c i ws => v5 = b ∧ c = .slice none 0 0 ∧ i = .int .i64 0 ∧ w5 = ws) (fun _ _ _ _ => 0)
    case atStart => exact ⟨rfl, rfl, rfl, rfl⟩
    case round =>
      obtain ⟨rfl, rfl, rfl, rfl⟩ := hrel
      by_cases hno : noOnes (left l p) = true
      · have HQ : Hid (true = noOnes (left l p)) := hno.symm
        have HFIN : Hid (R = (xs, 0)) := by show _ = _; rw [HR2.out, HK.out, finT_verb, if_pos hno]; rfl
        clear hno
        go_wp2_with fail
        refine (rrest_all' w5 v5 _ HBTW.out HLP.out true HQ.out).mono ?_
        rintro e w9 ⟨rfl, rfl⟩
        go_wp2_with fail
        go_ret2
        rw [HFIN.out]
        exact ⟨_, rfl, HOW.out, HBW.out⟩
      · have hno' : noOnes (left l p) = false := by simpa using hno
        have HQ : Hid (false = noOnes (left l p)) := hno'.symm
        have HFIN : Hid (R = ([], 2)) := by show _ = _; rw [HR2.out, HK.out, finT_verb, if_neg hno]; rfl
        clear hno hno'
        go_wp2_with fail
        refine (rrest_all' w5 v5 _ HBTW.out HLP.out false HQ.out).mono ?_
        rintro e w9 ⟨rfl, rfl⟩
        go_wp2_with fail
        go_ret2
        exact Gave.none HFIN.out HBW.out

end Go.Proofs.YtlonnoapbfjomabGreat
