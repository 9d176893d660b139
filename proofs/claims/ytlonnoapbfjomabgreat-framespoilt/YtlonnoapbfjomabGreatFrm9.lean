/- The document's own Decode: fixed. -/
import Derived.Test.YtlonnoapbfjomabGreatFrm8
namespace Go.Proofs.YtlonnoapbfjomabGreat
set_option linter.unusedVariables false
set_option linter.unusedSimpArgs false
open Go.RowKit Dg

set_option maxRecDepth 100000 in
set_option maxHeartbeats 4000000 in
theorem rdec_fixed (w : World) (v : Value) (l : List Nat) (h : SlAt w v l) (hl : l.length ≤ 1000000) (hby : ∀ x ∈ l, x < 256) (K n : Nat) (hg1 : getOut (left l 0) 8 = (K, 8, true)) (hg2 : getOut (left l (0 + 8)) 8 = (n, 8, true)) (hK2 : 2 ≤ K) (hK6 : K ≤ 6) (o : Nat) (ho : o = K - 2) (hno : o ≤ n) (hn1 : 1 ≤ n) (hn2 : n ≤ 64) (R : List Int × Int) (hR : R = outOf ((sampsT o (left l 16)).bind (finT K n))) :
    Calls Tryz.prog 17 #[v] w fun e w' => Gave w w' R e := by
  have HSL := hid_of h
  have HBY := hid_of hby
  clear h hby
  have HG1 := hid_of hg1
  have HG2 := hid_of hg2
  clear hg1 hg2
  obtain ⟨T, hT⟩ : ∃ T, T = sampsT o (left l 16) := ⟨_, rfl⟩
  have HT := hid_of hT
  have HR : Hid (R = outOf (T.bind (finT K n))) := by show _ = _; rw [hR, hT]
  clear hR hT
  have hb0 : (K == 0) = false := beq_eq_false_iff_ne.2 (by omega)
  have hb1 : (K == 1) = false := beq_eq_false_iff_ne.2 (by omega)
  have hoI : (K : Int) - 2 = (o : Int) := by omega
  have hK1 : 1 < K := by omega
  have hK18 : K ≤ 18 := by omega
  have ho4 : o ≤ 4 := by omega
  have HOO : Hid (ordOf K n = o) := by show _ = _; unfold ordOf; rw [if_neg (by omega), if_neg (by omega), if_pos hK6]; exact ho.symm
  obtain ⟨m, hm⟩ : ∃ m, m = n - o := ⟨_, rfl⟩
  have hmI : (n : Int) - (o : Int) = (m : Int) := by omega
  have hm64 : m ≤ 64 := by omega
  have HME := hid_of hm
  clear ho hm
  go_enter Tryz.func17, Tryz.ntmps17
  go_wp2_with fail
  refine (of_any w v l HSL.out hl HBY.out).mono ?_
  rintro e w1 ⟨v1, rfl, h1, hb1⟩
  have HBT1 : Hid (BtAt w1 v1 (left l 0)) := by show BtAt _ _ _; rw [left_zero]; exact BtAt.of_owns h1
  have HB1 := hid_of hb1
  clear h1 hb1
  go_wp2_with fail
  refine (rget_all' w1 v1 l 0 8 HBT1.out _ HG1.out).mono ?_
  rintro e w2 ⟨v2, rfl, hb2, -, m2, rfl⟩
  have HBT2 := hid_of hb2
  clear hb2 HBT1
  go_wp2_with fail
  refine (rget_all' (w1.drewN m2) v2 l _ 8 HBT2.out _ HG2.out).mono ?_
  rintro e w3 ⟨v3, rfl, hb3, -, m3, rfl⟩
  have HBT3 : Hid (BtAt (w1.drewN (m2 + m3)) v3 (left l (0 + 8 + 8))) := hb3
  have HB3 : Hid (Below w.heap.size w (w1.drewN (m2 + m3))) := below_drewN HB1.out (m2 + m3)
  clear hb3 HBT2 HB1
  go_wp2_with fail
  generalize w1.drewN (m2 + m3) = w4 at *
  have hs4 : w.heap.size ≤ w4.heap.size := HB3.out.size
  refine (rsamples_any w4 v3 l 16 o HBT3.out (by omega) T HT.out).mono ?_
  intro e w5 hg
  cases hTT : T with
  | none =>
    rw [hTT] at hg
    have HN : Hid (R = ([], 2)) := by show _ = _; rw [HR.out, hTT]; rfl
    obtain ⟨x5, v5, rfl, hb5⟩ := hg
    have HB5 : Hid (Below w.heap.size w w5) := HB3.out.trans (hb5.mono hs4)
    clear hb5 hTT
    go_wp2_with fail
    go_ret2
    exact Gave.none HN.out HB5.out
  | some q =>
    obtain ⟨xs, r⟩ := q
    rw [hTT] at hg
    obtain ⟨x5, v5, p, rfl, ho5, hbt5, hr, hv5, hb5⟩ := hg
    simp only at ho5 hr
    have HXL : Hid (xs.length = o) := sampsT_len _ _ _ (HT.out.symm.trans hTT)
    have HR2 : Hid (R = outOf (finT K n (xs, left l p))) := by show _ = _; rw [HR.out, hTT, hr]; rfl
    have HB5 : Hid (Below w.heap.size w w5) := HB3.out.trans (hb5.mono hs4)
    have hs5 : w.heap.size ≤ w5.heap.size := HB5.out.size
    have HBT5 := hid_of hbt5
    have HO5 := hid_of ho5
    have HV5 : Hid (∀ k, v5.ownBlock = some k → k < w4.heap.size) := fun k hk => HBT3.out.lt k (hv5 k hk)
    have HLP := hid_of (left_short l p hl)
    have hbt5' := hbt5
    clear ho5 hbt5 hr hv5 hb5 hTT hbt5'
    obtain ⟨xa, xc, rfl, hxn, -, -⟩ := HO5.out.ns
    have HXN := hid_of hxn
    clear hxn
    obtain ⟨T2, hT2⟩ : ∃ T2, T2 = resT m (left l p) := ⟨_, rfl⟩
    have HT2 := hid_of hT2
    have HR3 : Hid (R = outOf ((T2.bind fun q => if (restOut xs q.1).2 = 0 then some ((restOut xs q.1).1, q.2) else none).bind fun y => if noOnes y.2 = true then some y.1 else none)) := by
      show _ = _
      rw [HR2.out, finT, bodyT, if_neg (by omega), if_neg (by omega), if_pos hK6, HOO.out, ← HME.out, hT2]
    clear hT2
    go_wp2_with fail
    go_loopw [4, 11, 12] (fun b c i ws => v5 = b ∧ c = .slice none 0 0 ∧ i = .int .i64 0 ∧ w5 = ws) (fun _ _ _ _ => 0)
    case atStart => exact ⟨rfl, rfl, rfl, rfl⟩
    case round =>
      obtain ⟨rfl, rfl, rfl, rfl⟩ := hrel
      go_wp2_with fail
      refine (rtakeres_any w5 v5 l p m HBT5.out (by omega) T2 HT2.out).mono ?_
      intro e w6 hg
      cases hTT : T2 with
      | none =>
        rw [hTT] at hg
        have HN : Hid (R = ([], 2)) := by show _ = _; rw [HR3.out, hTT]; rfl
        obtain ⟨x6, v6, rfl, hb6⟩ := hg
        have HB6 : Hid (Below w.heap.size w w6) := HB5.out.trans (hb6.mono hs5)
        clear hb6 hTT
        go_wp2_with fail
        go_ret2
        exact Gave.none HN.out HB6.out
      | some q =>
        obtain ⟨zs, r2⟩ := q
        rw [hTT] at hg
        obtain ⟨x6, v6, p2, rfl, ho6, hbt6, hr2, -, hb6⟩ := hg
        simp only at ho6 hr2
        obtain ⟨hi6, hl6⟩ := resT_i64 (HT2.out.symm.trans hTT)
        simp only at hi6 hl6
        obtain ⟨za, zc, rfl, hzn, -, -⟩ := ho6.ns
        have HZN := hid_of hzn.at_
        have HI6 := hid_of hi6
        have hl64 : zs.length ≤ 64 := by omega
        have HXN6 : Hid (Ns w6 xa xc xs) := HXN.out.mono hb6
        have HB6 : Hid (Below w.heap.size w w6) := HB5.out.trans (hb6.mono hs5)
        have hs6 : w.heap.size ≤ w6.heap.size := HB6.out.size
        have HBT6 := hid_of hbt6
        have hxl4 : xs.length ≤ 4 := by rw [HXL.out]; exact ho4
        obtain ⟨⟨Y, k⟩, hRY⟩ : ∃ RY, RY = restOut xs zs := ⟨_, rfl⟩
        have HRY := hid_of hRY
        have HR4 : Hid (R = outOf ((if k = 0 then some (Y, left l p2) else none).bind fun y => if noOnes y.2 = true then some y.1 else none)) := by
          show _ = _
          rw [HR3.out, hTT, hr2]
          simp only [Option.bind_some]
          rw [← hRY]
        have HLP2 := hid_of (left_short l p2 hl)
        clear ho6 hbt6 hr2 hb6 hTT hi6 hl6 hzn hRY
        go_wp2_with fail
        refine (rrest_any w6 xa za xc zc xs zs HXN6.out HZN.out (by omega) (by omega) HI6.out _ HRY.out).mono ?_
        rintro e w7 hg
        obtain ⟨a7, c7, rfl, ho7, -, hb7⟩ := hg.ok
        have HO7 := hid_of ho7
        have HB7 : Hid (Below w.heap.size w w7) := HB6.out.trans (hb7.mono hs6)
        have HBT7 : Hid (BtAt w7 v6 (left l p2)) := HBT6.out.below hb7
        clear hg ho7 hb7
        by_cases hk0 : k = 0
        · have hkb : (k != 0) = false := by simp [hk0]
          have HR5 : Hid (R = outOf (if noOnes (left l p2) = true then some Y else none)) := by show _ = _; rw [HR4.out, if_pos hk0]; rfl
          clear hk0
          by_cases hno : noOnes (left l p2) = true
          · have HQ : Hid (true = noOnes (left l p2)) := hno.symm
            have HFIN : Hid (R = (Y, 0)) := by show _ = _; rw [HR5.out, if_pos hno]; rfl
            clear hno
            go_wp2_with fail
            refine (rrest_all' w7 v6 _ HBT7.out HLP2.out true HQ.out).mono ?_
            rintro e w9 ⟨rfl, rfl⟩
            go_wp2_with fail
            go_ret2
            rw [HFIN.out]
            exact ⟨_, rfl, (HO7.out.base hs6), HB7.out⟩
          · have hno' : noOnes (left l p2) = false := by simpa using hno
            have HQ : Hid (false = noOnes (left l p2)) := hno'.symm
            have HFIN : Hid (R = ([], 2)) := by show _ = _; rw [HR5.out, if_neg hno]; rfl
            clear hno hno'
            go_wp2_with fail
            refine (rrest_all' w7 v6 _ HBT7.out HLP2.out false HQ.out).mono ?_
            rintro e w9 ⟨rfl, rfl⟩
            go_wp2_with fail
            go_ret2
            exact Gave.none HFIN.out HB7.out
        · have hkb : (k != 0) = true := by simp [hk0]
          have HN : Hid (R = ([], 2)) := by show _ = _; rw [HR4.out, if_neg hk0]; rfl
          clear hk0
          go_wp2_with fail
          go_ret2
          exact Gave.none HN.out HB7.out

end Go.Proofs.YtlonnoapbfjomabGreat
