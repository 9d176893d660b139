/- The texts Frm9, FrmA, FrmB, LevTwo, one behind the other. -/
import Derived.Test.YthkfaackkcdcoabPart14
import Derived.Test.YthkfaackkcdcoabPart10
import Derived.Maps.AppendAt

/- The document's own Decode: fixed. -/
namespace Go.Proofs.Ythkfaackkcdcoab
set_option linter.unusedVariables false
set_option linter.unusedSimpArgs false
open Go.RowKit Dg

set_option maxRecDepth 100000 in
set_option maxHeartbeats 4000000 in
theorem rdec_fixed (w : World) (v : Value) (l : List Nat) (h : SlAt w v l) (hl : l.length ≤ 1000000) (hby : ∀ x ∈ l, x < 256) (K n : Nat) (hg1 : getOut (left l 0) 8 = (K, 8, true)) (hg2 : getOut (left l (0 + 8)) 8 = (n, 8, true)) (hK2 : 2 ≤ K) (hK6 : K ≤ 6) (o : Nat) (ho : o = K - 2) (hno : o ≤ n) (hn1 : 1 ≤ n) (hn2 : n ≤ 64) (R : List Int × Int) (hR : R = outOf ((sampsT o (left l 16)).bind (finT K n))) :
    Calls Try.prog 8 #[v] w fun e w' => Gave w w' R e := by
  have HSL := hid_of h
  have HBY := hid_of hby
  clear h hby
  have HG1 := hid_of hg1
  have HG2 := hid_of hg2
  clear hg1 hg2
  obtain ⟨T, hT⟩ : ∃ T, T = sampsT o (left l 16) := ⟨_, rfl⟩
  have HT := hid_of hT
  have HR : Hid (R = outOf (T.bind (finT K n))) := by show _ = _; rw [hR, hT]
  clear hR hT
  have hb0 : (K == 0) = false := beq_eq_false_iff_ne.2 (by omega)
  have hb1 : (K == 1) = false := beq_eq_false_iff_ne.2 (by omega)
  have hoI : (K : Int) - 2 = (o : Int) := by omega
  have hK1 : 1 < K := by omega
  have hK18 : K ≤ 18 := by omega
  have ho4 : o ≤ 4 := by omega
  have HOO : Hid (ordOf K n = o) := by show _ = _; unfold ordOf; rw [if_neg (by omega), if_neg (by omega), if_pos hK6]; exact ho.symm
  obtain ⟨m, hm⟩ : ∃ m, m = n - o := ⟨_, rfl⟩
  have hmI : (n : Int) - (o : Int) = (m : Int) := by omega
  have hm64 : m ≤ 64 := by omega
  have HME := hid_of hm
  clear ho hm
  go_enter Try.func8, Try.ntmps8
  go_wp2_with fail
  refine (of_any w v l HSL.out hl HBY.out).mono ?_
  rintro e w1 ⟨v1, rfl, h1, hb1⟩
  have HBT1 : Hid (BtAt w1 v1 (left l 0)) := by show BtAt _ _ _; rw [left_zero]; exact BtAt.of_owns h1
  have HB1 := hid_of hb1
  clear h1 hb1
  go_wp2_with fail
  refine (rget_all' w1 v1 l 0 8 HBT1.out _ HG1.out).mono ?_
  rintro e w2 ⟨v2, rfl, hb2, -, m2, rfl⟩
  have HBT2 := hid_of hb2
  clear hb2 HBT1
  go_wp2_with fail
  refine (rget_all' (w1.drewN m2) v2 l _ 8 HBT2.out _ HG2.out).mono ?_
  rintro e w3 ⟨v3, rfl, hb3, -, m3, rfl⟩
  have HBT3 : Hid (BtAt (w1.drewN (m2 + m3)) v3 (left l (0 + 8 + 8))) := hb3
  have HB3 : Hid (Below w.heap.size w (w1.drewN (m2 + m3))) := below_drewN HB1.out (m2 + m3)
  clear hb3 HBT2 HB1
  go_wp2_with fail
  generalize w1.drewN (m2 + m3) = w4 at *
  have hs4 : w.heap.size ≤ w4.heap.size := HB3.out.size
  refine (rsamples_any w4 v3 l 16 o HBT3.out (by omega) T HT.out).mono ?_
  intro e w5 hg
  cases hTT : T with
  | none =>
    rw [hTT] at hg
    have HN : Hid (R = ([], 2)) := by show _ = _; rw [HR.out, hTT]; rfl
    obtain ⟨x5, v5, rfl, hb5⟩ := hg
    have HB5 : Hid (Below w.heap.size w w5) := HB3.out.trans (hb5.mono hs4)
    clear hb5 hTT
    go_wp2_with fail
    go_ret2
    exact Gave.none HN.out HB5.out
  | some q =>
    obtain ⟨xs, r⟩ := q
    rw [hTT] at hg
    obtain ⟨x5, v5, p, rfl, ho5, hbt5, hr, hv5, hb5⟩ := hg
    simp only at ho5 hr
    have HXL : Hid (xs.length = o) := sampsT_len _ _ _ (HT.out.symm.trans hTT)
    have HR2 : Hid (R = outOf (finT K n (xs, left l p))) := by show _ = _; rw [HR.out, hTT, hr]; rfl
    have HB5 : Hid (Below w.heap.size w w5) := HB3.out.trans (hb5.mono hs4)
    have hs5 : w.heap.size ≤ w5.heap.size := HB5.out.size
    have HBT5 := hid_of hbt5
    have HO5 := hid_of ho5
    have HV5 : Hid (∀ k, v5.ownBlock = some k → k < w4.heap.size) := fun k hk => HBT3.out.lt k (hv5 k hk)
    have HLP := hid_of (left_short l p hl)
    have hbt5' := hbt5
    clear ho5 hbt5 hr hv5 hb5 hTT hbt5'
    obtain ⟨xa, xc, rfl, hxn, -, -⟩ := HO5.out.ns
    have HXN := hid_of hxn
    clear hxn
    obtain ⟨T2, hT2⟩ : ∃ T2, T2 = resT m (left l p) := ⟨_, rfl⟩
    have HT2 := hid_of hT2
    have HR3 : Hid (R = outOf ((T2.bind fun q => if (restOut xs q.1).2 = 0 then some ((restOut xs q.1).1, q.2) else none).bind fun y => if noOnes y.2 = true then some y.1 else none)) := by
      show _ = _
      rw [HR2.out, finT, bodyT, if_neg (by omega), if_neg (by omega), if_pos hK6, HOO.out, ← HME.out, hT2]
    clear hT2
    go_wp2_with fail
    go_loopw [4, 11, 12] (fun b c i ws => v5 = b ∧ c = .slice none 0 0 ∧ i = .int .i64 0 ∧ w5 = ws) (fun _ _ _ _ => 0)
    case atStart => exact ⟨rfl, rfl, rfl, rfl⟩
    case round =>
      obtain ⟨rfl, rfl, rfl, rfl⟩ := hrel
      go_wp2_with fail
      refine (rtakeres_any w5 v5 l p m HBT5.out (by omega) T2 HT2.out).mono ?_
      intro e w6 hg
      cases hTT : T2 with
      | none =>
        rw [hTT] at hg
        have HN : Hid (R = ([], 2)) := by show _ = _; rw [HR3.out, hTT]; rfl
        obtain ⟨x6, v6, rfl, hb6⟩ := hg
        have HB6 : Hid (Below w.heap.size w w6) := HB5.out.trans (hb6.mono hs5)
        clear hb6 hTT
        go_wp2_with fail
        go_ret2
        exact Gave.none HN.out HB6.out
      | some q =>
        obtain ⟨zs, r2⟩ := q
        rw [hTT] at hg
        obtain ⟨x6, v6, p2, rfl, ho6, hbt6, hr2, -, hb6⟩ := hg
        simp only at ho6 hr2
        obtain ⟨hi6, hl6⟩ := resT_i64 (HT2.out.symm.trans hTT)
        simp only at hi6 hl6
        obtain ⟨za, zc, rfl, hzn, -, -⟩ := ho6.ns
        have HZN := hid_of hzn.at_
        have HI6 := hid_of hi6
        have hl64 : zs.length ≤ 64 := by omega
        have HXN6 : Hid (Ns w6 xa xc xs) := HXN.out.mono hb6
        have HB6 : Hid (Below w.heap.size w w6) := HB5.out.trans (hb6.mono hs5)
        have hs6 : w.heap.size ≤ w6.heap.size := HB6.out.size
        have HBT6 := hid_of hbt6
        have hxl4 : xs.length ≤ 4 := by rw [HXL.out]; exact ho4
        obtain ⟨⟨Y, k⟩, hRY⟩ : ∃ RY, RY = restOut xs zs := ⟨_, rfl⟩
        have HRY := hid_of hRY
        have HR4 : Hid (R = outOf ((if k = 0 then some (Y, left l p2) else none).bind fun y => if noOnes y.2 = true then some y.1 else none)) := by
          show _ = _
          rw [HR3.out, hTT, hr2]
          simp only [Option.bind_some]
          rw [← hRY]
        have HLP2 := hid_of (left_short l p2 hl)
        clear ho6 hbt6 hr2 hb6 hTT hi6 hl6 hzn hRY
        go_wp2_with fail
        refine (rrest_any w6 xa za xc zc xs zs HXN6.out HZN.out (by omega) (by omega) HI6.out _ HRY.out).mono ?_
        rintro e w7 hg
        obtain ⟨a7, c7, rfl, ho7, -, hb7⟩ := hg.ok
        have HO7 := hid_of ho7
        have HB7 : Hid (Below w.heap.size w w7) := HB6.out.trans (hb7.mono hs6)
        have HBT7 : Hid (BtAt w7 v6 (left l p2)) := HBT6.out.below hb7
        clear hg ho7 hb7
        by_cases hk0 : k = 0
        · have hkb : (k != 0) = false := by simp [hk0]
          have HR5 : Hid (R = outOf (if noOnes (left l p2) = true then some Y else none)) := by show _ = _; rw [HR4.out, if_pos hk0]; rfl
          clear hk0
          by_cases hno : noOnes (left l p2) = true
          · have HQ : Hid (true = noOnes (left l p2)) := hno.symm
            have HFIN : Hid (R = (Y, 0)) := by show _ = _; rw [HR5.out, if_pos hno]; rfl
            clear hno
            go_wp2_with fail
            refine (rrest_all' w7 v6 _ HBT7.out HLP2.out true HQ.out).mono ?_
            rintro e w9 ⟨rfl, rfl⟩
            go_wp2_with fail
            go_ret2
            rw [HFIN.out]
            exact ⟨_, rfl, (HO7.out.base hs6), HB7.out⟩
          · have hno' : noOnes (left l p2) = false := by simpa using hno
            have HQ : Hid (false = noOnes (left l p2)) := hno'.symm
            have HFIN : Hid (R = ([], 2)) := by show _ = _; rw [HR5.out, if_neg hno]; rfl
            clear hno hno'
            go_wp2_with fail
            refine (rrest_all' w7 v6 _ HBT7.out HLP2.out false HQ.out).mono ?_
            rintro e w9 ⟨rfl, rfl⟩
            go_wp2_with fail
            go_ret2
            exact Gave.none HFIN.out HB7.out
        · have hkb : (k != 0) = true := by simp [hk0]
          have HN : Hid (R = ([], 2)) := by show _ = _; rw [HR4.out, if_neg hk0]; rfl
          clear hk0
          go_wp2_with fail
          go_ret2
          exact Gave.none HN.out HB7.out

end Go.Proofs.Ythkfaackkcdcoab

/- The document's own Decode: constant. -/
namespace Go.Proofs.Ythkfaackkcdcoab
set_option linter.unusedVariables false
set_option linter.unusedSimpArgs false
open Go.RowKit Dg

def lenV : Value → Nat
  | .slice _ n _ => n
  | _ => 0

set_option maxRecDepth 100000 in
set_option maxHeartbeats 4000000 in
theorem rdec_const (w : World) (v : Value) (l : List Nat) (h : SlAt w v l) (hl : l.length ≤ 1000000) (hby : ∀ x ∈ l, x < 256) (K n : Nat) (hg1 : getOut (left l 0) 8 = (K, 8, true)) (hg2 : getOut (left l (0 + 8)) 8 = (n, 8, true)) (hK : K = 0) (hn1 : 1 ≤ n) (hn2 : n ≤ 64) (R : List Int × Int) (hR : R = outOf ((sampsT 1 (left l 16)).bind (finT K n))) :
    Calls Try.prog 8 #[v] w fun e w' => Gave w w' R e := by
  obtain ⟨i0, hi, hz0, hz1, hz2⟩ := info_parts Try.info3
  have HSL := hid_of h
  have HBY := hid_of hby
  clear h hby
  have HG1 := hid_of hg1
  have HG2 := hid_of hg2
  clear hg1 hg2
  obtain ⟨T, hT⟩ : ∃ T, T = sampsT 1 (left l 16) := ⟨_, rfl⟩
  have HT := hid_of hT
  have HR : Hid (R = outOf (T.bind (finT K n))) := by show _ = _; rw [hR, hT]
  clear hR hT
  have hb0 : (K == 0) = true := beq_iff_eq.2 hK
  have hK6 : K ≤ 6 := by omega
  have hK1 : K ≤ 1 := by omega
  have hK18 : K ≤ 18 := by omega
  have HK := hid_of hK
  clear hK
  go_enter Try.func8, Try.ntmps8
  go_wp2_with fail
  refine (of_any w v l HSL.out hl HBY.out).mono ?_
  rintro e w1 ⟨v1, rfl, h1, hb1⟩
  have HBT1 : Hid (BtAt w1 v1 (left l 0)) := by show BtAt _ _ _; rw [left_zero]; exact BtAt.of_owns h1
  have HB1 := hid_of hb1
  clear h1 hb1
  go_wp2_with fail
  refine (rget_all' w1 v1 l 0 8 HBT1.out _ HG1.out).mono ?_
  rintro e w2 ⟨v2, rfl, hb2, -, m2, rfl⟩
  have HBT2 := hid_of hb2
  clear hb2 HBT1
  go_wp2_with fail
  refine (rget_all' (w1.drewN m2) v2 l _ 8 HBT2.out _ HG2.out).mono ?_
  rintro e w3 ⟨v3, rfl, hb3, -, m3, rfl⟩
  have HBT3 : Hid (BtAt (w1.drewN (m2 + m3)) v3 (left l (0 + 8 + 8))) := hb3
  have HB3 : Hid (Below w.heap.size w (w1.drewN (m2 + m3))) := below_drewN HB1.out (m2 + m3)
  clear hb3 HBT2 HB1
  go_wp2_with fail
  generalize w1.drewN (m2 + m3) = w4 at *
  have hs4 : w.heap.size ≤ w4.heap.size := HB3.out.size
  refine (rsamples_any w4 v3 l 16 1 HBT3.out (by omega) T HT.out).mono ?_
  intro e w5 hg
  cases hTT : T with
  | none =>
    rw [hTT] at hg
    have HN : Hid (R = ([], 2)) := by show _ = _; rw [HR.out, hTT]; rfl
    obtain ⟨x5, v5, rfl, hb5⟩ := hg
    have HB5 : Hid (Below w.heap.size w w5) := HB3.out.trans (hb5.mono hs4)
    clear hb5 hTT
    go_wp2_with fail
    go_ret2
    exact Gave.none HN.out HB5.out
  | some q =>
    obtain ⟨xs, r⟩ := q
    rw [hTT] at hg
    obtain ⟨x5, v5, p, rfl, ho5, hbt5, hr, hv5, hb5⟩ := hg
    simp only at ho5 hr
    have HXL : Hid (xs.length = 1) := sampsT_len _ _ _ (HT.out.symm.trans hTT)
    have HR2 : Hid (R = outOf (finT K n (xs, left l p))) := by show _ = _; rw [HR.out, hTT, hr]; rfl
    have HB5 : Hid (Below w.heap.size w w5) := HB3.out.trans (hb5.mono hs4)
    have hs5 : w.heap.size ≤ w5.heap.size := HB5.out.size
    have HBT5 := hid_of hbt5
    have HO5 := hid_of ho5
    have HV5 : Hid (∀ k, v5.ownBlock = some k → k < w4.heap.size) := fun k hk => HBT3.out.lt k (hv5 k hk)
    have HLP := hid_of (left_short l p hl)
    have hs45 : w4.heap.size ≤ w5.heap.size := hb5.size
    clear ho5 hbt5 hr hv5 hb5 hTT
    obtain ⟨x0, hx0⟩ : ∃ x0, xs[0]? = some x0 := ⟨xs[0]'(by rw [HXL.out]; decide), by simp⟩
    have HX0 := hid_of (getD_of hx0)
    have HALL : Hid (∀ y ∈ xs, y = x0) := by
      intro y hy
      have h1 := HXL.out
      match xs, h1, hx0, hy with
      | [z], _, h2, h3 => simp at h2 h3; rw [h3, h2]
    have hxs1 : xs.length ≤ n := by rw [HXL.out]; exact hn1
    have hxs2 : 1 ≤ xs.length := by rw [HXL.out]; exact Nat.le_refl _
    clear hx0
    go_wp2_with fail
    go_loopw [10] (fun u ws => ∃ L : List Int, 1 ≤ L.length ∧ L.length ≤ n ∧ Hid (∀ y ∈ L, y = x0) ∧ Hid (OwnInts ws w4.heap.size u L) ∧ Hid (Below w4.heap.size w5 ws)) (fun u _ => n - lenV u)
    case atStart => exact ⟨xs, hxs2, hxs1, HALL.out, HO5.out, Below.refl _ _⟩
    case round =>
      obtain ⟨L, hL1, hL2, hall, ho, hb⟩ := hrel
      obtain ⟨xa, xc, rfl, hxn, -, -⟩ := ho.out.ns
      have HXN := hid_of hxn.at_
      have hsz : w4.heap.size ≤ wr.heap.size := Nat.le_trans hs45 hb.out.size
      clear hxn
      by_cases hLn : L.length < n
      · have hL0 : L[0]? = some x0 := by
          have h1 : L[0]? = some (L[0]'(by omega)) := by simp
          rw [h1, hall.out _ (List.getElem_mem (by omega))]
        obtain ⟨b, off, rfl, hc⟩ := HXN.out 0 x0 hL0
        rw [Nat.add_zero] at hc
        have hl6 : L.length ≤ 1000000 := by omega
        clear hL0
        go_wp2_with (at_builtin; go_must (refine wpList_append_int wr rfl (.tmp 93) (.tmp 97) 24 rfl w4.heap.size i0 Try.underlying24 hi hz0 hz1 hz2 (.slice (some ⟨b, off, none⟩) L.length xc) L (by rfl) ho.out x0 (by rfl) hl6 hsz ?_))
        intro v' w' g1 g2
        have HB' : Hid (Below w4.heap.size w5 w') := hb.out.trans g2.out
        have HA' : Hid (∀ y ∈ L ++ [x0], y = x0) := by
          intro y hy
          rcases List.mem_append.1 hy with h1 | h1
          · exact hall.out y h1
          · simpa using h1
        obtain ⟨a', c', rfl, -, -⟩ := g1.out.ns
        clear g2
        go_wp2_with fail
        exact ⟨⟨L ++ [x0], by simp, by simp; omega, HA', g1, HB'⟩, by (simp [lenV]) <;> omega⟩
      · have hLe : L.length = n := by omega
        have HLE : Hid (L = List.replicate n x0) := List.eq_replicate_iff.2 ⟨hLe, hall.out⟩
        have hLn' : n ≤ L.length := by omega
        have HBTW : Hid (BtAt wr v5 (left l p)) := HBT5.out.under hb.out HV5.out
        have HBW : Hid (Below w.heap.size w wr) := HB5.out.trans (hb.out.mono hs4)
        have HOW : Hid (OwnInts wr w.heap.size (.slice xa L.length xc) L) := ho.out.base hs4
        clear hLe hLn hall ho hb
        go_wp2_with fail
        go_loopw [4, 11, 12] (fun b c i ws => v5 = b ∧ c = .slice none 0 0 ∧ i = .int .i64 0 ∧ wr = ws) (fun _ _ _ _ => 0)
        case atStart => exact ⟨rfl, rfl, rfl, rfl⟩
        case round =>
          obtain ⟨rfl, rfl, rfl, rfl⟩ := hrel
          by_cases hno : noOnes (left l p) = true
          · have HQ : Hid (true = noOnes (left l p)) := hno.symm
            have HFIN : Hid (R = (L, 0)) := by show _ = _; rw [HR2.out, HK.out, finT_const, if_pos hno, HX0.out, HLE.out]; rfl
            clear hno
            go_wp2_with fail
            refine (rrest_all' wr v5 _ HBTW.out HLP.out true HQ.out).mono ?_
            rintro e w9 ⟨rfl, rfl⟩
            go_wp2_with fail
            go_ret2
            rw [HFIN.out]
            exact ⟨_, rfl, HOW.out, HBW.out⟩
          · have hno' : noOnes (left l p) = false := by simpa using hno
            have HQ : Hid (false = noOnes (left l p)) := hno'.symm
            have HFIN : Hid (R = ([], 2)) := by show _ = _; rw [HR2.out, HK.out, finT_const, if_neg hno]; rfl
            clear hno hno'
            go_wp2_with fail
            refine (rrest_all' wr v5 _ HBTW.out HLP.out false HQ.out).mono ?_
            rintro e w9 ⟨rfl, rfl⟩
            go_wp2_with fail
            go_ret2
            exact Gave.none HFIN.out HBW.out

end Go.Proofs.Ythkfaackkcdcoab

/- The document's own Decode: LPC, and any bytes. -/
namespace Go.Proofs.Ythkfaackkcdcoab
set_option linter.unusedVariables false
set_option linter.unusedSimpArgs false
open Go.RowKit Dg

set_option maxRecDepth 100000 in
set_option maxHeartbeats 8000000 in
theorem rdec_lpc (w : World) (v : Value) (l : List Nat) (h : SlAt w v l) (hl : l.length ≤ 1000000) (hby : ∀ x ∈ l, x < 256) (K n : Nat) (hg1 : getOut (left l 0) 8 = (K, 8, true)) (hg2 : getOut (left l (0 + 8)) 8 = (n, 8, true)) (hK7 : 6 < K) (hK18 : K ≤ 18) (o : Nat) (ho : o = K - 6) (hno : o < n) (hn1 : 1 ≤ n) (hn2 : n ≤ 64) (R : List Int × Int) (hR : R = outOf ((sampsT o (left l 16)).bind (finT K n))) :
    Calls Try.prog 8 #[v] w fun e w' => Gave w w' R e := by
  obtain ⟨i0, hi, hz0, hz1, hz2⟩ := info_parts Try.info3
  have HSL := hid_of h
  have HBY := hid_of hby
  clear h hby
  have HG1 := hid_of hg1
  have HG2 := hid_of hg2
  clear hg1 hg2
  obtain ⟨T, hT⟩ : ∃ T, T = sampsT o (left l 16) := ⟨_, rfl⟩
  have HT := hid_of hT
  have HR : Hid (R = outOf (T.bind (finT K n))) := by show _ = _; rw [hR, hT]
  clear hR hT
  have hb0 : (K == 0) = false := beq_eq_false_iff_ne.2 (by omega)
  have hb1 : (K == 1) = false := beq_eq_false_iff_ne.2 (by omega)
  have hoI : (K : Int) - 6 = (o : Int) := by omega
  have hK1 : 1 < K := by omega
  have ho12 : o ≤ 12 := by omega
  have HOO : Hid (ordOf K n = o) := by show _ = _; unfold ordOf; rw [if_neg (by omega), if_neg (by omega), if_neg (by omega)]; exact ho.symm
  obtain ⟨m, hm⟩ : ∃ m, m = n - o := ⟨_, rfl⟩
  have hmI : (n : Int) - (o : Int) = (m : Int) := by omega
  have hm64 : m ≤ 64 := by omega
  have hon : o ≤ n := by omega
  have HME := hid_of hm
  clear ho hm
  go_enter Try.func8, Try.ntmps8
  go_wp2_with fail
  refine (of_any w v l HSL.out hl HBY.out).mono ?_
  rintro e w1 ⟨v1, rfl, h1, hb1⟩
  have HBT1 : Hid (BtAt w1 v1 (left l 0)) := by show BtAt _ _ _; rw [left_zero]; exact BtAt.of_owns h1
  have HB1 := hid_of hb1
  clear h1 hb1
  go_wp2_with fail
  refine (rget_all' w1 v1 l 0 8 HBT1.out _ HG1.out).mono ?_
  rintro e w2 ⟨v2, rfl, hb2, -, m2, rfl⟩
  have HBT2 := hid_of hb2
  clear hb2 HBT1
  go_wp2_with fail
  refine (rget_all' (w1.drewN m2) v2 l _ 8 HBT2.out _ HG2.out).mono ?_
  rintro e w3 ⟨v3, rfl, hb3, -, m3, rfl⟩
  have HBT3 : Hid (BtAt (w1.drewN (m2 + m3)) v3 (left l (0 + 8 + 8))) := hb3
  have HB3 : Hid (Below w.heap.size w (w1.drewN (m2 + m3))) := below_drewN HB1.out (m2 + m3)
  clear hb3 HBT2 HB1
  go_wp2_with fail
  generalize w1.drewN (m2 + m3) = w4 at *
  have hs4 : w.heap.size ≤ w4.heap.size := HB3.out.size
  refine (rsamples_any w4 v3 l 16 o HBT3.out (by omega) T HT.out).mono ?_
  intro e w5 hg
  cases hTT : T with
  | none =>
    rw [hTT] at hg
    have HN : Hid (R = ([], 2)) := by show _ = _; rw [HR.out, hTT]; rfl
    obtain ⟨x5, v5, rfl, hb5⟩ := hg
    have HB5 : Hid (Below w.heap.size w w5) := HB3.out.trans (hb5.mono hs4)
    clear hb5 hTT
    go_wp2_with fail
    go_ret2
    exact Gave.none HN.out HB5.out
  | some q =>
    obtain ⟨xs, r⟩ := q
    rw [hTT] at hg
    obtain ⟨x5, v5, p, rfl, ho5, hbt5, hr, hv5, hb5⟩ := hg
    simp only at ho5 hr
    have HXL : Hid (xs.length = o) := sampsT_len _ _ _ (HT.out.symm.trans hTT)
    have HR2 : Hid (R = outOf (finT K n (xs, left l p))) := by show _ = _; rw [HR.out, hTT, hr]; rfl
    have HB5 : Hid (Below w.heap.size w w5) := HB3.out.trans (hb5.mono hs4)
    have hs5 : w.heap.size ≤ w5.heap.size := HB5.out.size
    have HBT5 := hid_of hbt5
    have HO5 := hid_of ho5
    have HV5 : Hid (∀ k, v5.ownBlock = some k → k < w4.heap.size) := fun k hk => HBT3.out.lt k (hv5 k hk)
    have HLP := hid_of (left_short l p hl)
    clear ho5 hbt5 hr hv5 hb5 hTT
    obtain ⟨xa, xc, rfl, hxn, -, -⟩ := HO5.out.ns
    have HXN := hid_of hxn
    clear hxn
    obtain ⟨TC, hTC⟩ : ∃ TC, TC = coefsT o (left l p) := ⟨_, rfl⟩
    have HTC : Hid (TC = (coefsT (o - 0) (left l p)).map fun q => ([] ++ q.1, q.2)) := by show _ = _; rw [hTC, Nat.sub_zero]; cases coefsT o (left l p) <;> rfl
    have HR3 : Hid (R = outOf ((TC.bind fun c => (resT m c.2).bind fun q => if (lrestOut xs q.1 c.1).2 = 0 then some ((lrestOut xs q.1 c.1).1, q.2) else none).bind fun y => if noOnes y.2 = true then some y.1 else none)) := by
      show _ = _
      rw [HR2.out, finT, bodyT, if_neg (by omega), if_neg (by omega), if_neg (by omega), HOO.out, ← HME.out, hTC]
    have HLT5 := hid_of HBT5.out.lt
    clear hTC
    go_wp2_with fail
    go_loopw [4, 11, 12] (fun b c i ws => ∃ (k p : Nat) (out : List Int), k ≤ o ∧ i = .int .i64 (k : Int) ∧ out.length ≤ 1000000 ∧ Hid (out.length = k) ∧ Hid (TC = (coefsT (o - k) (left l p)).map fun q => (out ++ q.1, q.2)) ∧ Hid (OwnInts ws w5.heap.size c out) ∧ Hid (BtAt ws b (left l p)) ∧ Hid (∀ k, b.ownBlock = some k → v5.ownBlock = some k) ∧ Hid (Below w5.heap.size w5 ws)) (fun _ _ i _ => o - (intOf i).toNat)
    case atStart => exact ⟨0, p, [], Nat.zero_le _, rfl, by decide, rfl, HTC.out, OwnInts.nil _ _, HBT5.out, fun _ h => h, Below.refl _ _⟩
    case round =>
      obtain ⟨k, p1, out, hk, rfl, hol, HOL, ht, hoo, hbt, hvv, hb⟩ := hrel
      have hsz : w5.heap.size ≤ wr.heap.size := hb.out.size
      have HBW : Hid (Below w.heap.size w wr) := HB5.out.trans (hb.out.mono hs5)
      have hsw : w.heap.size ≤ wr.heap.size := HBW.out.size
      by_cases hkn : k < o
      · have ek : o - k = (o - (k + 1)) + 1 := by omega
        by_cases hlen : 16 ≤ (left l p1).length
        · obtain ⟨z, hz16, e1, e2⟩ := takeD_left (l := l) (p := p1) (n := 16) (by decide) hlen
          have hzb : z < 65536 := by omega
          have HG : Hid (getOut (left l p1) 16 = (z, 16, true)) := e2
          obtain ⟨y, hy⟩ : ∃ y, (z : Int) - 32768 = y := ⟨_, rfl⟩
          have HNX : Hid (TC = (coefsT (o - (k + 1)) (left l (p1 + 16))).map fun q => ((out ++ [y]) ++ q.1, q.2)) := by
            show _ = _
            rw [ht.out, ek, coefsT, e1, ← hy]
            simp only [Option.bind_some]
            cases coefsT (o - (k + 1)) (left l (p1 + 16)) <;> simp
          clear e1 e2 hz16 hlen
          go_wp2_with first
            | (go_at_call 23; refine (rget_all' wr _ l p1 16 hbt.out _ HG.out).mono ?_; rintro e w6 ⟨v6, rfl, hb6, hv6, m6, rfl⟩; have HB6 := hid_of hb6; have HV6 := hid_of hv6; clear hb6 hv6)
            | (at_builtin; go_must (refine wpList_append_int (wr.drewN m6) rfl (.tmp 116) (.tmp 119) 24 rfl w5.heap.size i0 Try.underlying24 hi hz0 hz1 hz2 u11 out (by rfl) (hoo.out.drewN m6) y (by rfl) hol hsz ?_))
          intro v' w' g1 g2
          have HBB : Hid (Below w5.heap.size w5 w') := (below_drewN hb.out m6).trans g2.out
          have HBT' : Hid (BtAt w' v6 (left l (p1 + 16))) := HB6.out.under g2.out (fun k hk => HLT5.out k (hvv.out k (HV6.out k hk)))
          have HVV' : Hid (∀ k, v6.ownBlock = some k → v5.ownBlock = some k) := fun k hk => hvv.out k (HV6.out k hk)
          have HOL' : Hid ((out ++ [y]).length = k + 1) := by show _ = _; rw [List.length_append, HOL.out]; rfl
          have hol' : (out ++ [y]).length ≤ 1000000 := by rw [HOL'.out]; omega
          clear g2
          go_wp2_with fail
          exact ⟨⟨k + 1, p1 + 16, out ++ [y], by omega, by go_num, hol', HOL', HNX, g1, HBT', HVV', HBB⟩, by (simp [intOf]) <;> omega⟩
        · obtain ⟨e1, e2⟩ := takeD_none (n := 16) hlen
          have HG : Hid (getOut (left l p1) 16 = (0, 0, false)) := e2
          have HN : Hid (R = ([], 2)) := by
            have h1 : TC = none := by
              rw [ht.out, ek, coefsT, e1]
              rfl
            show _ = _
            rw [HR3.out, h1]
            rfl
          clear e1 e2 hlen
          go_wp2_with (go_at_call 23; refine (rget_all' wr _ l p1 16 hbt.out _ HG.out).mono ?_; rintro e w6 ⟨v6, rfl, hb6, hv6, m6, rfl⟩; clear hb6 hv6)
          go_ret2
          exact Gave.none HN.out (below_drewN HBW.out m6)
      · have e : k = o := by omega
        have HTS : Hid (TC = some (out, left l p1)) := by
          show _ = _
          rw [ht.out, e, Nat.sub_self]
          simp [coefsT]
        obtain ⟨ca, cc, hu11, hcn, -, -⟩ := hoo.out.ns
        subst hu11
        have HCN := hid_of hcn.at_
        obtain ⟨T2, hT2⟩ : ∃ T2, T2 = resT m (left l p1) := ⟨_, rfl⟩
        have HT2 := hid_of hT2
        have HR4 : Hid (R = outOf ((T2.bind fun q => if (lrestOut xs q.1 out).2 = 0 then some ((lrestOut xs q.1 out).1, q.2) else none).bind fun y => if noOnes y.2 = true then some y.1 else none)) := by
          show _ = _
          rw [HR3.out, HTS.out, hT2]
          rfl
        have HXW : Hid (Ns wr xa xc xs) := HXN.out.mono hb.out
        have hout : out.length ≤ 12 := by rw [HOL.out]; omega
        subst e
        clear hT2 hcn hoo ht hk hkn
        go_wp2_with fail
        refine (rtakeres_any wr _ l p1 m hbt.out (by omega) T2 HT2.out).mono ?_
        intro e w6 hg
        cases hTT : T2 with
        | none =>
          rw [hTT] at hg
          have HN : Hid (R = ([], 2)) := by show _ = _; rw [HR4.out, hTT]; rfl
          obtain ⟨x6, v6, rfl, hb6⟩ := hg
          have HB6 : Hid (Below w.heap.size w w6) := HBW.out.trans (hb6.mono hsw)
          clear hb6 hTT
          go_wp2_with fail
          go_ret2
          exact Gave.none HN.out HB6.out
        | some q =>
          obtain ⟨zs, r2⟩ := q
          rw [hTT] at hg
          obtain ⟨x6, v6, p2, rfl, ho6, hbt6, hr2, -, hb6⟩ := hg
          simp only at ho6 hr2
          obtain ⟨hi6, hl6⟩ := resT_i64 (HT2.out.symm.trans hTT)
          simp only at hi6 hl6
          obtain ⟨za, zc, rfl, hzn, -, -⟩ := ho6.ns
          have HZN := hid_of hzn.at_
          have HI6 := hid_of hi6
          have hl64 : zs.length ≤ 64 := by omega
          have HXN6 : Hid (Ns w6 xa xc xs) := HXW.out.mono hb6
          have HCN6 : Hid (IntsAt w6 ca out) := HCN.out.mono hb6
          have HB6 : Hid (Below w.heap.size w w6) := HBW.out.trans (hb6.mono hsw)
          have hs6 : w.heap.size ≤ w6.heap.size := HB6.out.size
          have HBT6 := hid_of hbt6
          have hxl12 : xs.length ≤ 12 := by rw [HXL.out]; exact ho12
          obtain ⟨⟨Y, k2⟩, hRY⟩ : ∃ RY, RY = lrestOut xs zs out := ⟨_, rfl⟩
          have HRY := hid_of hRY
          have HR5' : Hid (R = outOf ((if k2 = 0 then some (Y, left l p2) else none).bind fun y => if noOnes y.2 = true then some y.1 else none)) := by
            show _ = _
            rw [HR4.out, hTT, hr2]
            simp only [Option.bind_some]
            rw [← hRY]
          have HLP2 := hid_of (left_short l p2 hl)
          clear ho6 hbt6 hr2 hb6 hTT hi6 hl6 hzn hRY
          go_wp2_with fail
          refine (rlrest_any w6 xa za ca xc zc cc xs zs out HXN6.out HZN.out HCN6.out (by omega) (by omega) (by omega) HI6.out _ HRY.out).mono ?_
          rintro e w7 hg
          obtain ⟨a7, c7, rfl, ho7, -, hb7⟩ := hg.ok
          have HO7 := hid_of ho7
          have HB7 : Hid (Below w.heap.size w w7) := HB6.out.trans (hb7.mono hs6)
          have HBT7 : Hid (BtAt w7 v6 (left l p2)) := HBT6.out.below hb7
          clear hg ho7 hb7
          by_cases hk0 : k2 = 0
          · have hkb : (k2 != 0) = false := by simp [hk0]
            have HR5 : Hid (R = outOf (if noOnes (left l p2) = true then some Y else none)) := by show _ = _; rw [HR5'.out, if_pos hk0]; rfl
            clear hk0
            by_cases hno : noOnes (left l p2) = true
            · have HQ : Hid (true = noOnes (left l p2)) := hno.symm
              have HFIN : Hid (R = (Y, 0)) := by show _ = _; rw [HR5.out, if_pos hno]; rfl
              clear hno
              go_wp2_with fail
              refine (rrest_all' w7 v6 _ HBT7.out HLP2.out true HQ.out).mono ?_
              rintro e w9 ⟨rfl, rfl⟩
              go_wp2_with fail
              go_ret2
              rw [HFIN.out]
              exact ⟨_, rfl, (HO7.out.base hs6), HB7.out⟩
            · have hno' : noOnes (left l p2) = false := by simpa using hno
              have HQ : Hid (false = noOnes (left l p2)) := hno'.symm
              have HFIN : Hid (R = ([], 2)) := by show _ = _; rw [HR5.out, if_neg hno]; rfl
              clear hno hno'
              go_wp2_with fail
              refine (rrest_all' w7 v6 _ HBT7.out HLP2.out false HQ.out).mono ?_
              rintro e w9 ⟨rfl, rfl⟩
              go_wp2_with fail
              go_ret2
              exact Gave.none HFIN.out HB7.out
          · have hkb : (k2 != 0) = true := by simp [hk0]
            have HN : Hid (R = ([], 2)) := by show _ = _; rw [HR5'.out, if_neg hk0]; rfl
            clear hk0
            go_wp2_with fail
            go_ret2
            exact Gave.none HN.out HB7.out

/-- Decode of any bytes. -/
theorem rdec_any (w : World) (v : Value) (l : List Nat) (h : SlAt w v l) (hl : l.length ≤ 1000000) (hby : ∀ x ∈ l, x < 256) (R : List Int × Int) (hR : R = decOut 2 l) :
    Calls Try.prog 8 #[v] w fun e w' => Gave w w' R e := by
  rw [decOut_of] at hR
  by_cases h8 : 8 ≤ (left l 0).length
  case neg =>
    obtain ⟨e1, e2⟩ := takeD_none (n := 8) h8
    rw [decD_short (.inl e1)] at hR
    subst hR
    exact rdec_short w v l h hl hby _ _ e2 rfl (.inl rfl)
  obtain ⟨K, hK, e1, e2⟩ := takeD_left (l := l) (p := 0) (n := 8) (by decide) h8
  by_cases h16 : 8 ≤ (left l (0 + 8)).length
  case neg =>
    obtain ⟨f1, f2⟩ := takeD_none (n := 8) h16
    rw [decD_short (.inr ⟨K, e1, f1⟩)] at hR
    subst hR
    exact rdec_short w v l h hl hby _ _ e2 rfl (.inr ⟨rfl, by rw [show getOut (left l (0 + 8)) 8 = (0, 0, false) from f2]⟩)
  obtain ⟨n, hn, f1, f2⟩ := takeD_left (l := l) (p := 0 + 8) (n := 8) (by decide) h16
  by_cases hg : badHead K n
  · rw [decD_badhead e1 f1 hg] at hR
    subst hR
    exact rdec_bad w v l h hl hby K n e2 f2 (by omega) (by omega) hg
  rw [decD_at e1 f1 hg] at hR
  unfold badHead at hg
  by_cases h0 : K = 0
  · have e : ordOf K n = 1 := by simp [ordOf, h0]
    rw [e] at hR
    exact rdec_const w v l h hl hby K n e2 f2 h0 (by omega) (by omega) R hR
  by_cases h1 : K = 1
  · have e : ordOf K n = n := by simp [ordOf, h1]
    rw [e] at hR
    exact rdec_verb w v l h hl hby K n e2 f2 h1 (by omega) (by omega) R hR
  by_cases h6 : K ≤ 6
  · have e : ordOf K n = K - 2 := by unfold ordOf; rw [if_neg h0, if_neg h1, if_pos h6]
    rw [e] at hR hg
    exact rdec_fixed w v l h hl hby K n e2 f2 (by omega) h6 (K - 2) rfl (by omega) (by omega) (by omega) R hR
  · have e : ordOf K n = K - 6 := by unfold ordOf; rw [if_neg h0, if_neg h1, if_neg h6]
    rw [e] at hR hg
    exact rdec_lpc w v l h hl hby K n e2 f2 (by omega) (by omega) (K - 6) rfl (by omega) (by omega) (by omega) R hR

end Go.Proofs.Ythkfaackkcdcoab

/- Two rows of numbers of one's own, apart from each other; appends to them. -/
namespace Go.Proofs.Ythkfaackkcdcoab
set_option linter.unusedVariables false
set_option linter.unusedSimpArgs false
open Go.RowKit Dg

structure F2 (W wr : World) (va vb : Value) (la lb : List Int) : Prop where
  a : OwnInts wr W.heap.size va la
  b : OwnInts wr W.heap.size vb lb
  ab : ∀ k, va.ownBlock = some k → vb.ownBlock ≠ some k
  bel : Below W.heap.size W wr
theorem F2.rot {W wr : World} {va vb : Value} {la lb : List Int} (h : F2 W wr va vb la lb) : F2 W wr vb va lb la := ⟨h.b, h.a, fun k hk e => h.ab k e hk, h.bel⟩
theorem F2.drew {W wr : World} {va vb : Value} {la lb : List Int} (h : F2 W wr va vb la lb) : F2 W wr.drew va vb la lb := ⟨World.ownsRow.drew h.a, World.ownsRow.drew h.b, h.ab, h.bel.drew⟩
theorem F2.alloc {W wr : World} {va vb : Value} {la lb : List Int} (h : F2 W wr va vb la lb) (o : Obj) : F2 W (wr.alloc o) va vb la lb := ⟨World.ownsRow.alloc h.a _, World.ownsRow.alloc h.b _, h.ab, h.bel.alloc h.bel.size _⟩
theorem F2.grow {W w w' : World} {va vb v' : Value} {la lb : List Int} {y : Int} (hf : F2 W w va vb la lb) (h1 : OwnInts w' W.heap.size v' (la ++ [y])) (h2 : Kept (fun k => va.ownBlock = some k) w w') (h3 : ∀ k, v'.ownBlock = some k → va.ownBlock = some k ∨ w.heap.size ≤ k) : F2 W w' v' vb (la ++ [y]) lb := by
  refine ⟨h1, ownsRow_other hf.b h2 (fun k hk e => hf.ab k e hk), fun k hk e => ?_, h2.below_of hf.bel (fun k hk => (World.ownsRow.lt hf.a k hk).1) hf.bel.size⟩
  rcases h3 k hk with h4 | h4
  · exact hf.ab k h4 e
  · have := (World.ownsRow.lt hf.b k e).2; omega
theorem wpList_append_f2 {P : Program} (W w0 : World) {ops : Array Oper} {rest : List Oper} {o : Oper} {a : Act} {Q : Exit → Act → World → Prop}
    (hgd : o.guard = none) (s x : Operand) (t : TypeId) (ho : o.op = .call { callee := .builtin .append, args := #[s, x], argTypes := #[t, t] })
    (i : TypeInfo) (ht : P.underlying t = some (.slice 3)) (hi : P.info? 3 = some i) (hz : i.zero = some (.int .i64 0)) (hsize : i.size = 1) (hby : i.bytes = 8)
    (va vb : Value) (la lb : List Int) (hs : a.eval s = va) (hf : F2 W w0 va vb la lb) (y : Int) (hx : a.eval x = .slice (some ⟨w0.heap.size, 0, none⟩) 1 1)
    (hl : la.length ≤ 1000000)
    (h : ∀ v' w', Hid (F2 W w' v' vb (la ++ [y]) lb) → wpList P ops Q rest (a.put o.dst v') w') : wpList P ops Q (o :: rest) a (w0.alloc (.cells #[.int .i64 y] 3)) := by
  refine wpList_append_int_mine w0 hgd s x t ho W.heap.size i ht hi hz hsize hby va la hs hf.a y hx hl hf.bel.size ?_
  intro v' w' h1 h2 h3
  exact h v' w' (hf.grow h1 h2 h3)
/-- 'append(z, n)' of one number that lies in a row of its own, as one step of a region that draws its order. -/
theorem step_append_f2 {P : Program} {ops : Array Oper} {o : Oper} {a : Act} (W w : World) {K : Act → World → Prop} {Q : Exit → Act → World → Prop} {E : Prop}
    (hgd : o.guard = none) (s x : Operand) (t : TypeId) (ho : o.op = .call { callee := .builtin .append, args := #[s, x], argTypes := #[t, t] })
    (i : TypeInfo) (ht : P.underlying t = some (.slice 3)) (hi : P.info? 3 = some i) (hz : i.zero = some (.int .i64 0)) (hsize : i.size = 1) (hby : i.bytes = 8)
    (va vb : Value) (la lb : List Int) (hs : a.eval s = va) (hf : F2 W w va vb la lb) (y : Int) (g : Nat) (hx : a.eval x = .slice (some ⟨g, 0, none⟩) 1 1) (hc : w.cell? ⟨g, 0, none⟩ = some (.int .i64 y))
    (hl : la.length ≤ 1000000)
    (hK : ∀ v' w', Hid (F2 W w' v' vb (la ++ [y]) lb) → Hid (Kept (fun k => va.ownBlock = some k) w w') → K (a.put o.dst v') w') :
    if Region.wanted o (yielded ops a.tmps) = true then Oper.wp P o a w K Q else E := by
  have hw : Region.wanted o (yielded ops a.tmps) = true := by simp [Region.wanted, hgd]
  rw [if_pos hw]
  obtain ⟨v', w', hrun, r1, r2, r3, r4⟩ := run_append_own_at (P := P) w W.heap.size t o.type 3 i (.int .i64 0) 1 8 ht hi hz hsize hby rfl (by decide) va la.length (i64s la) hf.a ⟨g, 0, none⟩ 1 1 [.int .i64 y] rfl
    (by intro j u hj; match j, hj with | 0, hj => simp at hj; subst hj; simpa [Addr.add] using hc) (by intro u hu; simp at hu; subst hu; rfl) (by unfold maxLen; omega) (by omega) hf.bel.size
  unfold Oper.wp
  simp [execOp, ho, resolve, invoke, builtin, hs, hx, hrun, Result.andThen]
  refine hK v' w' ?_ (Kept.grown r2)
  refine hf.grow ?_ (Kept.grown r2) ?_
  · show World.ownsRow _ _ _ _ _ _ _
    simpa [i64s] using r1
  · intro k hk
    rcases r4 with h | h
    · rw [h] at hk; exact .inl hk
    · rw [h] at hk; cases hk; exact .inr (Nat.le_refl _)

end Go.Proofs.Ythkfaackkcdcoab
