/- The texts FrmB, YDecodes, Tone, one behind the other. -/
import Derived.Test.YthkfaackkcdcoabGreatPart14
import Derived.Test.YthkfaackkcdcoabGreatPart02
import Derived.Test.YthkfaackkcdcoabGreatPart03
import Derived.Deep.CutRange

/- The document's own Decode: LPC, and any bytes. -/
namespace Go.Proofs.YthkfaackkcdcoabGreat
set_option linter.unusedVariables false
set_option linter.unusedSimpArgs false
open Go.RowKit Dg

set_option maxRecDepth 100000 in
set_option maxHeartbeats 8000000 in
theorem rdec_lpc (w : World) (v : Value) (l : List Nat) (h : SlAt w v l) (hl : l.length ≤ 1000000) (hby : ∀ x ∈ l, x < 256) (K n : Nat) (hg1 : getOut (left l 0) 8 = (K, 8, true)) (hg2 : getOut (left l (0 + 8)) 8 = (n, 8, true)) (hK7 : 6 < K) (hK18 : K ≤ 18) (o : Nat) (ho : o = K - 6) (hno : o < n) (hn1 : 1 ≤ n) (hn2 : n ≤ 64) (R : List Int × Int) (hR : R = outOf ((sampsT o (left l 16)).bind (finT K n))) :
    Calls Tryz.prog 17 #[v] w fun e w' => Gave w w' R e := by
  obtain ⟨i0, hi, hz0, hz1, hz2⟩ := info_parts Tryz.info3
  have HSL := hid_of h
  have HBY := hid_of hby
  clear h hby
  have HG1 := hid_of hg1
  have HG2 := hid_of hg2
  clear hg1 hg2
  obtain ⟨T, hT⟩ : ∃ T, T = sampsT o (left l 16) := ⟨_, rfl⟩
  have HT := hid_of hT
  have HR : Hid (R = outOf (T.bind (finT K n))) := by show _ = _; rw [hR, hT]
  clear hR hT
  have hb0 : (K == 0) = false := beq_eq_false_iff_ne.2 (by omega)
  have hb1 : (K == 1) = false := beq_eq_false_iff_ne.2 (by omega)
  have hoI : (K : Int) - 6 = (o : Int) := by omega
  have hK1 : 1 < K := by omega
  have ho12 : o ≤ 12 := by omega
  have HOO : Hid (ordOf K n = o) := by show _ = _; unfold ordOf; rw [if_neg (by omega), if_neg (by omega), if_neg (by omega)]; exact ho.symm
  obtain ⟨m, hm⟩ : ∃ m, m = n - o := ⟨_, rfl⟩
  have hmI : (n : Int) - (o : Int) = (m : Int) := by omega
  have hm64 : m ≤ 64 := by omega
  have hon : o ≤ n := by omega
  have HME := hid_of hm
  clear ho hm
  go_enter Tryz.func17, Tryz.ntmps17
  go_wp2_with fail
  refine (of_any w v l HSL.out hl HBY.out).mono ?_
  rintro e w1 ⟨v1, rfl, h1, hb1⟩
  have HBT1 : Hid (BtAt w1 v1 (left l 0)) := by show BtAt _ _ _; rw [left_zero]; exact BtAt.of_owns h1
  have HB1 := hid_of hb1
  clear h1 hb1
  go_wp2_with fail
  refine (rget_all' w1 v1 l 0 8 HBT1.out _ HG1.out).mono ?_
  rintro e w2 ⟨v2, rfl, hb2, -, m2, rfl⟩
  have HBT2 := hid_of hb2
  clear hb2 HBT1
  go_wp2_with fail
  refine (rget_all' (w1.drewN m2) v2 l _ 8 HBT2.out _ HG2.out).mono ?_
  rintro e w3 ⟨v3, rfl, hb3, -, m3, rfl⟩
  have HBT3 : Hid (BtAt (w1.drewN (m2 + m3)) v3 (left l (0 + 8 + 8))) := hb3
  have HB3 : Hid (Below w.heap.size w (w1.drewN (m2 + m3))) := below_drewN HB1.out (m2 + m3)
  clear hb3 HBT2 HB1
  go_wp2_with fail
  generalize w1.drewN (m2 + m3) = w4 at *
  have hs4 : w.heap.size ≤ w4.heap.size := HB3.out.size
  refine (rsamples_any w4 v3 l 16 o HBT3.out (by omega) T HT.out).mono ?_
  intro e w5 hg
  cases hTT : T with
  | none =>
    rw [hTT] at hg
    have HN : Hid (R = ([], 2)) := by show _ = _; rw [HR.out, hTT]; rfl
    obtain ⟨x5, v5, rfl, hb5⟩ := hg
    have HB5 : Hid (Below w.heap.size w w5) := HB3.out.trans (hb5.mono hs4)
    clear hb5 hTT
    go_wp2_with fail
    go_ret2
    exact Gave.none HN.out HB5.out
  | some q =>
    obtain ⟨xs, r⟩ := q
    rw [hTT] at hg
    obtain ⟨x5, v5, p, rfl, ho5, hbt5, hr, hv5, hb5⟩ := hg
    simp only at ho5 hr
    have HXL : Hid (xs.length = o) := sampsT_len _ _ _ (HT.out.symm.trans hTT)
    have HR2 : Hid (R = outOf (finT K n (xs, left l p))) := by show _ = _; rw [HR.out, hTT, hr]; rfl
    have HB5 : Hid (Below w.heap.size w w5) := HB3.out.trans (hb5.mono hs4)
    have hs5 : w.heap.size ≤ w5.heap.size := HB5.out.size
    have HBT5 := hid_of hbt5
    have HO5 := hid_of ho5
    have HV5 : Hid (∀ k, v5.ownBlock = some k → k < w4.heap.size) := fun k hk => HBT3.out.lt k (hv5 k hk)
    have HLP := hid_of (left_short l p hl)
    clear ho5 hbt5 hr hv5 hb5 hTT
    obtain ⟨xa, xc, rfl, hxn, -, -⟩ := HO5.out.ns
    have HXN := hid_of hxn
    clear hxn
    obtain ⟨TC, hTC⟩ : ∃ TC, TC = coefsT o (left l p) := ⟨_, rfl⟩
    have HTC : Hid (TC = (coefsT (o - 0) (left l p)).map fun q => ([] ++ q.1, q.2)) := by show _ = _; rw [hTC, Nat.sub_zero]; cases coefsT o (left l p) <;> rfl
    have HR3 : Hid (R = outOf ((TC.bind fun c => (resT m c.2).bind fun q => if (lrestOut xs q.1 c.1).2 = 0 then some ((lrestOut xs q.1 c.1).1, q.2) else none).bind fun y => if noOnes y.2 = true then some y.1 else none)) := by
      show _ = _
      rw [HR2.out, finT, bodyT, if_neg (by omega), if_neg (by omega), if_neg (by omega), HOO.out, ← HME.out, hTC]
    have HLT5 := hid_of HBT5.out.lt
    clear hTC
    go_wp2_with fail
    go_loopw [4, 11, 12] (fun b c i ws => ∃ (k p : Nat) (out : List Int), k ≤ o ∧ i = .int .i64 (k : Int) ∧ out.length ≤ 1000000 ∧ Hid (out.length = k) ∧ Hid (TC = (coefsT (o - k) (left l p)).map fun q => (out ++ q.1, q.2)) ∧ Hid (OwnInts ws w5.heap.size c out) ∧ Hid (BtAt ws b (left l p)) ∧ Hid (∀ k, b.ownBlock = some k → v5.ownBlock = some k) ∧ Hid (Below w5.heap.size w5 ws)) (fun _ _ i _ => o - (intOf i).toNat)
    case atStart => exact ⟨0, p, [], Nat.zero_le _, rfl, by decide, rfl, HTC.out, OwnInts.nil _ _, HBT5.out, fun _ h => h, Below.refl _ _⟩
    case round =>
      obtain ⟨k, p1, out, hk, rfl, hol, HOL, ht, hoo, hbt, hvv, hb⟩ := hrel
      have hsz : w5.heap.size ≤ wr.heap.size := hb.out.size
      have HBW : Hid (Below w.heap.size w wr) := HB5.out.trans (hb.out.mono hs5)
      have hsw : w.heap.size ≤ wr.heap.size := HBW.out.size
      by_cases hkn : k < o
      · have ek : o - k = (o - (k + 1)) + 1 := by omega
        by_cases hlen : 16 ≤ (left l p1).length
        · obtain ⟨z, hz16, e1, e2⟩ := takeD_left (l := l) (p := p1) (n := 16) (by decide) hlen
          have hzb : z < 65536 := by omega
          have HG : Hid (getOut (left l p1) 16 = (z, 16, true)) := e2
          obtain ⟨y, hy⟩ : ∃ y, (z : Int) - 32768 = y := ⟨_, rfl⟩
          have HNX : Hid (TC = (coefsT (o - (k + 1)) (left l (p1 + 16))).map fun q => ((out ++ [y]) ++ q.1, q.2)) := by
            show _ = _
            rw [ht.out, ek, coefsT, e1, ← hy]
            simp only [Option.bind_some]
            cases coefsT (o - (k + 1)) (left l (p1 + 16)) <;> simp
          clear e1 e2 hz16 hlen
          go_wp2_with first
            | (go_at_call 34; refine (rget_all' wr _ l p1 16 hbt.out _ HG.out).mono ?_; rintro e w6 ⟨v6, rfl, hb6, hv6, m6, rfl⟩; have HB6 := hid_of hb6; have HV6 := hid_of hv6; clear hb6 hv6)
            | (at_builtin; go_must (refine wpList_append_int (wr.drewN m6) rfl (.tmp 116) (.tmp 119) 22 rfl w5.heap.size i0 Tryz.underlying22 hi hz0 hz1 hz2 u11 out (by rfl) (hoo.out.drewN m6) y (by rfl) hol hsz ?_))
          intro v' w' g1 g2
          have HBB : Hid (Below w5.heap.size w5 w') := (below_drewN hb.out m6).trans g2.out
          have HBT' : Hid (BtAt w' v6 (left l (p1 + 16))) := HB6.out.under g2.out (fun k hk => HLT5.out k (hvv.out k (HV6.out k hk)))
          have HVV' : Hid (∀ k, v6.ownBlock = some k → v5.ownBlock = some k) := fun k hk => hvv.out k (HV6.out k hk)
          have HOL' : Hid ((out ++ [y]).length = k + 1) := by show _ = _; rw [List.length_append, HOL.out]; rfl
          have hol' : (out ++ [y]).length ≤ 1000000 := by rw [HOL'.out]; omega
          clear g2
          go_wp2_with fail
          exact ⟨⟨k + 1, p1 + 16, out ++ [y], by omega, by go_num, hol', HOL', HNX, g1, HBT', HVV', HBB⟩, by (simp [intOf]) <;> omega⟩
        · obtain ⟨e1, e2⟩ := takeD_none (n := 16) hlen
          have HG : Hid (getOut (left l p1) 16 = (0, 0, false)) := e2
          have HN : Hid (R = ([], 2)) := by
            have h1 : TC = none := by
              rw [ht.out, ek, coefsT, e1]
              rfl
            show _ = _
            rw [HR3.out, h1]
            rfl
          clear e1 e2 hlen
          go_wp2_with (go_at_call 34; refine (rget_all' wr _ l p1 16 hbt.out _ HG.out).mono ?_; rintro e w6 ⟨v6, rfl, hb6, hv6, m6, rfl⟩; clear hb6 hv6)
          go_ret2
          exact Gave.none HN.out (below_drewN HBW.out m6)
      · have e : k = o := by omega
        have HTS : Hid (TC = some (out, left l p1)) := by
          show _ = _
          rw [ht.out, e, Nat.sub_self]
          simp [coefsT]
        obtain ⟨ca, cc, hu11, hcn, -, -⟩ := hoo.out.ns
        subst hu11
        have HCN := hid_of hcn.at_
        obtain ⟨T2, hT2⟩ : ∃ T2, T2 = resT m (left l p1) := ⟨_, rfl⟩
        have HT2 := hid_of hT2
        have HR4 : Hid (R = outOf ((T2.bind fun q => if (lrestOut xs q.1 out).2 = 0 then some ((lrestOut xs q.1 out).1, q.2) else none).bind fun y => if noOnes y.2 = true then some y.1 else none)) := by
          show _ = _
          rw [HR3.out, HTS.out, hT2]
          rfl
        have HXW : Hid (Ns wr xa xc xs) := HXN.out.mono hb.out
        have hout : out.length ≤ 12 := by rw [HOL.out]; omega
        subst e
        clear hT2 hcn hoo ht hk hkn
        go_wp2_with fail
        refine (rtakeres_any wr _ l p1 m hbt.out (by omega) T2 HT2.out).mono ?_
        intro e w6 hg
        cases hTT : T2 with
        | none =>
          rw [hTT] at hg
          have HN : Hid (R = ([], 2)) := by show _ = _; rw [HR4.out, hTT]; rfl
          obtain ⟨x6, v6, rfl, hb6⟩ := hg
          have HB6 : Hid (Below w.heap.size w w6) := HBW.out.trans (hb6.mono hsw)
          clear hb6 hTT
          go_wp2_with fail
          go_ret2
          exact Gave.none HN.out HB6.out
        | some q =>
          obtain ⟨zs, r2⟩ := q
          rw [hTT] at hg
          obtain ⟨x6, v6, p2, rfl, ho6, hbt6, hr2, -, hb6⟩ := hg
          simp only at ho6 hr2
          obtain ⟨hi6, hl6⟩ := resT_i64 (HT2.out.symm.trans hTT)
          simp only at hi6 hl6
          obtain ⟨za, zc, rfl, hzn, -, -⟩ := ho6.ns
          have HZN := hid_of hzn.at_
          have HI6 := hid_of hi6
          have hl64 : zs.length ≤ 64 := by omega
          have HXN6 : Hid (Ns w6 xa xc xs) := HXW.out.mono hb6
          have HCN6 : Hid (IntsAt w6 ca out) := HCN.out.mono hb6
          have HB6 : Hid (Below w.heap.size w w6) := HBW.out.trans (hb6.mono hsw)
          have hs6 : w.heap.size ≤ w6.heap.size := HB6.out.size
          have HBT6 := hid_of hbt6
          have hxl12 : xs.length ≤ 12 := by rw [HXL.out]; exact ho12
          obtain ⟨⟨Y, k2⟩, hRY⟩ : ∃ RY, RY = lrestOut xs zs out := ⟨_, rfl⟩
          have HRY := hid_of hRY
          have HR5' : Hid (R = outOf ((if k2 = 0 then some (Y, left l p2) else none).bind fun y => if noOnes y.2 = true then some y.1 else none)) := by
            show _ = _
            rw [HR4.out, hTT, hr2]
            simp only [Option.bind_some]
            rw [← hRY]
          have HLP2 := hid_of (left_short l p2 hl)
          clear ho6 hbt6 hr2 hb6 hTT hi6 hl6 hzn hRY
          go_wp2_with fail
          refine (rlrest_any w6 xa za ca xc zc cc xs zs out HXN6.out HZN.out HCN6.out (by omega) (by omega) (by omega) HI6.out _ HRY.out).mono ?_
          rintro e w7 hg
          obtain ⟨a7, c7, rfl, ho7, -, hb7⟩ := hg.ok
          have HO7 := hid_of ho7
          have HB7 : Hid (Below w.heap.size w w7) := HB6.out.trans (hb7.mono hs6)
          have HBT7 : Hid (BtAt w7 v6 (left l p2)) := HBT6.out.below hb7
          clear hg ho7 hb7
          by_cases hk0 : k2 = 0
          · have hkb : (k2 != 0) = false := by simp [hk0]
            have HR5 : Hid (R = outOf (if noOnes (left l p2) = true then some Y else none)) := by show _ = _; rw [HR5'.out, if_pos hk0]; rfl
            clear hk0
            by_cases hno : noOnes (left l p2) = true
            · have HQ : Hid (true = noOnes (left l p2)) := hno.symm
              have HFIN : Hid (R = (Y, 0)) := by show _ = _; rw [HR5.out, if_pos hno]; rfl
              clear hno
              go_wp2_with fail
              refine (rrest_all' w7 v6 _ HBT7.out HLP2.out true HQ.out).mono ?_
              rintro e w9 ⟨rfl, rfl⟩
              go_wp2_with fail
              go_ret2
              rw [HFIN.out]
              exact ⟨_, rfl, (HO7.out.base hs6), HB7.out⟩
            · have hno' : noOnes (left l p2) = false := by simpa using hno
              have HQ : Hid (false = noOnes (left l p2)) := hno'.symm
              have HFIN : Hid (R = ([], 2)) := by show _ = _; rw [HR5.out, if_neg hno]; rfl
              clear hno hno'
              go_wp2_with fail
              refine (rrest_all' w7 v6 _ HBT7.out HLP2.out false HQ.out).mono ?_
              rintro e w9 ⟨rfl, rfl⟩
              go_wp2_with fail
              go_ret2
              exact Gave.none HFIN.out HB7.out
          · have hkb : (k2 != 0) = true := by simp [hk0]
            have HN : Hid (R = ([], 2)) := by show _ = _; rw [HR5'.out, if_neg hk0]; rfl
            clear hk0
            go_wp2_with fail
            go_ret2
            exact Gave.none HN.out HB7.out

/-- Decode of any bytes. -/
theorem rdec_any (w : World) (v : Value) (l : List Nat) (h : SlAt w v l) (hl : l.length ≤ 1000000) (hby : ∀ x ∈ l, x < 256) (R : List Int × Int) (hR : R = decOut 2 l) :
    Calls Tryz.prog 17 #[v] w fun e w' => Gave w w' R e := by
  rw [decOut_of] at hR
  by_cases h8 : 8 ≤ (left l 0).length
  case neg =>
    obtain ⟨e1, e2⟩ := takeD_none (n := 8) h8
    rw [decD_short (.inl e1)] at hR
    subst hR
    exact rdec_short w v l h hl hby _ _ e2 rfl (.inl rfl)
  obtain ⟨K, hK, e1, e2⟩ := takeD_left (l := l) (p := 0) (n := 8) (by decide) h8
  by_cases h16 : 8 ≤ (left l (0 + 8)).length
  case neg =>
    obtain ⟨f1, f2⟩ := takeD_none (n := 8) h16
    rw [decD_short (.inr ⟨K, e1, f1⟩)] at hR
    subst hR
    exact rdec_short w v l h hl hby _ _ e2 rfl (.inr ⟨rfl, by rw [show getOut (left l (0 + 8)) 8 = (0, 0, false) from f2]⟩)
  obtain ⟨n, hn, f1, f2⟩ := takeD_left (l := l) (p := 0 + 8) (n := 8) (by decide) h16
  by_cases hg : badHead K n
  · rw [decD_badhead e1 f1 hg] at hR
    subst hR
    exact rdec_bad w v l h hl hby K n e2 f2 (by omega) (by omega) hg
  rw [decD_at e1 f1 hg] at hR
  unfold badHead at hg
  by_cases h0 : K = 0
  · have e : ordOf K n = 1 := by simp [ordOf, h0]
    rw [e] at hR
    exact rdec_const w v l h hl hby K n e2 f2 h0 (by omega) (by omega) R hR
  by_cases h1 : K = 1
  · have e : ordOf K n = n := by simp [ordOf, h1]
    rw [e] at hR
    exact rdec_verb w v l h hl hby K n e2 f2 h1 (by omega) (by omega) R hR
  by_cases h6 : K ≤ 6
  · have e : ordOf K n = K - 2 := by unfold ordOf; rw [if_neg h0, if_neg h1, if_pos h6]
    rw [e] at hR hg
    exact rdec_fixed w v l h hl hby K n e2 f2 (by omega) h6 (K - 2) rfl (by omega) (by omega) (by omega) R hR
  · have e : ordOf K n = K - 6 := by unfold ordOf; rw [if_neg h0, if_neg h1, if_neg h6]
    rw [e] at hR hg
    exact rdec_lpc w v l h hl hby K n e2 f2 (by omega) (by omega) (K - 6) rfl (by omega) (by omega) (by omega) R hR

end Go.Proofs.YthkfaackkcdcoabGreat

/- FrameDecodes: the walk of the law. -/
namespace Go.Proofs.YthkfaackkcdcoabGreat
set_option linter.unusedVariables false
set_option linter.unusedSimpArgs false
open Go.RowKit Dg

theorem rest_len64 {x l : List Int} (h : (restOut x l).2 = 0) : (restOut x l).1.length ≤ 64 := by
  unfold restOut at h ⊢
  split at h
  · cases h
  · rename_i h1
    rw [if_neg h1]
    split at h
    · rename_i h2
      rw [if_pos h2]
      split at h
      · cases h
      · rename_i y hy
        split at h
        · cases h
        · rename_i h3
          rw [if_neg h3]
          show y.length ≤ 64
          omega
    · cases h
theorem lrest_len64 {x l c : List Int} (h : (lrestOut x l c).2 = 0) : (lrestOut x l c).1.length ≤ 64 := by
  unfold lrestOut at h ⊢
  split at h
  · cases h
  · rename_i h1
    rw [if_neg h1]
    split at h
    · rename_i h2
      rw [if_pos h2]
      split at h
      · cases h
      · rename_i y hy
        split at h
        · cases h
        · rename_i h3
          rw [if_neg h3]
          show y.length ≤ 64
          omega
    · cases h
theorem decD_len {ds : List Bool} {y : List Int} (h : decD ds = some y) : y.length ≤ 64 := by
  unfold decD at h
  obtain ⟨r1, -, h⟩ := Option.bind_eq_some_iff.1 h
  obtain ⟨r2, -, h⟩ := Option.bind_eq_some_iff.1 h
  split at h
  · cases h
  rename_i hg
  obtain ⟨q, hq, h⟩ := Option.bind_eq_some_iff.1 h
  obtain ⟨b, hb, h⟩ := Option.bind_eq_some_iff.1 h
  split at h
  case isFalse => cases h
  cases h
  have hql := sampsT_len _ _ _ hq
  unfold bodyT at hb
  by_cases h0 : r1.1 = 0
  · rw [if_pos h0] at hb; cases hb; simp; omega
  rw [if_neg h0] at hb
  by_cases h1 : r1.1 = 1
  · rw [if_pos h1] at hb; cases hb; rw [hql]; omega
  rw [if_neg h1] at hb
  by_cases h6 : r1.1 ≤ 6
  · rw [if_pos h6] at hb
    obtain ⟨r, -, g2⟩ := Option.bind_eq_some_iff.1 hb
    split at g2
    · rename_i hz; cases g2; exact rest_len64 hz
    · cases g2
  · rw [if_neg h6] at hb
    obtain ⟨c, -, g⟩ := Option.bind_eq_some_iff.1 hb
    obtain ⟨r, -, g2⟩ := Option.bind_eq_some_iff.1 g
    split at g2
    · rename_i hz; cases g2; exact lrest_len64 hz
    · cases g2
theorem SlAt.cutk {w : World} {a : Option Addr} {n cap : Nat} {l : List Nat} (h : SlAt w (.slice a n cap) l) (k : Nat) (m : Nat) (hm : m = (l.take k).length) : SlAt w (.slice a m cap) (l.take k) := by
  subst hm
  obtain ⟨a', c', e, hc⟩ := h
  cases e
  refine ⟨a, cap, rfl, fun j x hx => hc j x ?_⟩
  rw [List.getElem?_take] at hx
  split at hx
  · exact hx
  · cases hx
set_option maxRecDepth 100000 in
set_option maxHeartbeats 4000000 in
theorem ydec_at (W : World) (a : Option Addr) (len cap : Nat) (l0 : List Nat) (hsl : SlAt W (.slice a len cap) l0) (hll : l0.length = len) (hby : ∀ x ∈ l0, x < 256) (hle : len ≤ cap) (hm : cap ≤ maxLen) (h0 : a = none → len = 0 ∧ cap = 0) :
    Calls Tryz.prog 9 #[.slice a len cap] W fun e W' => e = .returned (.bool true) ∧ Below W.heap.size W W' := by
  obtain ⟨l, hl⟩ : ∃ l, l = l0.take 260 := ⟨_, rfl⟩
  have HLL : Hid (min len 260 = l.length) := by show _ = _; rw [hl, ← hll]; simp; omega
  have hl260 : l.length ≤ 260 := by rw [hl]; simp; omega
  have HSL : Hid (SlAt W (.slice a l.length cap) l) := by rw [hl]; exact hsl.cutk 260 _ rfl
  have HBY : Hid (∀ x ∈ l, x < 256) := by rw [hl]; exact fun x hx => hby x (List.mem_of_mem_take hx)
  have HC : Hid (len ≤ cap ∧ cap ≤ maxLen ∧ (a = none → len = 0 ∧ cap = 0)) := ⟨hle, hm, h0⟩
  obtain ⟨⟨x, k⟩, hR⟩ : ∃ R, R = decOut 2 l := ⟨_, rfl⟩
  have HR := hid_of hR
  have hcase : (k = 2 ∧ kindOut l = -1) ∨ (k = 0 ∧ x.length ≤ 64 ∧ ∃ b : Nat, l[0]? = some b ∧ kindOut l = (b : Int)) := by
    unfold decOut at hR
    cases hd : decD (unpack l) with
    | none => rw [hd] at hR; cases hR; exact .inl ⟨rfl, by unfold kindOut; rw [hd]⟩
    | some y =>
      rw [hd] at hR
      cases hR
      exact .inr ⟨rfl, decD_len hd, kind_first hd⟩
  have hx64 : x.length ≤ 64 := by
    rcases hcase with ⟨h1, h2⟩ | ⟨-, h2, -⟩
    · unfold decOut at hR
      cases hd : decD (unpack l) with
      | none => rw [hd] at hR; cases hR; simp
      | some y => rw [hd] at hR; cases hR; simp at h1
    · exact h2
  clear hsl hll hby hle hm h0 hl hR
  rcases hcase with ⟨rfl, hk⟩ | ⟨rfl, -, b, hb, hk⟩
  · have HK : Hid ((-1 : Int) = kindOut l) := hk.symm
    clear hk
    go_enter Tryz.func9, Tryz.ntmps9
    go_wp2_with fail
    refine (cut_any W a len cap 260 (by decide) HC.out.1 HC.out.2.1 HC.out.2.2).mono ?_
    rw [HLL.out]
    rintro e w0 ⟨rfl, rfl⟩
    clear HC HLL
    go_wp2_with fail
    refine (fdec_any W _ l HSL.out (by omega) HBY.out _ HR.out).mono ?_
    rintro e w2 hg
    obtain ⟨a2, c2, rfl, -, hn2, hb2⟩ := hg.ok
    have HB2 := hid_of hb2
    have HN2 := hid_of hn2.at_
    have HS2 := hid_of (HSL.out.below hb2)
    clear hg hb2 hn2
    go_wp2_with fail
    refine (rdec_any w2 _ l HS2.out (by omega) HBY.out _ HR.out).mono ?_
    rintro e w3 hg
    obtain ⟨a3, c3, rfl, -, hn3, hb3⟩ := hg.ok
    have HB3 : Hid (Below W.heap.size W w3) := HB2.out.trans (hb3.mono HB2.out.size)
    have HN3 := hid_of (HN2.out.mono hb3)
    have HM3 := hid_of hn3.at_
    have HS3 := hid_of (HS2.out.below hb3)
    clear hg hb3 hn3 HB2 HN2 HS2
    go_wp2_with fail
    refine (sameInt_any w3 a2 a3 c2 c3 x HN3.out HM3.out (by omega)).mono ?_
    rintro e w4 ⟨rfl, n4, rfl⟩
    go_wp2_with fail
    refine (fkind_any (w3.drewN n4) _ l HS3.out (by omega) HBY.out _ HK.out).mono ?_
    rintro e w5 ⟨rfl, hb5⟩
    have HB5 : Hid (Below W.heap.size W w5) := (below_drewN HB3.out n4).trans (hb5.mono HB3.out.size)
    have hs5 : W.heap.size ≤ w5.heap.size := HB5.out.size
    clear hb5
    go_wp2_with fail
    refine (wakes8_any _).mono ?_
    rintro e w6 ⟨rfl, hb6⟩
    have HB6 : Hid (Below W.heap.size W w6) := HB5.out.trans (hb6.mono hs5)
    clear hb6
    go_wp2
    go_ret
    exact ⟨rfl, HB6.out⟩
  · have HK : Hid ((b : Int) = kindOut l) := hk.symm
    have hlp : 0 < l.length := (List.getElem?_eq_some_iff.1 hb).1
    have hb256 := HBY.out b (List.mem_of_getElem? hb)
    obtain ⟨a', c', e', hcell⟩ := HSL.out
    cases e'
    obtain ⟨bb, off, rfl, hc⟩ := hcell 0 b hb
    rw [Nat.add_zero] at hc
    clear hk hb hcell
    go_enter Tryz.func9, Tryz.ntmps9
    go_wp2_with fail
    refine (cut_any W _ len cap 260 (by decide) HC.out.1 HC.out.2.1 HC.out.2.2).mono ?_
    rw [HLL.out]
    rintro e w0 ⟨rfl, rfl⟩
    clear HC HLL
    go_wp2_with fail
    refine (fdec_any W _ l HSL.out (by omega) HBY.out _ HR.out).mono ?_
    rintro e w2 hg
    obtain ⟨a2, c2, rfl, -, hn2, hb2⟩ := hg.ok
    have HB2 := hid_of hb2
    have HN2 := hid_of hn2.at_
    have HS2 := hid_of (HSL.out.below hb2)
    clear hg hb2 hn2
    go_wp2_with fail
    refine (rdec_any w2 _ l HS2.out (by omega) HBY.out _ HR.out).mono ?_
    rintro e w3 hg
    obtain ⟨a3, c3, rfl, -, hn3, hb3⟩ := hg.ok
    have HB3 : Hid (Below W.heap.size W w3) := HB2.out.trans (hb3.mono HB2.out.size)
    have HN3 := hid_of (HN2.out.mono hb3)
    have HM3 := hid_of hn3.at_
    have HS3 := hid_of (HS2.out.below hb3)
    clear hg hb3 hn3 HB2 HN2 HS2
    have hc3 : w3.cell? ⟨bb, off, none⟩ = some (.int .u8 (b : Int)) := (HB3.out.cell (p := ⟨bb, off, none⟩) (World.block_lt_of_cell? W _ hc)).trans hc
    go_wp2_with fail
    refine (sameInt_any w3 a2 a3 c2 c3 x HN3.out HM3.out (by omega)).mono ?_
    rintro e w4 ⟨rfl, n4, rfl⟩
    go_wp2_with fail
    refine (fkind_any (w3.drewN n4) _ l HS3.out (by omega) HBY.out _ HK.out).mono ?_
    rintro e w5 ⟨rfl, hb5⟩
    have HB5 : Hid (Below W.heap.size W w5) := (below_drewN HB3.out n4).trans (hb5.mono HB3.out.size)
    have hs5 : W.heap.size ≤ w5.heap.size := HB5.out.size
    clear hb5
    go_wp2_with fail
    refine (wakes8_any _).mono ?_
    rintro e w6 ⟨rfl, hb6⟩
    have HB6 : Hid (Below W.heap.size W w6) := HB5.out.trans (hb6.mono hs5)
    clear hb6
    go_wp2
    go_ret
    exact ⟨rfl, HB6.out⟩

theorem ydecodes_any (W : World) (a : Option Addr) (len cap : Nat) (z : List Int) (hr : IsRow .u8 W a len cap z) :
    Calls Tryz.prog 9 #[.slice a len cap] W fun e W' => e = .returned (.bool true) ∧ Below W.heap.size W W' := by
  obtain ⟨l, h1, h2, h3⟩ := hr.bytes
  have hSL : SlAt W (.slice a len cap) l := by
    have := h3 len (Nat.le_refl _)
    rw [List.take_of_length_le (by omega)] at this
    exact this
  rcases hr with ⟨rfl, rfl, rfl, rfl⟩ | ⟨x, rfl, hle, hm, -, -, -⟩
  · exact ydec_at W none 0 0 l hSL h1 h2 (Nat.le_refl _) (by decide) (fun _ => ⟨rfl, rfl⟩)
  · exact ydec_at W _ len cap l hSL h1 h2 hle hm (fun e => by cases e)

end Go.Proofs.YthkfaackkcdcoabGreat

/- Samples that go on: law08's Tone. -/
namespace Go.Proofs.YthkfaackkcdcoabGreat
set_option linter.unusedVariables false
set_option linter.unusedSimpArgs false
open Go.RowKit Dg

theorem within_quiet8 (v n : Int) (w : World) (k : Nat) (hv1 : -9223372036854775808 ≤ v) (hv2 : v ≤ 9223372036854775807) (hn1 : 1 ≤ n) (hn2 : n ≤ 4611686018427387904) :
    Calls Tryz.prog 5 #[.int .i64 v, .int .i64 n] (w.drewN k) fun e w'' => e = .returned (.int .i64 (v % n)) ∧ ∃ m, w'' = w.drewN m :=
  (within_any v n (w.drewN k) hv1 hv2 hn1 hn2).mono fun e w'' ⟨h1, h2⟩ => ⟨h1, k, h2.symm⟩
theorem prod_in {b i B I : Int} (h1 : -B ≤ b) (h2 : b ≤ B) (h3 : 0 ≤ i) (h4 : i ≤ I) (hB : 0 ≤ B) : -(B * I) ≤ b * i ∧ b * i ≤ B * I := by
  have a1 : 0 ≤ (b + B) * i := Int.mul_nonneg (by omega) h3
  have a2 : 0 ≤ (B - b) * i := Int.mul_nonneg (by omega) h3
  have a3 : 0 ≤ B * (I - i) := Int.mul_nonneg hB (by omega)
  constructor <;> grind

set_option maxRecDepth 100000 in
set_option maxHeartbeats 8000000 in
theorem tone_any (w : World) (a : Option Addr) (cap : Nat) (l : List Int) (n kind noise : Int) (N : Nat) (h : IntsAt w a l) (hl : l.length ≤ maxLen) (hI : ∀ x ∈ l, I64 x) (hn : I64 n) (hk : I64 kind) (hno : I64 noise) (hN : n % 65 = (N : Int)) :
    Calls Tryz.prog 4 #[.slice a l.length cap, .int .i64 n, .int .i64 kind, .int .i64 noise] w fun e w' => ∃ v xs, e = .returned v ∧ OwnInts w' w.heap.size v xs ∧ xs.length = N ∧ (∀ x ∈ xs, -300000 ≤ x ∧ x ≤ 300000) ∧ Below w.heap.size w w' := by
  obtain ⟨i0, hi, hz0, hz1, hz2⟩ := info_parts Tryz.info3
  unfold maxLen at hl
  have H := hid_of h
  have HI := hid_of hI
  have HN := hid_of hN
  obtain ⟨hn1, hn2⟩ := hn
  obtain ⟨hk1, hk2⟩ := hk
  obtain ⟨ho1, ho2⟩ := hno
  have hN64 : N ≤ 64 := by omega
  obtain ⟨z, hz⟩ : ∃ z, noise % 4000 = z := ⟨_, rfl⟩
  have HZ := hid_of hz
  have hzb1 : 0 ≤ z := by omega
  have hzb2 : z < 4000 := by omega
  obtain ⟨q, hq⟩ : ∃ q, kind % 4 = q := ⟨_, rfl⟩
  have HQ := hid_of hq
  have hq4 : q = 0 ∨ q = 1 ∨ q = 2 ∨ q = 3 := by omega
  clear h hI hN hz hq
  go_enter Tryz.func4, Tryz.ntmps4
  go_wp2_with fail
  refine (within_any n 65 w hn1 hn2 (by decide) (by decide)).mono ?_
  rw [HN.out]
  rintro e w1 ⟨rfl, rfl⟩
  go_wp2_with fail
  refine (within_any noise 4000 w ho1 ho2 (by decide) (by decide)).mono ?_
  rw [HZ.out]
  rintro e w1 ⟨rfl, rfl⟩
  go_upto_if 21 with fail
  go_cut [9, 10, 11] from 22 to 36 (fun va vb vc wx => ∃ (A B C : Int) (d : Nat), va = .int .i64 A ∧ vb = .int .i64 B ∧ vc = .int .i64 C ∧ -50000 ≤ A ∧ A ≤ 50000 ∧ -1000 ≤ B ∧ B ≤ 1000 ∧ -20 ≤ C ∧ C ≤ 20 ∧ wx = w.drewN d)
  case first =>
    by_cases hlen : 2 < l.length
    · obtain ⟨x0, h0⟩ : ∃ x, l[0]? = some x := ⟨l[0]'(by omega), by simp⟩
      obtain ⟨x1, h1⟩ : ∃ x, l[1]? = some x := ⟨l[1]'(by omega), by simp⟩
      obtain ⟨x2, h2⟩ : ∃ x, l[2]? = some x := ⟨l[2]'(by omega), by simp⟩
      obtain ⟨b, off, rfl, hc0⟩ := H.out 0 x0 h0
      have hc1 : w.cell? ⟨b, off + 1, none⟩ = some (.int .i64 x1) := by
        obtain ⟨b2, o2, e2, hc2⟩ := H.out 1 x1 h1
        cases e2
        exact hc2
      have hc2 : w.cell? ⟨b, off + 2, none⟩ = some (.int .i64 x2) := by
        obtain ⟨b2, o2, e2, hc2⟩ := H.out 2 x2 h2
        cases e2
        exact hc2
      rw [Nat.add_zero] at hc0
      obtain ⟨g01, g02⟩ := HI.out x0 (List.mem_of_getElem? h0)
      obtain ⟨g11, g12⟩ := HI.out x1 (List.mem_of_getElem? h1)
      obtain ⟨g21, g22⟩ := HI.out x2 (List.mem_of_getElem? h2)
      clear h0 h1 h2
      go_wp2_with fail
      go_quiet ((go_at_call 5; refine within_quiet8 _ _ _ _ (by omega) (by omega) (by decide) (by decide)))
      go_wp2_with fail
      go_meet
      exact ⟨x0 % 100000 - 50000, x1 % 2000 - 1000, x2 % 40 - 20, _, rfl, rfl, rfl, by omega, by omega, by omega, by omega, by omega, by omega, rfl⟩
    · go_wp2_with fail
      go_meet
      exact ⟨0, 0, 0, 0, rfl, rfl, rfl, by decide, by decide, by decide, by decide, by decide, by decide, rfl⟩
  case rest =>
    obtain ⟨A, B, C, d, rfl, rfl, rfl, hA1, hA2, hB1, hB2, hC1, hC2, rfl⟩ := hcut
    go_wp2_with fail
    go_loopw [12, 13] (fun v i wr => ∃ (j : Nat) (xs : List Int), j ≤ N ∧ i = .int .i64 (j : Int) ∧ xs.length ≤ 1000000 ∧ Hid (xs.length = j) ∧ Hid (∀ x ∈ xs, -300000 ≤ x ∧ x ≤ 300000) ∧ Hid (OwnInts wr w.heap.size v xs) ∧ Hid (Below w.heap.size w wr)) (fun _ i _ => N - (intOf i).toNat)
    case atStart => exact ⟨0, [], Nat.zero_le _, rfl, by decide, rfl, fun x hx => by simp at hx, OwnInts.nil _ _, below_drewN (Below.refl _ _) d⟩
    case round =>
      obtain ⟨j, xs, hj, rfl, hxl, HXL, hxs, ho, hb⟩ := hrel
      have hsz : w.heap.size ≤ wr.heap.size := hb.out.size
      by_cases hjn : j < N
      · obtain ⟨p, hp⟩ : ∃ p, B * (j : Int) = p := ⟨_, rfl⟩
        have hpb := prod_in (b := B) (i := (j : Int)) (B := 1000) (I := 64) (by omega) (by omega) (by omega) (by omega) (by decide)
        rw [hp] at hpb
        obtain ⟨hp1, hp2⟩ := hpb
        obtain ⟨c1, hc1⟩ : ∃ c1, C * (j : Int) = c1 := ⟨_, rfl⟩
        have hc1b := prod_in (b := C) (i := (j : Int)) (B := 20) (I := 64) (by omega) (by omega) (by omega) (by omega) (by decide)
        rw [hc1] at hc1b
        obtain ⟨hc11, hc12⟩ := hc1b
        obtain ⟨c2, hc2⟩ : ∃ c2, c1 * (j : Int) = c2 := ⟨_, rfl⟩
        have hc2b := prod_in (b := c1) (i := (j : Int)) (B := 1280) (I := 64) (by omega) (by omega) (by omega) (by omega) (by decide)
        rw [hc2] at hc2b
        obtain ⟨hc21, hc22⟩ := hc2b
        obtain ⟨r, hr⟩ : ∃ r, B * ((j : Int) % 7) = r := ⟨_, rfl⟩
        have hrb := prod_in (b := B) (i := (j : Int) % 7) (B := 1000) (I := 6) (by omega) (by omega) (by omega) (by omega) (by decide)
        rw [hr] at hrb
        obtain ⟨hr1, hr2⟩ := hrb
        have HW1 : Hid (wrap64 (B * (j : Int)) = p) := by show _ = _; rw [hp]; exact Go.IntWalk.wrap64_in p (by omega)
        have HW2 : Hid (wrap64 (C * (j : Int)) = c1) := by show _ = _; rw [hc1]; exact Go.IntWalk.wrap64_in c1 (by omega)
        have HW3 : Hid (wrap64 (c1 * (j : Int)) = c2) := by show _ = _; rw [hc2]; exact Go.IntWalk.wrap64_in c2 (by omega)
        have HW4 : Hid (wrap64 (B * ((j : Int) % 7)) = r) := by show _ = _; rw [hr]; exact Go.IntWalk.wrap64_in r (by omega)
        have hend : ∀ (y : Int) (v' : Value) (w' : World), -300000 ≤ y ∧ y ≤ 300000 → Hid (OwnInts w' w.heap.size v' (xs ++ [y])) → Hid (Below w.heap.size wr w') →
            ∃ (j' : Nat) (xs' : List Int), j' ≤ N ∧ Value.int .i64 ((j : Int) + 1) = .int .i64 (j' : Int) ∧ xs'.length ≤ 1000000 ∧ Hid (xs'.length = j') ∧ Hid (∀ x ∈ xs', -300000 ≤ x ∧ x ≤ 300000) ∧ Hid (OwnInts w' w.heap.size v' xs') ∧ Hid (Below w.heap.size w w') := by
          intro y v' w' hy g1 g2
          refine ⟨j + 1, xs ++ [y], by omega, by go_num, by have := HXL.out; simp; omega, by show _ = _; simp [HXL.out], ?_, g1, hb.out.trans g2.out⟩
          intro x hx
          rcases List.mem_append.1 hx with h1 | h1
          · exact hxs.out x h1
          · simp at h1; subst h1; exact hy
        have HEND := hid_of hend
        clear hp hc1 hc2 hr hend
        have hways : (l.length ≤ j) ∨ (j < l.length ∧ z ≤ 0) ∨ (j < l.length ∧ 0 < z) := by omega
        rcases hways with hj1 | ⟨hj1, hj2⟩ | ⟨hj1, hj2⟩
        · rcases hq4 with rfl | rfl | rfl | rfl
          all_goals
            go_wp2_with first
              | (go_at_call_of 5 (Value.int IntKind.i64 kind); refine (within_any kind 4 _ hk1 hk2 (by decide) (by decide)).mono ?_; rw [HQ.out]; rintro e w1 ⟨rfl, rfl⟩)
              | (at_builtin; go_must (refine wpList_append_int _ rfl (.tmp 89) (.tmp 91) 22 rfl w.heap.size i0 Tryz.underlying22 hi hz0 hz1 hz2 _ xs rfl ho.out _ rfl hxl hsz ?_))
            intro v' w' g1 g2
            go_wp2_with fail
            refine ⟨HEND.out _ v' w' ?_ g1 g2, by (simp [intOf]) <;> omega⟩
            first
              | omega
              | (rw [HW1.out, Go.IntWalk.wrap64_in (A + p) (by omega)]; omega)
              | (rw [HW1.out, HW2.out, HW3.out, Go.IntWalk.wrap64_in (p + c2) (by omega), Go.IntWalk.wrap64_in (A + (p + c2)) (by omega)]; omega)
              | (rw [HW4.out, Go.IntWalk.wrap64_in (A + r) (by omega)]; omega)
        · rcases hq4 with rfl | rfl | rfl | rfl
          all_goals
            go_wp2_with first
              | (go_at_call_of 5 (Value.int IntKind.i64 kind); refine (within_any kind 4 _ hk1 hk2 (by decide) (by decide)).mono ?_; rw [HQ.out]; rintro e w1 ⟨rfl, rfl⟩)
              | (at_builtin; go_must (refine wpList_append_int _ rfl (.tmp 89) (.tmp 91) 22 rfl w.heap.size i0 Tryz.underlying22 hi hz0 hz1 hz2 _ xs rfl ho.out _ rfl hxl hsz ?_))
            intro v' w' g1 g2
            go_wp2_with fail
            refine ⟨HEND.out _ v' w' ?_ g1 g2, by (simp [intOf]) <;> omega⟩
            first
              | omega
              | (rw [HW1.out, Go.IntWalk.wrap64_in (A + p) (by omega)]; omega)
              | (rw [HW1.out, HW2.out, HW3.out, Go.IntWalk.wrap64_in (p + c2) (by omega), Go.IntWalk.wrap64_in (A + (p + c2)) (by omega)]; omega)
              | (rw [HW4.out, Go.IntWalk.wrap64_in (A + r) (by omega)]; omega)
        · obtain ⟨x, hx⟩ : ∃ x, l[j]? = some x := ⟨l[j], by simp [hj1]⟩
          obtain ⟨b, off, rfl, hc⟩ := H.out.mono hb.out j x hx
          obtain ⟨hx1, hx2⟩ := HI.out x (List.mem_of_getElem? hx)
          obtain ⟨u, hu⟩ : ∃ u, x % z = u := ⟨_, rfl⟩
          have hu1 := Int.emod_nonneg x (show z ≠ 0 by omega)
          have hu2 := Int.emod_lt_of_pos x hj2
          rw [hu] at hu1 hu2
          have HU := hid_of hu
          clear hx hu
          rcases hq4 with rfl | rfl | rfl | rfl
          all_goals
            go_wp2_with first
              | (go_at_call_of 5 (Value.int IntKind.i64 kind); refine (within_any kind 4 _ hk1 hk2 (by decide) (by decide)).mono ?_; rw [HQ.out]; rintro e w1 ⟨rfl, rfl⟩)
              | (go_at_call_of 5 (Value.int IntKind.i64 x); refine (within_any x z _ hx1 hx2 (by omega) (by omega)).mono ?_; rw [HU.out]; rintro e w1 ⟨rfl, rfl⟩)
              | (at_builtin; go_must (refine wpList_append_int _ rfl (.tmp 89) (.tmp 91) 22 rfl w.heap.size i0 Tryz.underlying22 hi hz0 hz1 hz2 _ xs rfl ho.out _ rfl hxl hsz ?_))
            intro v' w' g1 g2
            go_wp2_with fail
            refine ⟨HEND.out _ v' w' ?_ g1 g2, by (simp [intOf]) <;> omega⟩
            first
              | omega
              | (rw [HW1.out, Go.IntWalk.wrap64_in (A + p) (by omega), Go.IntWalk.wrap64_in (A + p + u) (by omega)]; omega)
              | (rw [HW1.out, HW2.out, HW3.out, Go.IntWalk.wrap64_in (p + c2) (by omega), Go.IntWalk.wrap64_in (A + (p + c2)) (by omega), Go.IntWalk.wrap64_in (A + (p + c2) + u) (by omega)]; omega)
              | (rw [HW4.out, Go.IntWalk.wrap64_in (A + r) (by omega), Go.IntWalk.wrap64_in (A + r + u) (by omega)]; omega)
      · have e : j = N := by omega
        subst e
        go_wp2_with fail
        go_ret
        exact ⟨_, xs, rfl, ho.out, HXL.out, hxs.out, hb.out⟩

end Go.Proofs.YthkfaackkcdcoabGreat
