/- LevinSmooth: the walk of the law. -/
import Derived.Test.YtkdbpjmofghanabLevSym
import Derived.Test.YtkdbpjmofghanabLevTwo
namespace Go.Proofs.Ytkdbpjmofghanab
set_option linter.unusedVariables false
set_option linter.unusedSimpArgs false
open Go.RowKit Dg

set_option maxRecDepth 100000 in
set_option maxHeartbeats 4000000 in
theorem vsmooth_any (W : World) (v n o : Int) (hv : I64 v) (hn : I64 n) (ho : I64 o) :
    Calls Try.prog 3 #[.int .i64 v, .int .i64 n, .int .i64 o] W fun e W' => e = .returned (.bool true) ∧ Below W.heap.size W W' := by
  obtain ⟨i0, hi, hz0, hz1, hz2⟩ := info_parts Try.info3
  obtain ⟨hv1, hv2⟩ := hv
  obtain ⟨hn1, hn2⟩ := hn
  obtain ⟨ho1, ho2⟩ := ho
  obtain ⟨V, hV⟩ : ∃ V : Int, V = 1 + v % 1000000 := ⟨_, rfl⟩
  have HV : Hid (v % 1000000 = V - 1) := by show _ = _; omega
  have hV1 : 1 ≤ V := by omega
  have hV2 : V ≤ 1000000 := by omega
  have hVV : 1 + (V - 1) = V := by omega
  obtain ⟨N, hN⟩ : ∃ N : Nat, 20 + n % 44 = (N : Int) := ⟨(20 + n % 44).toNat, by omega⟩
  have HN : Hid (n % 44 = (N : Int) - 20) := by show _ = _; omega
  have hN1 : 20 ≤ N := by omega
  have hN2 : N ≤ 63 := by omega
  have hNN : 20 + ((N : Int) - 20) = (N : Int) := by omega
  obtain ⟨q, hq⟩ : ∃ q : Nat, 1 + o % 12 = (q : Int) := ⟨(1 + o % 12).toNat, by omega⟩
  have HQ : Hid (o % 12 = (q : Int) - 1) := by show _ = _; omega
  have hq1 : 1 ≤ q := by omega
  have hq12 : q ≤ 12 := by omega
  have hqq : 1 + ((q : Int) - 1) = (q : Int) := by omega
  obtain ⟨X, hX⟩ : ∃ X, X = List.replicate N V := ⟨_, rfl⟩
  obtain ⟨Y, hY⟩ : ∃ Y, Y = X.map fun v => -v := ⟨_, rfl⟩
  have HXL : Hid (X.length = N) := by show _ = _; rw [hX]; simp
  have HYL : Hid (Y.length = N) := by show _ = _; rw [hY, hX]; simp
  have HXG : Hid (∀ k, k < N → X.take (k + 1) = X.take k ++ [V]) := by
    intro k hk
    refine take_next X k _ ?_
    rw [hX, List.getElem?_replicate, if_pos hk]
  have HYG : Hid (∀ k, k < N → Y.take (k + 1) = Y.take k ++ [-V]) := by
    intro k hk
    refine take_next Y k _ ?_
    rw [hY, hX, List.getElem?_map, List.getElem?_replicate, if_pos hk]
    rfl
  have hXb : ∀ u ∈ X, -8388607 ≤ u ∧ u ≤ 8388607 := by
    intro u hu
    rw [hX] at hu
    have := List.eq_of_mem_replicate hu
    omega
  have hXS : allS X := fun u hu => by have := hXb u hu; unfold isS; omega
  have hYA : Alike X Y := by rw [hY]; exact alike_neg hXb
  obtain ⟨A, hA⟩ : ∃ A, A = autoL X (q + 1) := ⟨_, rfl⟩
  have hA1 : (A, 0) = autoOut X (q : Int) := by
    unfold autoOut
    rw [if_neg (by omega), if_pos hXS, if_neg (by rw [HXL.out]; omega), Int.toNat_natCast, hA]
  have HA1 := hid_of hA1
  have HA2 : Hid ((A, 0) = autoOut Y (q : Int)) := by show _ = _; rw [hYA.out hXS]; exact hA1
  have HAL : Hid (A.length = q + 1) := by show _ = _; rw [hA]; simp
  have hAl : A.length ≤ 13 := by rw [HAL.out]; omega
  have hAb : ((A.length : Int) != (q : Int) + 1) = false := bne_eq_false_iff_eq.2 (by rw [HAL.out]; omega)
  have HAG : Hid (∀ k, k < A.length → A[k]? = some (V * V * ((N : Int) - (k : Int)))) := by
    intro k hk
    rw [HAL.out] at hk
    rw [hA, autoL_get X hk, hX, autoZ_same N V k (by omega)]
  have hsh := autoZ_small hXS (by rw [HXL.out]; omega) 0
  obtain ⟨s, -, hs⟩ := shift_exists (autoZ_zero X) (by omega)
  have HSX : Hid (allS X → X.length ≤ 64 → IsShift (autoZ X 0) s) := fun _ _ => hs
  have HSY : Hid (allS Y → Y.length ≤ 64 → IsShift (autoZ Y 0) s) := by intro _ _; rw [hYA.2.2 0]; exact hs
  obtain ⟨K, hK1, hK2, hK⟩ := coOut_same N V s hN1 hN2 hV1 hV2 (by rw [← hX]; exact hs)
  have HR1 : Hid (([K], true) = coOut X 1 s) := by show _ = _; rw [hX]; exact hK.symm
  have HR2 : Hid (([K], true) = coOut Y 1 s) := by show _ = _; rw [hYA.co hXS, hX]; exact hK.symm
  obtain ⟨p, hp⟩ : ∃ p, p = V * V := ⟨_, rfl⟩
  have hpb : 0 ≤ p ∧ p ≤ 1000000000000 := by
    have h1 := Int.mul_le_mul_of_nonneg_left hV2 (show (0 : Int) ≤ V by omega)
    have h2 := Int.mul_nonneg (show (0 : Int) ≤ V by omega) (show (0 : Int) ≤ V by omega)
    omega
  obtain ⟨hp1, hp2⟩ := hpb
  have HP : Hid (V * V = p) := hp.symm
  rw [← hp] at HAG
  clear hV hN hq hX hY hXb hXS hYA hA hA1 hsh hs hK hp
  go_enter Try.func3, Try.ntmps3
  go_wp2_with fail
  refine (within_any v 1000000 W hv1 hv2 (by decide) (by decide)).mono ?_
  rw [HV.out]
  rintro e w0 ⟨rfl, rfl⟩
  go_wp2_with fail
  refine (within_any n 44 W hn1 hn2 (by decide) (by decide)).mono ?_
  rw [HN.out]
  rintro e w0 ⟨rfl, rfl⟩
  go_wp2_with fail
  refine (within_any o 12 W ho1 ho2 (by decide) (by decide)).mono ?_
  rw [HQ.out]
  rintro e w0 ⟨rfl, rfl⟩
  clear hv1 hv2 hn1 hn2 ho1 ho2 HV HN HQ
  go_wp2_with fail
  go_loopw [7, 8, 9] (fun vx vy i wr => ∃ k : Nat, k ≤ N ∧ i = .int .i64 (k : Int) ∧ Hid (F2 W wr vx vy (X.take k) (Y.take k))) (fun _ _ i _ => N - (intOf i).toNat)
  case atStart => exact ⟨0, Nat.zero_le _, rfl, ⟨OwnInts.nil _ _, OwnInts.nil _ _, (fun k hk => by cases hk), Below.refl _ _⟩⟩
  case round =>
    obtain ⟨k, hk, rfl, hf⟩ := hrel
    by_cases hkn : k < N
    · have HXN := hid_of (HXG.out k hkn)
      have HYN := hid_of (HYG.out k hkn)
      have hxl : (X.take k).length ≤ 1000000 := by rw [List.length_take, HXL.out]; omega
      have hyl : (Y.take k).length ≤ 1000000 := by rw [List.length_take, HYL.out]; omega
      go_wp2_with (at_builtin; go_must (refine wpList_append_f2 W wr rfl (.tmp 33) (.tmp 35) 23 rfl i0 Try.underlying23 hi hz0 hz1 hz2 u7 u8 (X.take k) (Y.take k) (by rfl) hf.out V (by rfl) hxl ?_))
      intro v1 w1 h1
      go_wp2_with (at_builtin; go_must (refine wpList_append_f2 W w1 rfl (.tmp 37) (.tmp 40) 23 rfl i0 Try.underlying23 hi hz0 hz1 hz2 u8 v1 (Y.take k) (X.take k ++ [V]) (by rfl) h1.out.rot (-V) (by rfl) hyl ?_))
      intro v2 w2 h2
      have HF2 : Hid (F2 W w2 v1 v2 (X.take (k + 1)) (Y.take (k + 1))) := by rw [HXN.out, HYN.out]; exact h2.out.rot
      clear h1 h2
      go_wp2_with fail
      exact ⟨⟨k + 1, by omega, by go_num, HF2⟩, by (simp [intOf]) <;> omega⟩
    · have e : k = N := by omega
      subst e
      have hf' := hf.out
      rw [List.take_of_length_le (by rw [HXL.out]; exact Nat.le_refl _), List.take_of_length_le (by rw [HYL.out]; exact Nat.le_refl _)] at hf'
      obtain ⟨xa, xc, hu7, hnx, -, -⟩ := hf'.a.ns
      obtain ⟨ya, yc, hu8, hny, -, -⟩ := hf'.b.ns
      subst hu7 hu8
      have HX : Hid (IntsAt wr xa X) := hnx.at_
      have HY : Hid (IntsAt wr ya Y) := hny.at_
      have HBW : Hid (Below W.heap.size W wr) := hf'.bel
      have hsw : W.heap.size ≤ wr.heap.size := HBW.out.size
      have hxl : X.length ≤ 64 := by rw [HXL.out]; omega
      have hyl : Y.length ≤ 64 := by rw [HYL.out]; omega
      clear hf hf' hnx hny hk hkn HXG HYG HXL HYL
      go_wp2_with fail
      refine (vauto_any wr xa xc X _ HX.out (by omega) _ HA1.out).mono ?_
      rintro e w2 hg
      obtain ⟨a2, c2, rfl, -, hn2, hb2⟩ := hg.ok
      have HB2 : Hid (Below wr.heap.size wr w2) := hb2
      have HL2 : Hid (IntsAt w2 a2 A) := hn2.at_
      clear hg hb2 hn2
      go_wp2_with fail
      refine (vauto_any w2 ya yc Y _ (HY.out.mono HB2.out) (by omega) _ HA2.out).mono ?_
      rintro e w3 hg
      obtain ⟨a3, c3, rfl, -, hn3, hb3⟩ := hg.ok
      have HB3 : Hid (Below wr.heap.size wr w3) := HB2.out.trans (hb3.mono HB2.out.size)
      have HL3 : Hid (IntsAt w3 a2 A) := HL2.out.mono hb3
      have HM3 : Hid (IntsAt w3 a3 A) := hn3.at_
      clear hg hb3 hn3 HB2 HL2
      go_wp2_with fail
      refine (sameInt_any w3 a2 a3 c2 c3 A HL3.out HM3.out (by omega)).mono ?_
      rintro e w4 ⟨rfl, n4, rfl⟩
      clear HM3
      have HL5 : Hid (IntsAt (w3.drewN n4) a2 A) := HL3.out.drewN n4
      have HB5 : Hid (Below wr.heap.size wr (w3.drewN n4)) := below_drewN HB3.out n4
      clear HL3 HB3
      generalize w3.drewN n4 = w5 at *
      have hs5 : wr.heap.size ≤ w5.heap.size := HB5.out.size
      go_wp2_with fail
      have hAp : 0 < A.length := by rw [HAL.out]; omega
      obtain ⟨b5, o5, rfl, -⟩ := HL5.out 0 _ (HAG.out 0 hAp)
      go_loopw [75] (fun i ws => ∃ j : Nat, j ≤ A.length ∧ i = .int .i64 (j : Int) ∧ w5 = ws) (fun i _ => A.length - (intOf i).toNat)
      case atStart => exact ⟨0, Nat.zero_le _, rfl, rfl⟩
      case round =>
        obtain ⟨j, hj, rfl, rfl⟩ := hrel
        by_cases hjl : j < A.length
        · obtain ⟨t, ht⟩ : ∃ t, t = p * ((k : Int) - (j : Int)) := ⟨_, rfl⟩
          have hc : w5.cell? ⟨b5, o5 + j, none⟩ = some (.int .i64 t) := by
            obtain ⟨b3, o3, e3, hc3⟩ := HL5.out j _ (HAG.out j hjl)
            cases e3
            rw [ht]
            exact hc3
          have htb : 0 ≤ t ∧ t ≤ 63000000000000 := by
            have g1 : 0 ≤ (k : Int) - (j : Int) := by omega
            have g2 : (k : Int) - (j : Int) ≤ 63 := by omega
            have g3 := Int.mul_nonneg hp1 g1
            have g4 := Int.mul_le_mul_of_nonneg_right hp2 g1
            rw [ht]
            omega
          obtain ⟨ht1, ht2⟩ := htb
          have hne : (t != wrap64 (wrap64 (V * V) * ((k : Int) - (j : Int)))) = false := by
            rw [HP.out, Go.IntWalk.wrap64_in p (by omega), ← ht, Go.IntWalk.wrap64_in t (by omega)]
            simp
          clear ht
          go_wp2_with fail
          exact ⟨⟨j + 1, by omega, by go_num, by trivial⟩, by (simp [intOf]) <;> omega⟩
        · have e : j = A.length := by omega
          subst e
          go_wp2_with fail
          refine (vco_any w5 xa xc X 1 s (HX.out.mono HB5.out) (by omega) HSX.out _ HR1.out).mono ?_
          rintro e w6 hg
          obtain ⟨a6, c6, rfl, -, hn6, hb6⟩ := hg.ok
          have HB6 : Hid (Below wr.heap.size wr w6) := HB5.out.trans (hb6.mono HB5.out.size)
          have HL6 : Hid (IntsAt w6 a6 [K]) := hn6.at_
          clear hg hb6 hn6
          go_wp2_with fail
          refine (vco_any w6 ya yc Y 1 s (HY.out.mono HB6.out) (by omega) HSY.out _ HR2.out).mono ?_
          rintro e w7 hg
          obtain ⟨a7, c7, rfl, -, hn7, hb7⟩ := hg.ok
          have HB7 : Hid (Below W.heap.size W w7) := HBW.out.trans ((HB6.out.trans (hb7.mono HB6.out.size)).mono hsw)
          have HL7 : Hid (IntsAt w7 a6 [K]) := HL6.out.mono hb7
          have HM7 : Hid (IntsAt w7 a7 [K]) := hn7.at_
          have hs7 : W.heap.size ≤ w7.heap.size := HB7.out.size
          clear hg hb7 hn7 HB6 HL6
          obtain ⟨b6, o6, rfl, hc6⟩ := HL7.out 0 K rfl
          rw [Nat.add_zero] at hc6
          go_wp2_with fail
          refine (sameInt_any w7 _ a7 c6 c7 [K] HL7.out HM7.out (by simp)).mono ?_
          rintro e w8 ⟨rfl, n8, rfl⟩
          go_wp2_with fail
          refine (wakes7_any _).mono ?_
          rintro e w9 ⟨rfl, hb9⟩
          have HB9 : Hid (Below W.heap.size W w9) := (below_drewN HB7.out n8).trans (hb9.mono hs7)
          clear hb9
          go_wp2
          go_ret
          exact ⟨rfl, HB9.out⟩

end Go.Proofs.Ytkdbpjmofghanab
