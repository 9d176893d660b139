/- FramePlain: the walk of the law. -/
import Derived.Test.YthkfaackkcdcoabPart14
import Derived.Test.YthkfaackkcdcoabPart15
import Derived.Test.YthkfaackkcdcoabPart05
namespace Go.Proofs.Ythkfaackkcdcoab
set_option linter.unusedVariables false
set_option linter.unusedSimpArgs false
open Go.RowKit Dg

/-- A line of samples. -/
def lineL (N : Nat) (v st : Int) : List Int := (List.range N).map fun i : Nat => v + st * (i : Int)
theorem length_lineL (N : Nat) (v st : Int) : (lineL N v st).length = N := by simp [lineL]
theorem lineL_get {N : Nat} {v st : Int} {k : Nat} (hk : k < N) : (lineL N v st)[k]? = some (v + st * (k : Int)) := by simp [lineL, hk]
theorem asOut_yes {kind : Int} {x : List Int} {s : Nat} {D : List Bool} (h : frm kind x s = some D) : asOut kind x s = (pack D, true) := by unfold asOut; rw [h]

set_option maxRecDepth 100000 in
set_option maxHeartbeats 4000000 in
theorem yplain_any (W : World) (v st n : Int) (hv : I64 v) (hst : I64 st) (hn : I64 n) :
    Calls Try.prog 5 #[.int .i64 v, .int .i64 st, .int .i64 n] W fun e W' => e = .returned (.bool true) ∧ Below W.heap.size W W' := by
  obtain ⟨i0, hi, hz0, hz1, hz2⟩ := info_parts Try.info3
  obtain ⟨hv1, hv2⟩ := hv
  obtain ⟨hst1, hst2⟩ := hst
  obtain ⟨hn1, hn2⟩ := hn
  obtain ⟨M, hM⟩ : ∃ M : Nat, n % 45 = (M : Int) := ⟨(n % 45).toNat, by omega⟩
  obtain ⟨N, hN⟩ : ∃ N : Nat, 20 + (M : Int) = (N : Int) := ⟨M + 20, by omega⟩
  have HM := hid_of hM
  have hN20 : 20 ≤ N := by omega
  have hN64 : N ≤ 64 := by omega
  obtain ⟨V', hV'⟩ : ∃ V : Int, v % 1048576 = V := ⟨_, rfl⟩
  have HV := hid_of hV'
  obtain ⟨V, hV⟩ : ∃ V : Int, V' - 524288 = V := ⟨_, rfl⟩
  have hV1 : -524288 ≤ V := by omega
  have hV2 : V < 524288 := by omega
  obtain ⟨S', hS'⟩ : ∃ S : Int, st % 1000 = S := ⟨_, rfl⟩
  have HST := hid_of hS'
  obtain ⟨S, hS⟩ : ∃ S : Int, 1 + S' = S := ⟨_, rfl⟩
  have hS1 : 1 ≤ S := by omega
  have hS2 : S ≤ 1000 := by omega
  have hV3 : 0 ≤ V' := by omega
  have hV4 : V' < 1048576 := by omega
  have hS3 : 0 ≤ S' := by omega
  have hS4 : S' < 1000 := by omega
  obtain ⟨X, hX⟩ : ∃ X, X = List.replicate N V := ⟨_, rfl⟩
  obtain ⟨Y, hY⟩ : ∃ Y, Y = lineL N V S := ⟨_, rfl⟩
  have HXL : Hid (X.length = N) := by show _ = _; rw [hX]; simp
  have HYL : Hid (Y.length = N) := by show _ = _; rw [hY]; exact length_lineL N V S
  have HXG : Hid (∀ k, k < N → X.take (k + 1) = X.take k ++ [V]) := fun k hk => take_next X k V (by rw [hX]; simp [hk])
  have HYG : Hid (∀ k, k < N → Y.take (k + 1) = Y.take k ++ [V + S * (k : Int)]) := fun k hk => take_next Y k _ (by rw [hY]; exact lineL_get hk)
  have hXm : mayX X := ⟨by rw [HXL.out]; omega, by rw [HXL.out]; exact hN64, fun y hy => by rw [hX] at hy; rw [(List.mem_replicate.1 hy).2]; unfold isS; omega⟩
  have hXo : allOne X := fun y hy => by
    rw [hX] at hy ⊢
    rw [(List.mem_replicate.1 hy).2]
    have h0 : 0 < N := by omega
    simp [List.getD, List.getElem?_replicate, h0]
  have hLine : Line Y V S := ⟨by rw [HYL.out]; exact hN20, by rw [HYL.out]; exact hN64, fun i hi => by rw [HYL.out] at hi; rw [hY]; exact lineL_get hi, hV1, by omega, hS1, hS2⟩
  obtain ⟨s, hs⟩ := shift_may X
  have HS := hid_of hs
  obtain ⟨t, ht⟩ := shift_may Y
  have HT := hid_of ht
  obtain ⟨hb0, hb0l⟩ := best_const hXm hXo (by rw [HXL.out]; exact hN20) s
  obtain ⟨i, hi3, hi19, hb1, D, hD, hDl⟩ := hLine.best t
  have hbl := frm_len hb1
  have hDl2 := frm_len hD
  obtain ⟨P0, hP0⟩ : ∃ P, P = pack (bestF X s 19) := ⟨_, rfl⟩
  obtain ⟨P1, hP1⟩ : ∃ P, P = pack (bestF Y t 19) := ⟨_, rfl⟩
  obtain ⟨P2, hP2⟩ : ∃ P, P = pack D := ⟨_, rfl⟩
  have HR0 : Hid ((P0, 0) = encOut X s) := by show _ = _; rw [encOut_may hXm, hP0]
  have HR1 : Hid ((P1, 0) = encOut Y t) := by show _ = _; rw [encOut_may hLine.may, hP1]
  have HR2 : Hid ((P2, true) = asOut 4 Y t) := by show _ = _; rw [asOut_yes hD, hP2]
  have HK0 : Hid ((0 : Int) = kindOut P0) := by show _ = _; rw [hP0, kindOut_pack hb0]
  have HK1 : Hid ((i : Int) = kindOut P1) := by show _ = _; rw [hP1, kindOut_pack hb1]
  have H0256 : Hid (∀ x ∈ P0, x < 256) := by rw [hP0]; exact pack_lt _
  have H1256 : Hid (∀ x ∈ P1, x < 256) := by rw [hP1]; exact pack_lt _
  have hp0 : ((P0.length : Int) == 5) = true := beq_iff_eq.2 (by rw [hP0, length_pack, hb0l]; rfl)
  have hp0l : P0.length ≤ 1000000 := by rw [hP0, length_pack, hb0l]; decide
  have hp1l : P1.length ≤ 10000 := by rw [hP1, length_pack]; omega
  have hp12 : P1.length ≤ P2.length := by rw [hP1, hP2, length_pack, length_pack]; omega
  have hp2l : P2.length ≤ 10000 := by rw [hP2, length_pack]; omega
  obtain ⟨U, hU⟩ : ∃ U, U = bn (unpack P1) := ⟨_, rfl⟩
  have hUl : U.length = 8 * P1.length := by rw [hU]; simp [bn]
  have hub : ((U.length : Int) == 8 * (P1.length : Int)) = true := beq_iff_eq.2 (by rw [hUl]; omega)
  have HU := hid_of hU
  clear hM hV' hS' hX hY hXm hXo hLine hs ht hb0 hb0l hb1 hD hDl hbl hDl2 hP0 hP1 hP2 hU hUl
  go_enter Try.func5, Try.ntmps5
  go_wp2_with fail
  refine (within_any v 1048576 W hv1 hv2 (by decide) (by decide)).mono ?_
  rw [HV.out]
  rintro e w0 ⟨rfl, rfl⟩
  go_wp2_with fail
  refine (within_any st 1000 W hst1 hst2 (by decide) (by decide)).mono ?_
  rw [HST.out]
  rintro e w0 ⟨rfl, rfl⟩
  go_wp2_with fail
  refine (within_any n 45 W hn1 hn2 (by decide) (by decide)).mono ?_
  rw [HM.out]
  rintro e w0 ⟨rfl, rfl⟩
  clear hv1 hv2 hst1 hst2 hn1 hn2 HV HST HM
  go_wp2_with fail
  go_loopw [7, 8, 9] (fun vx vy i wr => ∃ k : Nat, k ≤ N ∧ i = .int .i64 (k : Int) ∧ Hid (F2 W wr vx vy (X.take k) (Y.take k))) (fun _ _ i _ => N - (intOf i).toNat)
  case atStart => exact ⟨0, Nat.zero_le _, rfl, ⟨OwnInts.nil _ _, OwnInts.nil _ _, (fun k hk => by cases hk), Below.refl _ _⟩⟩
  case round =>
    obtain ⟨k, hk, rfl, hf⟩ := hrel
    by_cases hkn : k < N
    · have HXN := hid_of (HXG.out k hkn)
      have HYN' := hid_of (HYG.out k hkn)
      have hxl : (X.take k).length ≤ 1000000 := by rw [List.length_take, HXL.out]; omega
      have hyl : (Y.take k).length ≤ 1000000 := by rw [List.length_take, HYL.out]; omega
      obtain ⟨p, hp⟩ : ∃ p, S * (k : Int) = p := ⟨_, rfl⟩
      have hpb : 0 ≤ p ∧ p ≤ 64000 := by
        rw [← hp]
        have g1 := Int.mul_nonneg (show (0 : Int) ≤ S by omega) (show (0 : Int) ≤ (k : Int) by omega)
        have g2 := Int.mul_le_mul hS2 (show (k : Int) ≤ 64 by omega) (by omega) (show (0 : Int) ≤ 1000 by decide)
        omega
      obtain ⟨hp1, hp2⟩ := hpb
      obtain ⟨y, hy⟩ : ∃ y, V + p = y := ⟨_, rfl⟩
      have HYN : Hid (Y.take (k + 1) = Y.take k ++ [y]) := by show _ = _; rw [HYN'.out, hp, hy]
      clear HYN'
      go_wp2_with (at_builtin; go_must (refine wpList_append_f2 W wr rfl (.tmp 31) (.tmp 33) 24 rfl i0 Try.underlying24 hi hz0 hz1 hz2 u7 u8 (X.take k) (Y.take k) (by rfl) hf.out V (by rfl) hxl ?_))
      intro v1 w1 h1
      go_wp2_with (at_builtin; go_must (refine wpList_append_f2 W w1 rfl (.tmp 35) (.tmp 41) 24 rfl i0 Try.underlying24 hi hz0 hz1 hz2 u8 v1 (Y.take k) (X.take k ++ [V]) (by rfl) h1.out.rot y (by rfl) hyl ?_))
      intro v2 w2 h2
      have HF2 : Hid (F2 W w2 v1 v2 (X.take (k + 1)) (Y.take (k + 1))) := by rw [HXN.out, HYN.out]; exact h2.out.rot
      clear h1 h2
      go_wp2_with fail
      exact ⟨⟨k + 1, by omega, by go_num, HF2⟩, by (simp [intOf]) <;> omega⟩
    · have e : k = N := by omega
      subst e
      have hf' := hf.out
      rw [List.take_of_length_le (by rw [HXL.out]; exact Nat.le_refl _), List.take_of_length_le (by rw [HYL.out]; exact Nat.le_refl _)] at hf'
      obtain ⟨xa, xc, hu7, hnx, -, -⟩ := hf'.a.ns
      obtain ⟨ya, yc, hu8, hny, -, -⟩ := hf'.b.ns
      subst hu7 hu8
      have HX := hid_of hnx
      have HY := hid_of hny
      have HBW : Hid (Below W.heap.size W wr) := hf'.bel
      have hsw : W.heap.size ≤ wr.heap.size := HBW.out.size
      have hxl : X.length ≤ 64 := by rw [HXL.out]; omega
      have hyl : Y.length ≤ 64 := by rw [HYL.out]; omega
      clear hf hf' hnx hny hk hkn HXG HYG HXL HYL
      go_wp2_with fail
      refine (fenc_any wr s xa xc X HX.out (by omega) HS.out _ HR0.out).mono ?_
      rintro e w2 ⟨v2, rfl, h2, hb2⟩
      obtain ⟨a2, c2, rfl, hc2⟩ := SlAt.of_owns h2
      have HS2 : Hid (SlAt w2 (.slice a2 P0.length c2) P0) := ⟨a2, c2, rfl, hc2⟩
      have HB2 : Hid (Below wr.heap.size wr w2) := hb2
      clear h2 hb2 hc2
      go_wp2_with fail
      refine (fenc_any w2 t ya yc Y (HY.out.mono HB2.out) (by omega) HT.out _ HR1.out).mono ?_
      rintro e w3 ⟨v3, rfl, h3, hb3⟩
      obtain ⟨a3, c3, rfl, hc3⟩ := SlAt.of_owns h3
      have HQ3 : Hid (SlAt w3 (.slice a3 P1.length c3) P1) := ⟨a3, c3, rfl, hc3⟩
      have HS3 := hid_of (HS2.out.below hb3)
      have HB3 : Hid (Below wr.heap.size wr w3) := HB2.out.trans (hb3.mono HB2.out.size)
      clear h3 hb3 hc3 HS2 HB2
      go_wp2_with fail
      refine (ras_any w3 4 t ya yc Y (HY.out.mono HB3.out) (by omega) HT.out _ HR2.out).mono ?_
      rintro e w4 ⟨v4, rfl, h4, hb4⟩
      obtain ⟨a4, c4, rfl, hc4⟩ := SlAt.of_owns h4
      have HQ4 := hid_of (HQ3.out.below hb4)
      have HS4 := hid_of (HS3.out.below hb4)
      have HB4 : Hid (Below W.heap.size W w4) := HBW.out.trans ((HB3.out.trans (hb4.mono HB3.out.size)).mono hsw)
      have hs4 : W.heap.size ≤ w4.heap.size := HB4.out.size
      clear h4 hb4 hc4 HS3 HQ3 HB3
      go_wp2_with fail
      refine (of_any w4 _ P1 HQ4.out (by omega) H1256.out).mono ?_
      rw [← HU.out]
      rintro e w5 ⟨v5, rfl, h5, hb5⟩
      obtain ⟨a5, c5, rfl, hc5⟩ := SlAt.of_owns h5
      have HQ5 := hid_of (HQ4.out.below hb5)
      have HS5 := hid_of (HS4.out.below hb5)
      have HB5 : Hid (Below W.heap.size W w5) := HB4.out.trans (hb5.mono hs4)
      have hs5 : W.heap.size ≤ w5.heap.size := HB5.out.size
      clear h5 hb5 hc5 HS4 HQ4 HB4
      go_wp2_with fail
      refine (fkind_any w5 _ P0 HS5.out hp0l H0256.out 0 HK0.out).mono ?_
      rintro e w6 ⟨rfl, hb6⟩
      have HQ6 := hid_of (HQ5.out.below hb6)
      have HB6 : Hid (Below W.heap.size W w6) := HB5.out.trans (hb6.mono hs5)
      have hs6 : W.heap.size ≤ w6.heap.size := HB6.out.size
      clear hb6 HQ5 HS5 HB5
      go_wp2_with fail
      refine (fkind_any w6 _ P1 HQ6.out (by omega) H1256.out _ HK1.out).mono ?_
      rintro e w7 ⟨rfl, hb7⟩
      have HB7 : Hid (Below W.heap.size W w7) := HB6.out.trans (hb7.mono hs6)
      have hs7 : W.heap.size ≤ w7.heap.size := HB7.out.size
      clear hb7 HQ6 HB6
      go_wp2_with fail
      refine (wakes8_any _).mono ?_
      rintro e w8 ⟨rfl, hb8⟩
      have HB8 : Hid (Below W.heap.size W w8) := HB7.out.trans (hb8.mono hs7)
      clear hb8
      go_wp2
      go_ret
      exact ⟨rfl, HB8.out⟩

end Go.Proofs.Ythkfaackkcdcoab
