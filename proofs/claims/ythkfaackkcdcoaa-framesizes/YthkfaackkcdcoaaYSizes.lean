/- FrameSizes: the walk of the law. -/
import Derived.Test.YthkfaackkcdcoaaPart13
namespace Go.Proofs.Ythkfaackkcdcoaa
set_option linter.unusedVariables false
set_option linter.unusedSimpArgs false
open Go.RowKit Dg

theorem frm_const {x : List Int} (h : mayX x) (ha : allOne x) (s : Nat) : frm 0 x s = some (headD 0 x.length ++ sampD (x.getD 0 0)) := by
  unfold frm
  rw [if_neg (by simp [h]), if_pos rfl, if_pos ha]
theorem asOut_some {kind : Int} {x : List Int} {s : Nat} {D : List Bool} (h : frm kind x s = some D) : asOut kind x s = (pack D, true) := by unfold asOut; rw [h]
theorem pack_len (D : List Bool) : (pack D).length = (D.length + 7) / 8 := by simp
/-- Numbers of few digits: those that came in, then noughts. -/
def noisy (l : List Int) (N : Nat) : List Int := (List.range N).map fun i => if i < l.length then l.getD i 0 % 16 else 0
theorem length_noisy (l : List Int) (N : Nat) : (noisy l N).length = N := by simp [noisy]
theorem noisy_get {l : List Int} {N k : Nat} (hk : k < N) : (noisy l N)[k]? = some (if k < l.length then l.getD k 0 % 16 else 0) := by simp [noisy, hk]
theorem noisy_small {l : List Int} {N : Nat} : ∀ v ∈ noisy l N, 0 ≤ v ∧ v ≤ 15 := by
  intro v hv
  obtain ⟨i, -, rfl⟩ := List.mem_map.1 hv
  split <;> omega

set_option maxRecDepth 100000 in
set_option maxHeartbeats 4000000 in
theorem ysizes_any (W : World) (a : Option Addr) (len cap : Nat) (z : List Int) (v n : Int) (hr : IsRow .i64 W a len cap z) (hv : I64 v) (hn : I64 n) :
    Calls Try.prog 5 #[.slice a len cap, .int .i64 v, .int .i64 n] W fun e W' => e = .returned (.bool true) ∧ Below W.heap.size W W' := by
  obtain ⟨i0, hi, hz0, hz1, hz2⟩ := info_parts Try.info3
  obtain ⟨l, hll, hI, hat, hle, hm, hnone, hblk⟩ := hr.ints
  subst hll
  have HA : Hid (IntsAt W a l) := hat
  have HI : Hid (∀ x ∈ l, I64 x) := hI
  have hmx : l.length ≤ maxLen := Nat.le_trans hle hm
  unfold maxLen at hmx
  obtain ⟨hv1, hv2⟩ := hv
  obtain ⟨hn1, hn2⟩ := hn
  obtain ⟨M, hM⟩ : ∃ M : Nat, n % 64 = (M : Int) := ⟨(n % 64).toNat, by omega⟩
  obtain ⟨N, hN⟩ : ∃ N : Nat, 1 + (M : Int) = (N : Int) := ⟨M + 1, by omega⟩
  have HM := hid_of hM
  have hN1 : 1 ≤ N := by omega
  have hN64 : N ≤ 64 := by omega
  obtain ⟨V, hV⟩ : ∃ V : Int, v % 4194304 = V := ⟨_, rfl⟩
  have HV := hid_of hV
  have hV1 : 0 ≤ V := by omega
  have hV2 : V < 4194304 := by omega
  obtain ⟨X, hX⟩ : ∃ X, X = List.replicate N V := ⟨_, rfl⟩
  obtain ⟨Y, hY⟩ : ∃ Y, Y = noisy l N := ⟨_, rfl⟩
  have HXL : Hid (X.length = N) := by show _ = _; rw [hX]; simp
  have HYL : Hid (Y.length = N) := by show _ = _; rw [hY]; exact length_noisy l N
  have HXG : Hid (∀ k, k < N → X.take (k + 1) = X.take k ++ [V]) := fun k hk => take_next X k V (by rw [hX]; simp [hk])
  have HYG : Hid (∀ k, k < N → Y.take (k + 1) = Y.take k ++ [if k < l.length then l.getD k 0 % 16 else 0]) := fun k hk => take_next Y k _ (by rw [hY]; exact noisy_get hk)
  have hXm : mayX X := ⟨by rw [HXL.out]; exact hN1, by rw [HXL.out]; exact hN64, fun y hy => by rw [hX] at hy; rw [(List.mem_replicate.1 hy).2]; unfold isS; omega⟩
  have hXo : allOne X := fun y hy => by
    rw [hX] at hy ⊢
    rw [(List.mem_replicate.1 hy).2]
    have h0 : 0 < N := by omega
    simp [List.getD, List.getElem?_replicate, h0]
  have hYm : mayX Y := ⟨by rw [HYL.out]; exact hN1, by rw [HYL.out]; exact hN64, fun y hy => by rw [hY] at hy; have := noisy_small y hy; unfold isS; omega⟩
  obtain ⟨s, hs⟩ := shift_may X
  have HS := hid_of hs
  obtain ⟨t, ht⟩ := shift_may Y
  have HT := hid_of ht
  obtain ⟨P0, hP0⟩ : ∃ P, P = pack (headD 0 X.length ++ sampD (X.getD 0 0)) := ⟨_, rfl⟩
  obtain ⟨P1, hP1⟩ : ∃ P, P = pack (headD 1 X.length ++ sampsD X) := ⟨_, rfl⟩
  obtain ⟨P2, hP2⟩ : ∃ P, P = pack (bestF Y t 19) := ⟨_, rfl⟩
  have HR0 : Hid ((P0, true) = asOut 0 X s) := by show _ = _; rw [asOut_some (frm_const hXm hXo s), hP0]
  have HR1 : Hid ((P1, true) = asOut 1 X s) := by show _ = _; rw [asOut_some (frm_verb hXm s), hP1]
  have HR2 : Hid ((P2, 0) = encOut Y t) := by show _ = _; rw [encOut_may hYm, hP2]
  have hb0 : ((P0.length : Int) == 5) = true := beq_iff_eq.2 (by rw [hP0, pack_len]; simp)
  have hb1 : ((P1.length : Int) == 2 + 3 * (N : Int)) = true := beq_iff_eq.2 (by rw [hP1, pack_len]; simp; rw [HXL.out]; omega)
  have hb2 : (P2.length : Int) ≤ 2 + (5 + 6 * (N : Int) + 7) / 8 := by
    have := best_small hYm (by rw [hY]; exact noisy_small) t
    rw [HYL.out] at this
    rw [hP2, pack_len]
    omega
  clear hat hI hle hm hnone hblk hr hM hV hX hY hXm hXo hYm hs ht hP0 hP1 hP2
  go_enter Try.func5, Try.ntmps5
  go_wp2_with fail
  refine (within_any n 64 W hn1 hn2 (by decide) (by decide)).mono ?_
  rw [HM.out]
  rintro e w0 ⟨rfl, rfl⟩
  go_wp2_with fail
  refine (within_any v 4194304 W hv1 hv2 (by decide) (by decide)).mono ?_
  rw [HV.out]
  rintro e w0 ⟨rfl, rfl⟩
  clear hv1 hv2 hn1 hn2 HM HV
  go_wp2_with fail
  go_loopw [7, 8, 9] (fun vx vy i wr => ∃ k : Nat, k ≤ N ∧ i = .int .i64 (k : Int) ∧ Hid (F2 W wr vx vy (X.take k) (Y.take k))) (fun _ _ i _ => N - (intOf i).toNat)
  case atStart => exact ⟨0, Nat.zero_le _, rfl, ⟨OwnInts.nil _ _, OwnInts.nil _ _, (fun k hk => by cases hk), Below.refl _ _⟩⟩
  case round =>
    obtain ⟨k, hk, rfl, hf⟩ := hrel
    by_cases hkn : k < N
    · have HXN := hid_of (HXG.out k hkn)
      have hxl : (X.take k).length ≤ 1000000 := by rw [List.length_take, HXL.out]; omega
      have hyl : (Y.take k).length ≤ 1000000 := by rw [List.length_take, HYL.out]; omega
      by_cases hkl : k < l.length
      · obtain ⟨x, hx⟩ : ∃ x, l[k]? = some x := ⟨l[k], by simp [hkl]⟩
        obtain ⟨b, off, rfl, hc⟩ := HA.out.mono hf.out.bel k x hx
        obtain ⟨hx1, hx2⟩ := HI.out x (List.mem_of_getElem? hx)
        obtain ⟨y, hy⟩ : ∃ y, x % 16 = y := ⟨_, rfl⟩
        have HYY := hid_of hy
        have HYN : Hid (Y.take (k + 1) = Y.take k ++ [y]) := by show _ = _; rw [HYG.out k hkn, if_pos hkl, getD_of hx, hy]
        clear hx hy
        go_wp2_with fail
        refine (within_any x 16 wr hx1 hx2 (by decide) (by decide)).mono ?_
        rw [HYY.out]
        rintro e w0 ⟨rfl, rfl⟩
        go_wp2_with (at_builtin; go_must (refine wpList_append_f2 W _ rfl (.tmp 36) (.tmp 38) 22 rfl i0 Try.underlying22 hi hz0 hz1 hz2 u7 u8 (X.take k) (Y.take k) (by rfl) hf.out V (by rfl) hxl ?_))
        intro v1 w1 h1
        go_wp2_with (at_builtin; go_must (refine wpList_append_f2 W w1 rfl (.tmp 40) (.tmp 42) 22 rfl i0 Try.underlying22 hi hz0 hz1 hz2 u8 v1 (Y.take k) (X.take k ++ [V]) (by rfl) h1.out.rot y (by rfl) hyl ?_))
        intro v2 w2 h2
        have HF2 : Hid (F2 W w2 v1 v2 (X.take (k + 1)) (Y.take (k + 1))) := by rw [HXN.out, HYN.out]; exact h2.out.rot
        clear h1 h2
        go_wp2_with fail
        exact ⟨⟨k + 1, by omega, by go_num, HF2⟩, by (simp [intOf]) <;> omega⟩
      · have HYN : Hid (Y.take (k + 1) = Y.take k ++ [0]) := by show _ = _; rw [HYG.out k hkn, if_neg hkl]
        go_wp2_with (at_builtin; go_must (refine wpList_append_f2 W wr rfl (.tmp 36) (.tmp 38) 22 rfl i0 Try.underlying22 hi hz0 hz1 hz2 u7 u8 (X.take k) (Y.take k) (by rfl) hf.out V (by rfl) hxl ?_))
        intro v1 w1 h1
        go_wp2_with (at_builtin; go_must (refine wpList_append_f2 W w1 rfl (.tmp 40) (.tmp 42) 22 rfl i0 Try.underlying22 hi hz0 hz1 hz2 u8 v1 (Y.take k) (X.take k ++ [V]) (by rfl) h1.out.rot 0 (by rfl) hyl ?_))
        intro v2 w2 h2
        have HF2 : Hid (F2 W w2 v1 v2 (X.take (k + 1)) (Y.take (k + 1))) := by rw [HXN.out, HYN.out]; exact h2.out.rot
        clear h1 h2
        go_wp2_with fail
        exact ⟨⟨k + 1, by omega, by go_num, HF2⟩, by (simp [intOf]) <;> omega⟩
    · have e : k = N := by omega
      subst e
      have hf' := hf.out
      rw [List.take_of_length_le (by rw [HXL.out]; exact Nat.le_refl _), List.take_of_length_le (by rw [HYL.out]; exact Nat.le_refl _)] at hf'
      obtain ⟨xa, xc, hu7, hnx, -, -⟩ := hf'.a.ns
      obtain ⟨ya, yc, hu8, hny, -, -⟩ := hf'.b.ns
      subst hu7 hu8
      have HX := hid_of hnx
      have HY := hid_of hny
      have HBW : Hid (Below W.heap.size W wr) := hf'.bel
      have hsw : W.heap.size ≤ wr.heap.size := HBW.out.size
      have hxl : X.length ≤ 64 := by rw [HXL.out]; omega
      have hyl : Y.length ≤ 64 := by rw [HYL.out]; omega
      clear hf hf' hnx hny hk hkn HXG HYG HXL HYL
      go_wp2_with fail
      refine (fas_any wr 0 s xa xc X HX.out (by omega) HS.out _ HR0.out).mono ?_
      rintro e w2 ⟨v2, rfl, h2, hb2'⟩
      obtain ⟨a2, c2, rfl, -⟩ := SlAt.of_owns h2
      have HB2 : Hid (Below wr.heap.size wr w2) := hb2'
      clear h2 hb2'
      go_wp2_with fail
      refine (fas_any w2 1 s xa xc X (HX.out.mono HB2.out) (by omega) HS.out _ HR1.out).mono ?_
      rintro e w3 ⟨v3, rfl, h3, hb3⟩
      obtain ⟨a3, c3, rfl, -⟩ := SlAt.of_owns h3
      have HB3 : Hid (Below wr.heap.size wr w3) := HB2.out.trans (hb3.mono HB2.out.size)
      clear h3 hb3
      go_wp2_with fail
      refine (fenc_any w3 t ya yc Y (HY.out.mono HB3.out) (by omega) HT.out _ HR2.out).mono ?_
      rintro e w4 ⟨v4, rfl, h4, hb4⟩
      obtain ⟨a4, c4, rfl, -⟩ := SlAt.of_owns h4
      have HB4 : Hid (Below W.heap.size W w4) := HBW.out.trans ((HB3.out.trans (hb4.mono HB3.out.size)).mono hsw)
      have hs4 : W.heap.size ≤ w4.heap.size := HB4.out.size
      clear h4 hb4
      go_wp2_with fail
      refine (wakes8_any _).mono ?_
      rintro e w5 ⟨rfl, hb5⟩
      have HB5 : Hid (Below W.heap.size W w5) := HB4.out.trans (hb5.mono hs4)
      clear hb5
      go_wp2
      go_ret
      exact ⟨rfl, HB5.out⟩

end Go.Proofs.Ythkfaackkcdcoaa
