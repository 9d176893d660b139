/- RefsPlays over the bundle. -/
import Derived.Test.YtcbenfmffedioaaPart05
namespace Go.Proofs.Ytcbenfmffedioaa
set_option linter.unusedVariables false
set_option linter.unusedSimpArgs false
open Go.RowKit Dg

theorem zs12_nought (N : Nat) : zs12 (List.replicate N 0) = List.replicate N 0 := by unfold zs12; rw [List.map_replicate]; rfl
set_option maxRecDepth 100000 in
set_option maxHeartbeats 16000000 in
theorem rfplays_any {Ti : TbP} (R : Rfs Ti) (NN : RfNewNo) (OF : RfOf Ti) (OW : RfOwned Ti) (CL : RfClone Ti) (W : World) (n0 : Int) (hn : I64 n0)
    (a1 : Option Addr) (len1 cap1 : Nat) (L1 : List Act2) (hL1 : L1.length = len1) (hle1 : len1 ≤ 9223372036854775807) (hA1 : ActsR W W.heap.size a1 L1)
    (a2 : Option Addr) (len2 cap2 : Nat) (L2 : List Act2) (hL2 : L2.length = len2) (hle2 : len2 ≤ 9223372036854775807) (hA2 : ActsR W W.heap.size a2 L2) :
    Calls Try.prog 4 #[.int .i64 n0, .slice a1 len1 cap1, .slice a2 len2 cap2] W fun e W' => e = .returned (.bool true) ∧ Below W.heap.size W W' := by
  obtain ⟨i0, hi, hz0, hz1, hz2⟩ := info_parts Try.info3
  obtain ⟨hn1, hn2⟩ := hn
  have HA1 := hid_of hA1
  have HA2 := hid_of hA2
  have HL1 := hid_of hL1
  have HL2 := hid_of hL2
  clear hA1 hA2 hL1 hL2
  go_enter Try.func4, Try.ntmps4
  go_upto_region 1 with fail
  go_cut [16] from 11 (fun v wx => ∃ B : Bool, v = .bool B ∧ Hid (B = decide (20 < n0 ∧ n0 ≤ 4096)) ∧ wx = W)
  case first =>
    by_cases h1 : 20 < n0
    · have hb1 : decide (20 < n0) = true := decide_eq_true h1
      by_cases h2 : n0 ≤ 4096
      · have hb2 : decide (n0 ≤ 4096) = true := decide_eq_true h2
        go_wp2_with fail
        go_meet
        exact ⟨true, rfl, (decide_eq_true ⟨h1, h2⟩).symm, rfl⟩
      · have hb2 : decide (n0 ≤ 4096) = false := decide_eq_false h2
        go_wp2_with fail
        go_meet
        exact ⟨false, rfl, (decide_eq_false (by omega)).symm, rfl⟩
    · have hb1 : decide (20 < n0) = false := decide_eq_false h1
      go_wp2_with fail
      go_meet
      exact ⟨false, rfl, (decide_eq_false (by omega)).symm, rfl⟩
  case rest =>
  obtain ⟨B, rfl, HB, rfl⟩ := hcut
  go_upto_if 16 with fail
  go_cut [0] from 17 (fun v wx => ∃ z : Int, v = .int .i64 z ∧ ((1 ≤ z ∧ z ≤ 20) ∨ z < 1 ∨ 4096 < z) ∧ -9223372036854775808 ≤ z ∧ z ≤ 9223372036854775807 ∧ wx = wc)
  case first =>
    rcases B with _ | _
    · have h := of_decide_eq_false HB.out.symm
      go_wp2_with fail
      go_meet
      exact ⟨n0, rfl, by omega, hn1, hn2, rfl⟩
    · have h := of_decide_eq_true HB.out.symm
      obtain ⟨z, hz⟩ : ∃ z, z = n0 % 20 := ⟨_, rfl⟩
      have hzz : 0 ≤ z ∧ z < 20 := by omega
      have HW : Hid (Calls Try.prog 8 #[.int .i64 n0, .int .i64 20] wc fun e w' => e = .returned (.int .i64 z) ∧ wc = w') := by rw [hz]; exact within_any n0 20 wc hn1 hn2 (by decide) (by decide)
      clear hz h
      go_wp2_with fail
      refine HW.out.mono ?_
      rintro e w2 ⟨rfl, rfl⟩
      go_wp2_with fail
      go_meet
      exact ⟨z, rfl, by omega, by omega, by omega, rfl⟩
  case rest =>
    obtain ⟨z, rfl, hz, hz3, hz4, rfl⟩ := hcut
    rcases hz with ⟨hz5, hz6⟩ | hbad
    · obtain ⟨N, rfl⟩ : ∃ N : Nat, z = (N : Int) := ⟨z.toNat, by omega⟩
      have hb1 : decide ((N : Int) < 1) = false := decide_eq_false (by omega)
      have hb2 : decide (4096 < (N : Int)) = false := decide_eq_false (by omega)
      have hN20 : N ≤ 20 := by omega
      have hN1 : 1 ≤ N := by omega
      go_wp2_with fail
      refine (tb_new R wc N hN1 (by omega)).mono ?_
      rintro e w1 ⟨b, rfl, ht1, hb1⟩
      have HT1 := hid_of ht1
      have HB1 := hid_of hb1
      clear ht1 hb1
      go_wp2_with (at_make; go_must (refine wpList_make_full _ rfl _ _ 22 rfl w1.heap.size 3 i0 (.int .i64 0) 1 Try.underlying22 hi hz0 hz1 _ _ _ _ N rfl rfl rfl rfl (by rw [hz2]; omega) (by unfold maxLen; omega) (Nat.le_refl _) ?_))
      intro w2 hown hgr
      have HB2 : Hid (Below w1.heap.size w1 w2) := (Below.refl _ _).grown hgr (Nat.le_refl _) (fun k hk => by cases hk)
      have HO2 : Hid (OwnInts w2 w1.heap.size (.slice (some ⟨w1.heap.size, 0, none⟩) N N) (zs12 (List.replicate N 0))) := by
        show World.ownsRow _ _ _ _ _ _ _
        rw [zs12_nought]
        have e := madeI N
        rw [Nat.mul_one] at e
        rw [← e, List.length_replicate]; exact hown
      clear hown hgr
      obtain ⟨gr, hgr⟩ : ∃ g, g = w1.heap.size := ⟨_, rfl⟩
      have HPR : Hid (Pr Ti (fun k => k < wc.heap.size) w2 b gr N N (List.replicate N 0) (List.replicate N 0)) := by
        rw [hgr]
        refine ⟨HT1.out.keep R ⟨HB2.out.os, HB2.out.tape, HB2.out.output, HB2.out.size, fun k hk hf => HB2.out.block k hk⟩ (fun k e => ?_), HO2.out.base (Nat.zero_le _), fun e => ?_⟩
        · rcases e with e | e
          · exact .inl e
          · exact .inr ⟨by omega, by rw [e]; exact (World.ownsRow.lt HO2.out _ rfl).2⟩
        · have e1 : w1.heap.size < wc.heap.size := e
          have := HB1.out.size
          omega
      have HK2 : Hid (Kept (fun k => wc.heap.size ≤ k) wc w2) := kept_new (kept_new (Kept.refl _ _) HB1.out (Nat.le_refl _)) HB2.out HB1.out.size
      have hgr0 : wc.heap.size ≤ gr := by rw [hgr]; exact HB1.out.size
      rw [← hgr]
      clear hgr HT1 HO2 HB1 HB2
      have HPL := hid_of (play12_any R OF OW (fun k => k < wc.heap.size) w2 b gr N N _ HPR.out wc.heap.size HK2.out.size (fun k h => h) a1 len1 cap1 L1 HL1.out hle1 (HA1.out.kept (Nat.le_refl _) HK2.out (fun k hk e => by omega)) 0 (by decide) (by rw [show sumC (List.replicate N 0) = 0 from sumTo_nought N _]; exact Nat.le_refl _))
      go_wp2_with fail
      refine HPL.out.mono ?_
      rintro e w3 ⟨rfl, ⟨C3, hs3, hp3⟩, hk3⟩
      have HP3 := hid_of hp3
      have HS3 := hid_of hs3
      have HK3 : Hid (Kept (fun k => wc.heap.size ≤ k) wc w3) := HK2.out.trans (hk3.mono (fun k _ e => Nat.le_of_not_lt e))
      clear hp3 hs3 hk3 HPL HPR HK2
      go_wp2_with fail
      obtain ⟨F, f1, f2⟩ := HP3.out.tb
      have HCL := hid_of (CL w3 b F C3 f1)
      clear f1 f2
      refine HCL.out.mono ?_
      rintro e w4 ⟨u, F', rfl, hu1, hu2, hb4⟩
      have HTU : Hid (Tb Ti (fun k => k < w3.heap.size) w4 u C3) := ⟨F', hu1, fun k hk => ⟨fun f => by have := hu2 k f; omega, Nat.lt_of_lt_of_le hk hb4.size⟩⟩
      have HB4 := hid_of hb4
      have hlen3 : (zs12 C3).length = N := by have e := HP3.out.len; unfold zs12; rw [List.length_map]; exact e
      have HL3 := hid_of hlen3
      have HCP : Hid (Calls Try.prog 12 #[.slice (some ⟨gr, 0, none⟩) N N] w4 fun e w' => ∃ v, e = .returned v ∧ OwnInts w' w4.heap.size v (zs12 C3) ∧ Below w4.heap.size w4 w') := by
        have e := copyInt_any w4 (some ⟨gr, 0, none⟩) N (zs12 C3) (IntsAt.of_owns (show World.ownsRow _ _ _ _ _ _ _ from (HP3.out.newer R hb4).row)) (by omega) (.inr ⟨_, rfl⟩)
        rw [hlen3] at e
        exact e
      clear hu1 hu2 hb4 hlen3 HCL
      go_wp2_with fail
      refine HCP.out.mono ?_
      rintro e w5 ⟨v5, rfl, ho5, hb5⟩
      obtain ⟨a5, c5, hv5, -, hf5⟩ := ho5.slice
      rw [HL3.out] at hv5
      subst hv5
      rcases hf5 with ⟨-, e, -⟩ | ⟨g5, rfl, hg5, hg6⟩
      · exfalso
        have := HL3.out
        rw [e] at this
        simp at this
        omega
      have HPU : Hid (Pr Ti (fun k => k < w3.heap.size) w5 u g5 c5 N C3 C3) := by
        refine ⟨HTU.out.keep R ⟨hb5.os, hb5.tape, hb5.output, hb5.size, fun k hk hf => hb5.block k hk⟩ (fun k e => ?_), ho5.base (Nat.zero_le _), fun e => ?_⟩
        · rcases e with e | e
          · exact .inl e
          · exact .inr ⟨by omega, by rw [e]; exact hg6⟩
        · have e1 : g5 < w3.heap.size := e
          have := HB4.out.size
          omega
      have HW5 : Hid (Kept (fun k => w3.heap.size ≤ k) w3 w5) := kept_new (kept_new (Kept.refl _ _) HB4.out (Nat.le_refl _)) hb5 HB4.out.size
      have HK5 : Hid (Kept (fun k => wc.heap.size ≤ k) wc w5) := HK3.out.trans (HW5.out.mono (fun k _ e => Nat.le_trans HK3.out.size e))
      have hs35 : w3.heap.size ≤ w5.heap.size := HW5.out.size
      have HPL := hid_of (play12_any R OF OW (fun k => k < w3.heap.size) w5 u g5 c5 N C3 HPU.out wc.heap.size HK5.out.size (fun k h => Nat.lt_of_lt_of_le h HK3.out.size) a2 len2 cap2 L2 HL2.out hle2 (HA2.out.kept (Nat.le_refl _) HK5.out (fun k hk e => by omega)) 240 (by decide) (by have := HS3.out; omega))
      clear ho5 hb5 hg5 hg6 HCP HPU hs35
      go_wp2_with fail
      refine HPL.out.mono ?_
      rintro e w6 ⟨rfl, -, hk6⟩
      have HW6 : Hid (Kept (fun k => w3.heap.size ≤ k) w3 w6) := HW5.out.trans (hk6.mono (fun k _ e => Nat.le_of_not_lt e))
      have HP6 : Hid (Pr Ti (fun k => k < wc.heap.size) w6 b gr N N C3 C3) := HP3.out.newer R (kept_end HW6.out)
      have HK6 : Hid (Kept (fun k => wc.heap.size ≤ k) wc w6) := HK3.out.trans (HW6.out.mono (fun k _ e => Nat.le_trans HK3.out.size e))
      have HPL2 := hid_of (play12_any R OF OW (fun k => k < wc.heap.size) w6 b gr N N C3 HP6.out wc.heap.size HK6.out.size (fun k h => h) a1 len1 cap1 L1 HL1.out hle1 (HA1.out.kept (Nat.le_refl _) HK6.out (fun k hk e => by omega)) 240 (by decide) (by have := HS3.out; omega))
      clear hk6 HPL
      go_wp2_with fail
      refine HPL2.out.mono ?_
      rintro e w7 ⟨rfl, -, hk7⟩
      have HK7 : Hid (Kept (fun k => wc.heap.size ≤ k) wc w7) := HK6.out.trans (hk7.mono (fun k _ e => Nat.le_of_not_lt e))
      clear hk7 HPL2
      go_wp2_with fail
      refine (wakes12_any R w7).mono ?_
      rintro e w8 ⟨rfl, hb8⟩
      have HK8 := hid_of (kept_new HK7.out hb8 HK7.out.size)
      clear hb8
      go_wp2_with fail
      go_ret
      exact ⟨rfl, kept_end HK8.out⟩
    · have HNO := hid_of (NN wc z (by omega))
      have HWA := hid_of (wakes12_any R wc)
      rcases (by omega : z < 1 ∨ (1 ≤ z ∧ 4096 < z)) with hlo | ⟨hhi1, hhi2⟩
      · have hb1 : decide (z < 1) = true := decide_eq_true hlo
        go_wp2_with fail
        refine HNO.out.mono ?_
        rintro e w1 ⟨rfl, rfl⟩
        go_wp2_with fail
        refine HWA.out.mono ?_
        rintro e w2 ⟨rfl, hb⟩
        go_wp2_with fail
        go_ret
        exact ⟨rfl, hb⟩
      · have hb1 : decide (z < 1) = false := decide_eq_false (by omega)
        have hb2 : decide (4096 < z) = true := decide_eq_true hhi2
        go_wp2_with fail
        refine HNO.out.mono ?_
        rintro e w1 ⟨rfl, rfl⟩
        go_wp2_with fail
        refine HWA.out.mono ?_
        rintro e w2 ⟨rfl, hb⟩
        go_wp2_with fail
        go_ret
        exact ⟨rfl, hb⟩
/-- The same, in the order of the law's row. -/
theorem rfplays_over {Ti : TbP} (R : Rfs Ti) (NN : RfNewNo) (OF : RfOf Ti) (OW : RfOwned Ti) (CL : RfClone Ti) (W : World) (n0 : Int)
    (a1 : Option Addr) (len1 cap1 : Nat) (L1 : List Act2) (a2 : Option Addr) (len2 cap2 : Nat) (L2 : List Act2) (hn : I64 n0)
    (hle1 : len1 ≤ maxLen) (hL1 : L1.length = len1) (hA1 : ActsR W W.heap.size a1 L1) (hle2 : len2 ≤ maxLen) (hL2 : L2.length = len2) (hA2 : ActsR W W.heap.size a2 L2) :
    Calls Try.prog 4 #[.int .i64 n0, .slice a1 len1 cap1, .slice a2 len2 cap2] W fun e W' => e = .returned (.bool true) ∧ Below W.heap.size W W' :=
  rfplays_any R NN OF OW CL W n0 hn a1 len1 cap1 L1 hL1 (by unfold maxLen at hle1; omega) hA1 a2 len2 cap2 L2 hL2 (by unfold maxLen at hle2; omega) hA2

end Go.Proofs.Ytcbenfmffedioaa
