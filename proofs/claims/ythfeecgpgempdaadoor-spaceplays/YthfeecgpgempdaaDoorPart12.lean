/- The texts SPlays, SgPlW, one behind the other. -/
import Derived.Test.YthfeecgpgempdaaDoorPart11
import Derived.Test.YthfeecgpgempdaaDoorPart07

/- SpacePlays over the bundle. -/
namespace Go.Proofs.YthfeecgpgempdaaDoor
set_option linter.unusedVariables false
set_option linter.unusedSimpArgs false
open Go.RowKit Dg

/-- Two that were just made, one behind the other. -/
theorem sq_made {Si : SpP} {Ok : World → Prop} (S : Spc Si Ok) {W w3 w4 w5 : World} {b r : Nat} {F G : Nat → Prop} {s t : Sd} (hok : Ok W) (hk : Kept (fun k => W.heap.size ≤ k) W w3)
    (h1 : Si w4 b F s) (hF : ∀ k, F k → w3.heap.size ≤ k) (hb4 : Below w3.heap.size w3 w4) (h2 : Rp w5 r G t) (hG : ∀ k, G k → w4.heap.size ≤ k) (hb5 : Below w4.heap.size w4 w5) : Sq Si Ok W (fun k => k < w3.heap.size) w5 b r s t := by
  have a1 := S.mem.lt h1
  have k4 : Kept (fun k => W.heap.size ≤ k) w3 w4 := ⟨hb4.os, hb4.tape, hb4.output, hb4.size, fun k hkk _ => hb4.block k hkk⟩
  have k5 : Kept (fun k => w4.heap.size ≤ k) w4 w5 := ⟨hb5.os, hb5.tape, hb5.output, hb5.size, fun k hkk _ => hb5.block k hkk⟩
  have z3 := hk.size
  have z4 := hb4.size
  have z5 := hb5.size
  refine ⟨hok, (hk.trans k4).trans (k5.mono fun k _ e => by omega), F, G, S.mem.keep h1 k5 (fun k e e2 => by have := a1 k e; omega), h2, fun k e f => by have := a1 k e; have := hG k f; omega, fun k e => ?_⟩
  have hlt : k < w3.heap.size := by
    rcases e with e | e
    · omega
    · exact e
  exact ⟨⟨fun f => by have := hF k f; omega, fun f => by have := hG k f; omega⟩, by omega⟩
theorem below_of_kept {w w' : World} (h : Kept (fun k => w.heap.size ≤ k) w w') : Below w.heap.size w w' := ⟨h.os, h.tape, h.output, h.size, fun k hk => h.block k hk (by omega)⟩
set_option maxRecDepth 100000 in
set_option maxHeartbeats 16000000 in
theorem splays_any {Si : SpP} {Ok : World → Prop} (S : Spc Si Ok) (NN : SpNewNo) (SH : SpShare Si Ok) (KE : SpKeep Si Ok) (FR : SpFree Si Ok) (US : SpUsed Si Ok) (OF : SpOf Si Ok) (WA : SpWaits Si Ok) (CL : SpClone Si Ok) (W : World) (hok : Ok W) (n0 f0 : Int) (hn : I64 n0) (hf : I64 f0)
    (a1 : Option Addr) (len1 cap1 : Nat) (L1 : List Act3) (hL1 : L1.length = len1) (hle1 : len1 ≤ 9223372036854775807) (hA1 : Acts3 W W.heap.size a1 L1)
    (a2 : Option Addr) (len2 cap2 : Nat) (L2 : List Act3) (hL2 : L2.length = len2) (hle2 : len2 ≤ 9223372036854775807) (hA2 : Acts3 W W.heap.size a2 L2) :
    Calls Tryd.prog 5 #[.int .i64 n0, .int .i64 f0, .slice a1 len1 cap1, .slice a2 len2 cap2] W fun e W' => e = .returned (.bool true) ∧ Below W.heap.size W W' := by
  obtain ⟨hn1, hn2⟩ := hn
  obtain ⟨hf1, hf2⟩ := hf
  have HA1 := hid_of hA1
  have HA2 := hid_of hA2
  have HL1 := hid_of hL1
  have HL2 := hid_of hL2
  have HOK := hid_of hok
  clear hA1 hA2 hL1 hL2 hok
  go_enter Tryd.func5, Tryd.ntmps5
  go_upto_region 1 with fail
  go_cut [20] from 15 (fun v wx => ∃ B : Bool, v = .bool B ∧ Hid (B = decide (20 < n0 ∧ n0 ≤ 4096)) ∧ wx = W)
  case first =>
    by_cases h1 : 20 < n0
    · have hb1 : decide (20 < n0) = true := decide_eq_true h1
      by_cases h2 : n0 ≤ 4096
      · have hb2 : decide (n0 ≤ 4096) = true := decide_eq_true h2
        go_wp2_with fail
        go_meet
        exact ⟨true, rfl, (decide_eq_true ⟨h1, h2⟩).symm, rfl⟩
      · have hb2 : decide (n0 ≤ 4096) = false := decide_eq_false h2
        go_wp2_with fail
        go_meet
        exact ⟨false, rfl, (decide_eq_false (by omega)).symm, rfl⟩
    · have hb1 : decide (20 < n0) = false := decide_eq_false h1
      go_wp2_with fail
      go_meet
      exact ⟨false, rfl, (decide_eq_false (by omega)).symm, rfl⟩
  case rest =>
  obtain ⟨B, rfl, HB, rfl⟩ := hcut
  go_upto_if 20 with fail
  go_cut [0] from 21 (fun v wx => ∃ z : Int, v = .int .i64 z ∧ -9223372036854775808 ≤ z ∧ z ≤ 9223372036854775807 ∧ wx = wc)
  case first =>
    rcases B with _ | _
    · go_wp2_with fail
      go_meet
      exact ⟨n0, rfl, hn1, hn2, rfl⟩
    · obtain ⟨z, hz⟩ : ∃ z, z = n0 % 20 := ⟨_, rfl⟩
      have hzz : 0 ≤ z ∧ z < 20 := by omega
      have HW : Hid (Calls Tryd.prog 8 #[.int .i64 n0, .int .i64 20] wc fun e w' => e = .returned (.int .i64 z) ∧ wc = w') := by rw [hz]; exact within_any n0 20 wc hn1 hn2 (by decide) (by decide)
      clear hz
      go_wp2_with fail
      refine HW.out.mono ?_
      rintro e w2 ⟨rfl, rfl⟩
      go_wp2_with fail
      go_meet
      exact ⟨z, rfl, by omega, by omega, rfl⟩
  case rest =>
  obtain ⟨z, rfl, hz3, hz4, rfl⟩ := hcut
  clear HB hn1 hn2
  go_upto_region 3 with fail
  go_cut [29] from 23 (fun v wx => ∃ B : Bool, v = .bool B ∧ wx = wc)
  case first =>
    by_cases h1 : 5 < f0
    · have hb1 : decide (5 < f0) = true := decide_eq_true h1
      by_cases h2 : f0 ≤ z
      · have hb2 : decide (f0 ≤ z) = true := decide_eq_true h2
        go_wp2_with fail
        go_meet
        exact ⟨true, rfl, rfl⟩
      · have hb2 : decide (f0 ≤ z) = false := decide_eq_false h2
        go_wp2_with fail
        go_meet
        exact ⟨false, rfl, rfl⟩
    · have hb1 : decide (5 < f0) = false := decide_eq_false h1
      go_wp2_with fail
      go_meet
      exact ⟨false, rfl, rfl⟩
  case rest =>
  obtain ⟨B2, rfl, rfl⟩ := hcut
  go_upto_if 29 with fail
  go_cut [1] from 30 (fun v wx => ∃ y : Int, v = .int .i64 y ∧ -9223372036854775808 ≤ y ∧ y ≤ 9223372036854775807 ∧ wx = wc)
  case first =>
    rcases B2 with _ | _
    · go_wp2_with fail
      go_meet
      exact ⟨f0, rfl, hf1, hf2, rfl⟩
    · obtain ⟨y, hy⟩ : ∃ y, y = f0 % 5 := ⟨_, rfl⟩
      have hyy : 0 ≤ y ∧ y < 5 := by omega
      have HW : Hid (Calls Tryd.prog 8 #[.int .i64 f0, .int .i64 5] wc fun e w' => e = .returned (.int .i64 y) ∧ wc = w') := by rw [hy]; exact within_any f0 5 wc hf1 hf2 (by decide) (by decide)
      clear hy
      go_wp2_with fail
      refine HW.out.mono ?_
      rintro e w2 ⟨rfl, rfl⟩
      go_wp2_with fail
      go_meet
      exact ⟨y, rfl, by omega, by omega, rfl⟩
  case rest =>
  obtain ⟨y, rfl, hy3, hy4, rfl⟩ := hcut
  clear hf1 hf2
  by_cases hgood : 1 ≤ z ∧ z ≤ 4096 ∧ 0 ≤ y ∧ y ≤ z
  · obtain ⟨g1, g2, g3, g4⟩ := hgood
    obtain ⟨N, rfl⟩ : ∃ N : Nat, z = (N : Int) := ⟨z.toNat, by omega⟩
    obtain ⟨F, rfl⟩ : ∃ F : Nat, y = (F : Int) := ⟨y.toNat, by omega⟩
    have HN := hid_of (S.newB wc N F HOK.out (by omega) (by omega) (by omega))
    have HR := hid_of (fun w1 => rp_new w1 N F (by omega) (by omega) (by omega))
    go_wp2_with fail
    refine HN.out.mono ?_
    rintro e w1 ⟨b, FF, rfl, hs1, hF1, hb1⟩
    have HS1 := hid_of hs1
    have HF1 := hid_of hF1
    have HB1 := hid_of hb1
    clear hs1 hF1 hb1 HN
    go_wp2_with fail
    refine (HR.out w1).mono ?_
    rintro e w2 ⟨r, GG, rfl, hs2, hG2, hb2⟩
    have HP2 := hid_of (sq_made S HOK.out (Kept.refl _ _) HS1.out HF1.out HB1.out hs2 hG2 hb2)
    have HK2 : Hid (Kept (fun k => wc.heap.size ≤ k) wc w2) := HP2.out.kept
    clear hs2 hG2 hb2 HS1 HF1 HB1 HR
    have HPL := hid_of (play13_any S SH KE FR US OF WA wc (fun k => k < wc.heap.size) w2 b r (newSd N F) HP2.out a1 len1 cap1 L1 HL1.out hle1 (HA1.out.kept (Nat.le_refl _) HK2.out (fun k hk e => by omega)) 0 (by decide) (by rw [show sumC (newSd N F).C = 0 from sumC_nought N]; exact Nat.le_refl _))
    go_wp2_with fail
    refine HPL.out.mono ?_
    rintro e w3 ⟨rfl, ⟨d, hs3, hp3⟩, -⟩
    have HP3 := hid_of hp3
    have HS3 := hid_of hs3
    have HK3 : Hid (Kept (fun k => wc.heap.size ≤ k) wc w3) := hp3.kept
    clear hp3 hs3 HPL HK2 HP2
    obtain ⟨F3, G3, f1, f2, -, -⟩ := HP3.out.at_
    have HCL := hid_of (CL w3 b F3 d (HP3.out.okw S) f1 (by have := HS3.out; omega))
    clear f1 f2
    go_wp2_with fail
    refine HCL.out.mono ?_
    rintro e w4 ⟨t, F4, rfl, hs4, hF4, hb4⟩
    have HS4 := hid_of hs4
    have HF4 := hid_of hF4
    have HB4 := hid_of hb4
    have HCO : Hid (Calls Tryd.prog 25 #[.pointer (some ⟨r, 0, none⟩)] w4 fun e w' => ∃ r' G', e = .returned (.pointer (some ⟨r', 0, none⟩)) ∧ Rp w' r' G' d ∧ (∀ k, G' k → w4.heap.size ≤ k) ∧ Below w4.heap.size w4 w') := by
      obtain ⟨F4', G4, -, f2, -, -⟩ := (HP3.out.newer S hb4).at_
      exact rp_copy w4 r G4 d f2
    clear hs4 hF4 hb4 HCL
    go_wp2_with fail
    refine HCO.out.mono ?_
    rintro e w5 ⟨u, G5, rfl, hs5, hG5, hb5⟩
    have HP5 := hid_of (sq_made S HOK.out HK3.out HS4.out HF4.out HB4.out hs5 hG5 hb5)
    have HK5 : Hid (Kept (fun k => wc.heap.size ≤ k) wc w5) := HP5.out.kept
    have HB5 : Hid (Below w3.heap.size w3 w5) := HB4.out.trans (hb5.mono HB4.out.size)
    clear hs5 hG5 hb5 HS4 HF4 HB4 HCO
    have HPL := hid_of (play13_any S SH KE FR US OF WA wc (fun k => k < w3.heap.size) w5 t u d HP5.out a2 len2 cap2 L2 HL2.out hle2 (HA2.out.kept (Nat.le_refl _) HK5.out (fun k hk e => by omega)) 320 (by decide) (by have := HS3.out; omega))
    go_wp2_with fail
    refine HPL.out.mono ?_
    rintro e w6 ⟨rfl, -, hk6⟩
    have HB6 : Hid (Below w3.heap.size w3 w6) := below_of_kept ((below_keptS HB5.out).trans (hk6.mono (fun k _ e => Nat.le_of_not_lt fun e2 => e (.inr e2))))
    have HP6 := hid_of (HP3.out.newer S HB6.out)
    have HK6 : Hid (Kept (fun k => wc.heap.size ≤ k) wc w6) := HP6.out.kept
    clear hk6 HPL HP5 HK5 HB5
    have HPL := hid_of (play13_any S SH KE FR US OF WA wc (fun k => k < wc.heap.size) w6 b r d HP6.out a1 len1 cap1 L1 HL1.out hle1 (HA1.out.kept (Nat.le_refl _) HK6.out (fun k hk e => by omega)) 320 (by decide) (by have := HS3.out; omega))
    go_wp2_with fail
    refine HPL.out.mono ?_
    rintro e w7 ⟨rfl, ⟨d7, -, hp7⟩, -⟩
    have HP7 := hid_of hp7
    clear hp7 HPL HP6 HK6 HB6
    go_wp2_with fail
    refine (wakes13_any S FR w7 (HP7.out.okw S)).mono ?_
    rintro e w8 ⟨rfl, hb8⟩
    have HK8 := hid_of (HP7.out.newer S hb8).kept
    clear hb8
    go_wp2_with fail
    go_ret
    exact ⟨rfl, below_of_kept HK8.out⟩
  · have hbad : z < 1 ∨ 4096 < z ∨ y < 0 ∨ z < y := by omega
    have HNO := hid_of (NN wc z y ⟨hz3, hz4⟩ ⟨hy3, hy4⟩ hbad)
    have HRN := hid_of (fun w1 => rsnew_no w1 z y ⟨hz3, hz4⟩ ⟨hy3, hy4⟩ hbad)
    clear hgood hbad
    go_wp2_with fail
    refine HNO.out.mono ?_
    rintro e w1 ⟨rfl, hb1⟩
    have HK1 := hid_of (below_keptS hb1)
    clear hb1
    go_wp2_with fail
    refine (HRN.out w1).mono ?_
    rintro e w2 ⟨rfl, rfl⟩
    have HWA := hid_of (wakes13_any S FR w1 (S.okK HOK.out HK1.out))
    go_wp2_with fail
    refine HWA.out.mono ?_
    rintro e w2 ⟨rfl, hb⟩
    have HK2 : Hid (Kept (fun k => wc.heap.size ≤ k) wc w2) := HK1.out.trans ((below_keptS hb).mono fun k _ e => Nat.le_trans HK1.out.size e)
    clear hb HWA
    go_wp2_with fail
    go_ret
    exact ⟨rfl, below_of_kept HK2.out⟩
/-- The same, in the order of the law's row. -/
theorem splays_over {Si : SpP} {Ok : World → Prop} (S : Spc Si Ok) (NN : SpNewNo) (SH : SpShare Si Ok) (KE : SpKeep Si Ok) (FR : SpFree Si Ok) (US : SpUsed Si Ok) (OF : SpOf Si Ok) (WA : SpWaits Si Ok) (CL : SpClone Si Ok) (W : World) (hok : Ok W) (n0 f0 : Int)
    (a1 : Option Addr) (len1 cap1 : Nat) (L1 : List Act3) (a2 : Option Addr) (len2 cap2 : Nat) (L2 : List Act3) (hn : I64 n0) (hf : I64 f0)
    (hle1 : len1 ≤ maxLen) (hL1 : L1.length = len1) (hA1 : Acts3 W W.heap.size a1 L1) (hle2 : len2 ≤ maxLen) (hL2 : L2.length = len2) (hA2 : Acts3 W W.heap.size a2 L2) :
    Calls Tryd.prog 5 #[.int .i64 n0, .int .i64 f0, .slice a1 len1 cap1, .slice a2 len2 cap2] W fun e W' => e = .returned (.bool true) ∧ Below W.heap.size W W' :=
  splays_any S NN SH KE FR US OF WA CL W hok n0 f0 hn hf a1 len1 cap1 L1 hL1 (by unfold maxLen at hle1; omega) hA1 a2 len2 cap2 L2 hL2 (by unfold maxLen at hle2; omega) hA2

end Go.Proofs.YthfeecgpgempdaaDoor

/- The walk of the law on any acts over the space that landed: the bundle put in. -/
namespace Go.Proofs.YthfeecgpgempdaaDoor

theorem splaysW_any : type_of% (splays_over spcW gnew_no spShareW spKeepW spFreeW spUsedW.used spOfW.of spWaitsW spCloneW) := splays_over spcW gnew_no spShareW spKeepW spFreeW spUsedW.used spOfW.of spWaitsW spCloneW

end Go.Proofs.YthfeecgpgempdaaDoor
