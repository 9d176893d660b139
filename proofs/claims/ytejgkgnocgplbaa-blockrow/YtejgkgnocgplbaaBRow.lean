/- BlockRow: the walk of the law, over the bundle of contracts. -/
import Derived.Test.YtejgkgnocgplbaaPart09
namespace Go.Proofs.Ytejgkgnocgplbaa
set_option linter.unusedVariables false
set_option linter.unusedSimpArgs false
open Go.RowKit Dg Cr

set_option maxRecDepth 100000 in
set_option maxHeartbeats 8000000 in
theorem brow_any {Co : World → Nat → Nat → Nat → Nat → Nat → Prop} (C : Blk Co) (CP : PackC Co) (W : World) (a : Option Addr) (len cap : Nat) (n : Int) (A : Nat → Option Addr) (L K : Nat → Nat) (Z : Nat → List Int) (hlen : len ≤ maxLen) (hr : RowsIAt W a len A L K Z) (hn : I64 n) :
    Calls Try.prog 3 #[.slice a len cap, .int .i64 n] W fun e W' => e = .returned (.bool true) ∧ Below W.heap.size W W' := by
  unfold maxLen at hlen
  have HROWS := hid_of hr
  have HNI := hid_of hn
  obtain ⟨N, hN⟩ : ∃ N : Nat, n % 65 = (N : Int) := ⟨(n % 65).toNat, by omega⟩
  have HN := hid_of hN
  have hN64 : N ≤ 64 := by omega
  clear hr hN hn
  go_enter Try.func3, Try.ntmps3
  go_wp2_with fail
  go_loopw [5, 6] (fun vx vi wr => ∃ (i : Nat) (X : List Int) (xa : Option Addr) (xc : Nat), i ≤ 2 ∧ vx = .slice xa X.length xc ∧ vi = .int .i64 (i : Int) ∧ X.length ≤ 200 * i ∧ Hid (allS X) ∧ Hid (OwnInts wr W.heap.size (.slice xa X.length xc) X) ∧ Hid (Below W.heap.size W wr)) (fun _ vi _ => 2 - (intOf vi).toNat)
  case atStart => exact ⟨0, [], none, 0, Nat.zero_le _, rfl, rfl, by simp, fun x hx => by simp at hx, OwnInts.nil _ _, Below.refl _ _⟩
  case round =>
    obtain ⟨i, X, xa, xc, hi2, rfl, rfl, hXl, hXS, hXO, hbr⟩ := hrel
    have hsr : W.heap.size ≤ wr.heap.size := hbr.out.size
    rcases (by omega : (i < len ∧ i < 2) ∨ ¬ i < len ∨ (i < len ∧ ¬ i < 2)) with ⟨hil, hi⟩ | hend
    · obtain ⟨rb, ro, rfl, hrb, hrc, hrow⟩ := HROWS.out i hil
      obtain ⟨l, hll, hI, hat, hle, hm, hnone, hblk⟩ := hrow.ints
      have hrcr : wr.cell? ⟨rb, ro + i, none⟩ = some (.slice (A i) (L i) (K i)) := (hbr.out.cell (p := ⟨rb, ro + i, none⟩) hrb).trans hrc
      rw [← hll] at hrcr
      have HIN := hid_of (hat.mono hbr.out)
      have HI := hid_of hI
      have HM : Hid (l.length ≤ maxLen) := by rw [hll]; exact Nat.le_trans hle hm
      have HIN0 := hid_of hat
      clear hll hI hat hle hm hnone hblk hrow hrc
      generalize A i = la at *
      generalize K i = lk at *
      go_wp2_with fail
      refine (tone_any wr la lk l n _ _ N HIN.out HM.out HI.out HNI.out (wrap64_mem _) ⟨by omega, by omega⟩ HN.out).mono ?_
      rintro e w2 ⟨v2, ys, rfl, hv2, hyl, hyb, hb2⟩
      obtain ⟨ya, yc, rfl, hny, -, -⟩ := hv2.ns
      have HNY := hid_of hny
      have HYS : Hid (allS ys) := fun y hy => by have := hyb y hy; unfold isS; omega
      have hyl64 : ys.length ≤ 64 := by omega
      have HXO2 := hid_of (hXO.out.mono hb2)
      have HB2 : Hid (Below W.heap.size W w2) := hbr.out.trans (hb2.mono hsr)
      have hs2 : W.heap.size ≤ w2.heap.size := HB2.out.size
      have HLT : Hid (∀ k, (Value.slice xa X.length xc).ownBlock = some k → W.heap.size ≤ k) := fun k hk => (World.ownsRow.lt hXO.out k hk).1
      clear hv2 hny hyb hyl hb2 HIN
      go_wp2_with (at_builtin; go_must (refine wpList_append_ints w2 rfl (.tmp 26) (.tmp 37) rfl W.heap.size _ X rfl HXO2.out ya yc ys rfl HNY.out (by omega) hs2 ?_))
      intro v3 w3 g1 g2 g3
      obtain ⟨X3, hX3⟩ : ∃ X3, X3 = X ++ ys := ⟨_, rfl⟩
      rw [← hX3] at g1
      obtain ⟨xa3, xc3, rfl, -, -, -⟩ := g1.out.ns
      have HX3S : Hid (allS X3) := by rw [hX3]; exact allS_app hXS.out HYS.out
      have hX3l : X3.length ≤ 200 * i + 64 := by rw [hX3]; simp; omega
      have HB3 : Hid (Below W.heap.size W w3) := g2.out.below_of HB2.out (fun k hk => HLT.out k hk) hs2
      have hs3 : W.heap.size ≤ w3.heap.size := HB3.out.size
      have HIN3 := hid_of (HIN0.out.mono HB3.out)
      have hrc3 : w3.cell? ⟨rb, ro + i, none⟩ = some (.slice la l.length lk) := by
        have h1 := HB3.out.cell (p := ⟨rb, ro + i, none⟩) hrb
        have h2 := hbr.out.cell (p := ⟨rb, ro + i, none⟩) hrb
        rw [h1, ← h2]
        exact hrcr
      clear g2 g3 hX3 HXO2 HNY HB2 hrcr hXO hbr hXS
      go_wp2_with fail
      refine (samples_any w3 la lk 50 l false HIN3.out HM.out HI.out (by decide)).mono ?_
      rintro e w4 ⟨v4, zs, rfl, hv4, hzl, -, hzs, hb4⟩
      obtain ⟨za, zc, rfl, hnz, -, -⟩ := hv4.ns
      have HNZ := hid_of hnz
      have HZS := hid_of (hzs rfl)
      have hzl50 : zs.length ≤ 50 := by omega
      have HXO4 := hid_of (g1.out.mono hb4)
      have HB4 : Hid (Below W.heap.size W w4) := HB3.out.trans (hb4.mono hs3)
      have hs4 : W.heap.size ≤ w4.heap.size := HB4.out.size
      have HLT3 : Hid (∀ k, (Value.slice xa3 X3.length xc3).ownBlock = some k → W.heap.size ≤ k) := fun k hk => (World.ownsRow.lt g1.out k hk).1
      clear hv4 hnz hzs hzl hb4 HIN3 g1
      go_wp2_with (at_builtin; go_must (refine wpList_append_ints w4 rfl (.tmp 39) (.tmp 44) rfl W.heap.size _ X3 rfl HXO4.out za zc zs rfl HNZ.out (by omega) hs4 ?_))
      intro v5 w5 g1 g2 g3
      obtain ⟨X5, hX5⟩ : ∃ X5, X5 = X3 ++ zs := ⟨_, rfl⟩
      rw [← hX5] at g1
      obtain ⟨xa5, xc5, rfl, -, -, -⟩ := g1.out.ns
      have HX5S : Hid (allS X5) := by rw [hX5]; exact allS_app HX3S.out HZS.out
      have hX5l : X5.length ≤ 200 * (i + 1) := by rw [hX5]; simp; omega
      have HB5 : Hid (Below W.heap.size W w5) := g2.out.below_of HB4.out (fun k hk => HLT3.out k hk) hs4
      clear g2 g3 hX5 HXO4 HNZ HB4
      go_wp2_with fail
      exact ⟨⟨i + 1, X5, xa5, xc5, by omega, rfl, by go_num, hX5l, HX5S, g1, HB5⟩, by (simp [intOf]) <;> omega⟩
    · have hX400 : X.length ≤ 400 := by omega
      have HNX := hid_of (own_ns hXO.out)
      have HXLT := hid_of (own_lt hXO.out)
      obtain ⟨k, hk⟩ : ∃ k, k = (blocksOf X).length := ⟨_, rfl⟩
      have HK := hid_of hk
      have hk400 : k ≤ 400 := by rw [hk]; have := blocksOf_len X; omega
      have hkk : ((k : Int) != (k : Int)) = false := by simp
      clear hk
      rcases hend with hc | ⟨hc, hc'⟩
      all_goals
        go_wp2_with fail
        refine (C.newB wr).mono ?_
        rintro e w2 ⟨b, top, rfl, hco2, hb2⟩
        have HCO2 := hid_of hco2
        have HN2 := hid_of (HNX.out.mono hb2)
        have HB2 : Hid (Below W.heap.size W w2) := hbr.out.trans (hb2.mono hsr)
        have hs2 : W.heap.size ≤ w2.heap.size := HB2.out.size
        have htop2 : top ≤ w2.heap.size := (C.lt hco2).2.2
        clear hco2 hb2 HNX hbr hXO
        generalize wr.heap.size = B0 at *
        go_wp2_with fail
        refine (C.allB w2 b _ top 0 0 xa xc X k HCO2.out HN2.out (fun _ y hy hf => by have h1 := HXLT.out y hy; have h2 := hf.1; omega) (by omega) (by decide) hXS.out HK.out).mono ?_
        rintro e w3 ⟨va, ca, vb, cb, rfl, hrows, hms, hco3, hk3⟩
        have HROW3 := hid_of hrows
        have HMS3 := hid_of hms
        have HCO3 : Hid (Co w3 b B0 top k 0) := by have h1 := hco3; rw [Nat.zero_add] at h1; exact h1
        have HN3 := hid_of (HN2.out.kept hk3 (fun _ y hy hf => by have h1 := HXLT.out y hy; have h2 := hf.1; omega))
        have HB3 := hid_of (co_below HB2.out hk3 hsr)
        have hs3 : W.heap.size ≤ w3.heap.size := HB3.out.size
        clear hrows hms hco3 hk3 HCO2 HN2 HB2
        go_wp2_with fail
        go_loopw [11, 68] (fun vr vi ws => ∃ (j : Nat) (R : List Int) (ra : Option Addr) (rc : Nat), j ≤ k ∧ vr = .slice ra R.length rc ∧ vi = .int .i64 (j : Int) ∧ R.length ≤ 400 ∧ Hid (blocksOf R = (blocksOf X).drop j) ∧ Hid (allS R) ∧ Hid (Ns ws ra rc R) ∧ Hid (∀ y, ra = some y → y.block < B0) ∧ Hid (Co ws b B0 top (k + j) 0) ∧ Hid (RowsB ws w2.heap.size va ((blocksOf X).map (·.1))) ∧ Hid (OwnInts ws w2.heap.size (.slice vb k cb) ((blocksOf X).map fun p => ((p.2 : Nat) : Int))) ∧ Hid (Below W.heap.size W ws)) (fun _ vi _ => k - (intOf vi).toNat)
        case atStart => exact ⟨0, X, xa, xc, Nat.zero_le _, rfl, rfl, hX400, by show _ = _; simp, hXS.out, HN3.out, HXLT.out, HCO3.out, HROW3.out, HMS3.out, HB3.out⟩
        case round =>
          obtain ⟨j, R, ra, rc, hjk, rfl, rfl, hRl, hbl, hRS, hRN, hRLT, hco, hrows, hms, hbw⟩ := hrel
          by_cases hj : j < k
          · obtain ⟨hR1, hget, hnext⟩ := blocksOf_step hRS.out hbl.out (by rw [← HK.out]; exact hj)
            obtain ⟨P, hP⟩ : ∃ P, P = packL R := ⟨_, rfl⟩
            obtain ⟨q, hq⟩ : ∃ q, q = manyN R := ⟨_, rfl⟩
            rw [← hP, ← hq] at hget
            rw [← hq] at hnext
            have HNEXT := hid_of hnext
            have HR : Hid ((P, q, 0) = packOut R) := by show _ = _; unfold packOut; rw [if_neg (by omega), if_pos hRS.out, hP, hq]
            have hqR : q ≤ R.length := by rw [hq]; exact (manyN_le R).1
            have hPl : P.length ≤ 128 := by rw [hP, packL_len hRS.out hR1]; exact Nat.le_refl _
            obtain ⟨bb, bo, g, gc, rfl, hbb, hcell, hown⟩ := hrows.out j P (by rw [List.getElem?_map, hget]; rfl)
            obtain ⟨mb, mo, rfl, hmc⟩ := hms.out.at j (q : Int) (by rw [List.getElem?_map, hget]; rfl)
            have hbbl : bb < wr.heap.size := World.block_lt_of_cell? _ _ hcell
            have hmbl : mb < wr.heap.size := World.block_lt_of_cell? _ _ hmc
            have HCELL := hid_of hcell
            have HMC := hid_of hmc
            have HOWN := hid_of hown
            have HBB : Hid (¬ InCo B0 top bb) := fun hf => by have h1 := hf.2; omega
            have HMB : Hid (¬ InCo B0 top mb) := far_own (base := B0) (top := top) hms.out htop2 ⟨mb, mo, none⟩ rfl
            have HFR : Hid (R ≠ [] → ∀ y, ra = some y → ¬ InCo B0 top y.block) := fun _ y hy hf => by have h1 := hRLT.out y hy; have h2 := hf.1; omega
            have hqq : ((q : Int) != (q : Int)) = false := by simp
            obtain ⟨R', hR'⟩ : ∃ R', R' = R.drop q := ⟨_, rfl⟩
            obtain ⟨ra', hra'⟩ : ∃ ra', ra' = lowI ra rc q := ⟨_, rfl⟩
            obtain ⟨rc', hrc'⟩ : ∃ rc', rc' = rc - q := ⟨_, rfl⟩
            have hsl : ∀ Wx : World, (Instr.sliceAt 23 (.slice ra R.length rc) (some (.int .i64 (q : Int))) none none).run Try.prog Wx = .ok (.slice ra' R'.length rc') Wx := fun Wx => by
              rw [slice_ints_lo ra R.length rc q hqR Wx, hra', hrc', hR', List.length_drop]
            have HRL' : Hid (∀ y, ra' = some y → y.block < B0) := by rw [hra']; exact lowI_block hRLT.out
            have HRN' : Hid (∀ wx, Ns wx ra rc R → Ns wx ra' rc' R') := fun wx h => by rw [hra', hrc', hR']; exact h.rest q hqR
            have HRS' : Hid (allS R') := by rw [hR']; exact allS_drop hRS.out q
            have HBL' : Hid (blocksOf R' = (blocksOf X).drop (j + 1)) := by rw [hR']; exact HNEXT.out
            have hRl' : R'.length ≤ 400 := by rw [hR', List.length_drop]; omega
            clear hget hnext HNEXT hP hq hcell hmc hown hR' hra' hrc' hbl
            go_wp2_with fail
            refine (CP wr b _ top _ 0 ra rc R _ hco.out hRN.out HFR.out (by omega) (by omega) HR.out).mono ?_
            rintro e w5 ⟨v5, rfl, h5, hco5, hk5⟩
            have HS5 := hid_of (SlAt.of_owns h5)
            have HCO5 : Hid (Co w5 b B0 top (k + (j + 1)) 0) := hco5
            have hc5 : w5.cell? ⟨bb, bo + j, none⟩ = some (.slice (some ⟨g, 0, none⟩) P.length gc) := (hk5.cell hbbl HBB.out).trans HCELL.out
            have hm5 : w5.cell? ⟨mb, mo + j, none⟩ = some (.int .i64 (q : Int)) := (hk5.cell hmbl HMB.out).trans HMC.out
            have HP5 : Hid (SlAt w5 (.slice (some ⟨g, 0, none⟩) P.length gc) P) := SlAt.of_owns (own_co HOWN.out hk5 htop2)
            have HROW5 := hid_of (hrows.out.kept hk5 (fun i hi => .inl (by have h1 := hi.2; omega)))
            have HMS5 := hid_of (own_co hms.out hk5 htop2)
            have HRN5 := hid_of (HRN'.out w5 (hRN.out.kept hk5 HFR.out))
            have HB5 := hid_of (co_below hbw.out hk5 hsr)
            have hs5 : W.heap.size ≤ w5.heap.size := HB5.out.size
            clear h5 hco5 hk5 hco hrows hms hbw hRN HOWN HCELL HMC
            go_wp2_with fail
            refine (same_any w5 v5 _ P HS5.out HP5.out (by omega)).mono ?_
            rintro e w6 ⟨rfl, n6, rfl⟩
            have HCO6 := hid_of (C.draws HCO5.out n6)
            have HB6 : Hid (Below W.heap.size W (w5.drewN n6)) := below_drewN HB5.out n6
            go_wp2_with fail
            exact ⟨⟨j + 1, R', ra', rc', by omega, rfl, by go_num, hRl', HBL', HRS', HRN5.out.drewN n6, HRL', HCO6, HROW5, HMS5, HB6⟩, by (simp [intOf]) <;> omega⟩
          · have e : j = k := by omega
            have hR0 : R.length = 0 := by
              refine blocksOf_end hRS.out ?_
              rw [hbl.out, e, HK.out]
              exact List.drop_length
            have hRb : ((R.length : Int) == 0) = true := beq_iff_eq.2 (by omega)
            have hsw : W.heap.size ≤ wr.heap.size := hbw.out.size
            subst e
            clear hR0
            go_wp2_with fail
            refine (wakes9_any C _).mono ?_
            rintro e w6 ⟨rfl, hb6⟩
            have HB6 : Hid (Below W.heap.size W w6) := hbw.out.trans (hb6.mono hsw)
            clear hb6
            go_wp2
            go_ret
            exact ⟨rfl, HB6.out⟩

end Go.Proofs.Ytejgkgnocgplbaa
