/- BlockAll: the walk of the law, over the bundle of contracts. -/
import Derived.Test.YtejgkgnocgplbaaGreatPart15
import Derived.Test.YtejgkgnocgplbaaGreatPart12
namespace Go.Proofs.YtejgkgnocgplbaaGreat
set_option linter.unusedVariables false
set_option linter.unusedSimpArgs false
open Go.RowKit Dg Cr

set_option maxRecDepth 100000 in
set_option maxHeartbeats 16000000 in
theorem ball_any {Co : World → Nat → Nat → Nat → Nat → Nat → Prop} (C : Blk Co) (CO : OpenC Co) (CC : CountC Co) (W : World) (a : Option Addr) (len cap : Nat) (n noise : Int) (A : Nat → Option Addr) (L K : Nat → Nat) (Z : Nat → List Int) (hlen : len ≤ maxLen) (hr : RowsIAt W a len A L K Z) (hn : I64 n) (hno : I64 noise) :
    Calls Tryz.prog 6 #[.slice a len cap, .int .i64 n, .int .i64 noise] W fun e W' => e = .returned (.bool true) ∧ Below W.heap.size W W' := by
  obtain ⟨i0, hi0, hz0, hz1, hz2⟩ := info_parts Tryz.info3
  unfold maxLen at hlen
  have HROWS := hid_of hr
  have HNI := hid_of hn
  have HNO := hid_of hno
  obtain ⟨N, hN⟩ : ∃ N : Nat, n % 65 = (N : Int) := ⟨(n % 65).toNat, by omega⟩
  have HN := hid_of hN
  have hN64 : N ≤ 64 := by omega
  clear hr hN hn hno
  go_enter Tryz.func6, Tryz.ntmps6
  go_wp2_with fail
  go_loopw [7, 8] (fun vx vi wr => ∃ (i : Nat) (X : List Int) (xa : Option Addr) (xc : Nat), i ≤ 3 ∧ vx = .slice xa X.length xc ∧ vi = .int .i64 (i : Int) ∧ X.length ≤ 100 * i ∧ Hid (allS X) ∧ Hid (OwnInts wr W.heap.size (.slice xa X.length xc) X) ∧ Hid (Below W.heap.size W wr)) (fun _ vi _ => 3 - (intOf vi).toNat)
  case atStart => exact ⟨0, [], none, 0, Nat.zero_le _, rfl, rfl, by simp, fun x hx => by simp at hx, OwnInts.nil _ _, Below.refl _ _⟩
  case round =>
    obtain ⟨i, X, xa, xc, hi3, rfl, rfl, hXl, hXS, hXO, hbr⟩ := hrel
    have hsr : W.heap.size ≤ wr.heap.size := hbr.out.size
    rcases (by omega : (i < len ∧ i < 3) ∨ ¬ i < len ∨ (i < len ∧ ¬ i < 3)) with ⟨hil, hi⟩ | hend
    · obtain ⟨rb, ro, rfl, hrb, hrc, hrow⟩ := HROWS.out i hil
      obtain ⟨l, hll, hI, hat, hle, hm, hnone, hblk⟩ := hrow.ints
      have hrcr : wr.cell? ⟨rb, ro + i, none⟩ = some (.slice (A i) (L i) (K i)) := (hbr.out.cell (p := ⟨rb, ro + i, none⟩) hrb).trans hrc
      rw [← hll] at hrcr
      have HIN := hid_of (hat.mono hbr.out)
      have HI := hid_of hI
      have HM : Hid (l.length ≤ maxLen) := by rw [hll]; exact Nat.le_trans hle hm
      clear hll hI hat hle hm hnone hblk hrow hrc
      generalize A i = la at *
      generalize K i = lk at *
      rcases (by omega : i = 0 ∨ i = 2 ∨ i = 1) with hpi | hpi | hpi
      rotate_left
      rotate_left
      · have hb1 : (Int.tmod (i : Int) 2 == 0) = false := by rw [hpi]; rfl
        have hb2 : ((i : Int) % 2 == 0) = false := by rw [hpi]; rfl
        clear hpi
        go_wp2_with fail
        refine (samples_any wr la lk 60 l false HIN.out HM.out HI.out (by decide)).mono ?_
        rintro e w2 ⟨v2, ys, rfl, hv2, hyl, -, hys, hb2'⟩
        obtain ⟨ya, yc, rfl, hny, -, -⟩ := hv2.ns
        have HNY := hid_of hny
        have HYS := hid_of (hys rfl)
        have hyl64 : ys.length ≤ 64 := by omega
        have HXO2 := hid_of (hXO.out.mono hb2')
        have HB2 : Hid (Below W.heap.size W w2) := hbr.out.trans (hb2'.mono hsr)
        have hs2 : W.heap.size ≤ w2.heap.size := HB2.out.size
        have HLT : Hid (∀ k, (Value.slice xa X.length xc).ownBlock = some k → W.heap.size ≤ k) := fun k hk => (World.ownsRow.lt hXO.out k hk).1
        clear hv2 hny hys hyl hb2' HIN
        go_wp2_with (at_builtin; go_must (refine wpList_append_ints w2 rfl (.tmp 48) (.tmp 53) rfl W.heap.size _ X rfl HXO2.out ya yc ys rfl HNY.out (by omega) hs2 ?_))
        intro v3 w3 g1 g2 g3
        obtain ⟨X3, hX3⟩ : ∃ X3, X3 = X ++ ys := ⟨_, rfl⟩
        rw [← hX3] at g1
        obtain ⟨xa3, xc3, rfl, -, -, -⟩ := g1.out.ns
        have HX3S : Hid (allS X3) := by rw [hX3]; exact allS_app hXS.out HYS.out
        have hX3l : X3.length ≤ 100 * (i + 1) := by rw [hX3]; simp; omega
        have HB3 : Hid (Below W.heap.size W w3) := g2.out.below_of HB2.out (fun k hk => HLT.out k hk) hs2
        clear g2 g3 hX3 HXO2 HNY HB2
        go_wp2_with fail
        exact ⟨⟨i + 1, X3, xa3, xc3, by omega, rfl, by go_num, hX3l, HX3S, g1, HB3⟩, by (simp [intOf]) <;> omega⟩
      all_goals
        have hb1 : (Int.tmod (i : Int) 2 == 0) = true := by rw [hpi]; rfl
        have hb2 : ((i : Int) % 2 == 0) = true := by rw [hpi]; rfl
        clear hpi
        go_wp2_with fail
        refine (tone_any wr la lk l n _ noise N HIN.out HM.out HI.out HNI.out (wrap64_mem _) HNO.out HN.out).mono ?_
        rintro e w2 ⟨v2, ys, rfl, hv2, hyl, hyb, hb2'⟩
        obtain ⟨ya, yc, rfl, hny, -, -⟩ := hv2.ns
        have HNY := hid_of hny
        have HYS : Hid (allS ys) := fun y hy => by have := hyb y hy; unfold isS; omega
        have hyl64 : ys.length ≤ 64 := by omega
        have HXO2 := hid_of (hXO.out.mono hb2')
        have HB2 : Hid (Below W.heap.size W w2) := hbr.out.trans (hb2'.mono hsr)
        have hs2 : W.heap.size ≤ w2.heap.size := HB2.out.size
        have HLT : Hid (∀ k, (Value.slice xa X.length xc).ownBlock = some k → W.heap.size ≤ k) := fun k hk => (World.ownsRow.lt hXO.out k hk).1
        clear hv2 hny hyb hyl hb2' HIN
        go_wp2_with (at_builtin; go_must (refine wpList_append_ints w2 rfl (.tmp 36) (.tmp 46) rfl W.heap.size _ X rfl HXO2.out ya yc ys rfl HNY.out (by omega) hs2 ?_))
        intro v3 w3 g1 g2 g3
        obtain ⟨X3, hX3⟩ : ∃ X3, X3 = X ++ ys := ⟨_, rfl⟩
        rw [← hX3] at g1
        obtain ⟨xa3, xc3, rfl, -, -, -⟩ := g1.out.ns
        have HX3S : Hid (allS X3) := by rw [hX3]; exact allS_app hXS.out HYS.out
        have hX3l : X3.length ≤ 100 * (i + 1) := by rw [hX3]; simp; omega
        have HB3 : Hid (Below W.heap.size W w3) := g2.out.below_of HB2.out (fun k hk => HLT.out k hk) hs2
        clear g2 g3 hX3 HXO2 HNY HB2
        go_wp2_with fail
        exact ⟨⟨i + 1, X3, xa3, xc3, by omega, rfl, by go_num, hX3l, HX3S, g1, HB3⟩, by (simp [intOf]) <;> omega⟩
    · have hX300 : X.length ≤ 300 := by omega
      obtain ⟨xa', xc', ex, hnx, hnil, -⟩ := hXO.out.ns
      cases ex
      have HNX := hid_of hnx
      have HNIL := hid_of hnil
      have HXLT := hid_of (own_lt hXO.out)
      obtain ⟨k, hk⟩ : ∃ k, k = (blocksOf X).length := ⟨_, rfl⟩
      have HK := hid_of hk
      have hk300 : k ≤ 300 := by rw [hk]; have := blocksOf_len X; omega
      have hkk : ((k : Int) != (k : Int)) = false := by simp
      have hkk' : ((k : Int) == (k : Int)) = true := by simp
      clear hk hnx hnil
      rcases hend with hc | ⟨hc, hc'⟩
      all_goals
        go_wp2_with fail
        refine (C.newB wr).mono ?_
        rintro e w2 ⟨b, top, rfl, hco2, hb2⟩
        have HCO2 := hid_of hco2
        have HN2 := hid_of (HNX.out.mono hb2)
        have HB2 : Hid (Below W.heap.size W w2) := hbr.out.trans (hb2.mono hsr)
        have hs2 : W.heap.size ≤ w2.heap.size := HB2.out.size
        have htop2 : top ≤ w2.heap.size := (C.lt hco2).2.2
        clear hco2 hb2 HNX hbr hXO
        generalize wr.heap.size = B0 at *
        have HFX : Hid (X ≠ [] → ∀ y, xa = some y → ¬ InCo B0 top y.block) := fun _ y hy hf => by have h1 := HXLT.out y hy; have h2 := hf.1; omega
        go_wp2_with fail
        refine (C.allB w2 b _ top 0 0 xa xc X k HCO2.out HN2.out HFX.out (by omega) (by decide) hXS.out HK.out).mono ?_
        rintro e w3 ⟨va, ca, vb, cb, rfl, hrows, hms, hco3, hk3⟩
        have HROW3 := hid_of hrows.below
        have HMS3 := hid_of hms
        have HMSB : Hid (∀ kk, (Value.slice vb k cb).ownBlock = some kk → kk < w3.heap.size) := fun kk hkk => (World.ownsRow.lt hms kk hkk).2
        have HCO3 : Hid (Co w3 b B0 top k 0) := by have h1 := hco3; rw [Nat.zero_add] at h1; exact h1
        have HN3 := hid_of (HN2.out.kept hk3 HFX.out)
        have HB3 := hid_of (co_below HB2.out hk3 hsr)
        have hs3 : W.heap.size ≤ w3.heap.size := HB3.out.size
        have hs23 : w2.heap.size ≤ w3.heap.size := hk3.size
        clear hrows hms hco3 hk3 HCO2 HN2 HB2
        go_wp2_with fail
        go_loopw [13, 76] (fun vy vi ws => ∃ (j : Nat) (R Y : List Int) (ya : Option Addr) (yc : Nat), j ≤ k ∧ vy = .slice ya Y.length yc ∧ vi = .int .i64 (j : Int) ∧ Y.length ≤ 300 ∧ Hid (Y ++ R = X) ∧ Hid (blocksOf R = (blocksOf X).drop j) ∧ Hid (allS R) ∧ Hid (OwnInts ws w3.heap.size (.slice ya Y.length yc) Y) ∧ Hid (Ns ws xa xc X) ∧ Hid (Co ws b B0 top k j) ∧ Hid (RowsT ws w2.heap.size w3.heap.size va ((blocksOf X).map (·.1))) ∧ Hid (OwnInts ws w2.heap.size (.slice vb k cb) ((blocksOf X).map fun p => ((p.2 : Nat) : Int))) ∧ Hid (Below W.heap.size W ws) ∧ Hid (w3.heap.size ≤ ws.heap.size)) (fun _ vi _ => k - (intOf vi).toNat)
        case atStart => exact ⟨0, X, [], none, 0, Nat.zero_le _, rfl, rfl, by simp, rfl, by show _ = _; simp, hXS.out, OwnInts.nil _ _, HN3.out, HCO3.out, HROW3.out, HMS3.out, HB3.out, Nat.le_refl _⟩
        case round =>
          obtain ⟨j, R, Y, ya, yc, hjk, rfl, rfl, hYl, hYR, hbl, hRS, hYO, hXN, hco, hrows, hms, hbw, hws⟩ := hrel
          have hws' := hws.out
          by_cases hj : j < k
          · obtain ⟨hR1, hget, hnext⟩ := blocksOf_step hRS.out hbl.out (by rw [← HK.out]; exact hj)
            have hq40 : j + 1 < k → 40 ≤ manyN R := fun h => blocksOf_forty hRS.out hnext (by rw [← HK.out]; exact h)
            obtain ⟨P, hP⟩ : ∃ P, P = packL R := ⟨_, rfl⟩
            obtain ⟨q, hq⟩ : ∃ q, q = manyN R := ⟨_, rfl⟩
            rw [← hP, ← hq] at hget
            rw [← hq] at hnext hq40
            obtain ⟨T, hT⟩ : ∃ T, T = R.take q := ⟨_, rfl⟩
            have HRO : Hid ((T, 0) = openOut P) := by show _ = _; rw [hP, packL_open hRS.out hR1, hT, hq]
            have hqR : q ≤ R.length := by rw [hq]; exact (manyN_le R).1
            have hq64 : q ≤ 64 := by rw [hq]; exact (manyN_le R).2
            have hPl : P.length ≤ 128 := by rw [hP, packL_len hRS.out hR1]; exact Nat.le_refl _
            have HP256 : Hid (∀ x ∈ P, x < 256) := by rw [hP]; exact packL_lt _
            have hTl : T.length = q := by rw [hT]; simp; omega
            have hzq : ((T.length : Int) != (q : Int)) = false := by rw [hTl]; simp
            have hTl64 : T.length ≤ 64 := by omega
            obtain ⟨R', hR'⟩ : ∃ R', R' = R.drop q := ⟨_, rfl⟩
            have HRS' : Hid (allS R') := by rw [hR']; exact allS_drop hRS.out q
            have HBL' : Hid (blocksOf R' = (blocksOf X).drop (j + 1)) := by rw [hR']; exact hnext
            have HYR' : Hid ((Y ++ T) ++ R' = X) := by show _ = _; rw [List.append_assoc, hT, hR', List.take_append_drop]; exact hYR.out
            have hYT : Y.length + T.length ≤ 300 := by
              have h1 := congrArg List.length hYR.out
              simp at h1
              omega
            obtain ⟨bb, bo, g, gc, rfl, hbb, hbT, hgT, hcell, hown⟩ := hrows.out j P (by rw [List.getElem?_map, hget]; rfl)
            obtain ⟨mb, mo, rfl, hmc⟩ := hms.out.at j (q : Int) (by rw [List.getElem?_map, hget]; rfl)
            have hmbl : mb < wr.heap.size := World.block_lt_of_cell? _ _ hmc
            have HMC := hid_of hmc
            have HMB : Hid (¬ InCo B0 top mb) := far_own (base := B0) (top := top) hms.out htop2 ⟨mb, mo, none⟩ rfl
            have HPB : Hid (Bs wr (some ⟨g, 0, none⟩) gc P) := by
              obtain ⟨a', c', e', h'⟩ := OwnBytes.bs hown
              cases e'
              exact h'
            have HPF := hid_of (far_own (base := B0) (top := top) hown htop2)
            have hjI : ∀ h : j + 1 < k, (40 : Nat) ≤ q := hq40
            clear hget hnext hP hq hown hR' hT hbl hYR hTl hmc
            go_wp2_with fail
            refine (CO wr b _ top k j _ gc P _ hco.out HPB.out (fun _ => HPF.out) (by omega) (by omega) HP256.out HRO.out).mono ?_
            rintro e w5 ⟨v5, rfl, h5, hco5, hk5⟩
            obtain ⟨za, zc, rfl, hnz, -, -⟩ := h5.ns
            have HNZ := hid_of hnz
            have HCO5 : Hid (Co w5 b B0 top k (j + 1)) := hco5
            have hm5 : w5.cell? ⟨mb, mo + j, none⟩ = some (.int .i64 (q : Int)) := (hk5.cell hmbl HMB.out).trans HMC.out
            have HROW5 := hid_of (hrows.out.kept hk5 (fun i hi => .inl (by have h1 := hi.2; omega)))
            have HMS5 := hid_of (own_co hms.out hk5 htop2)
            have HYO5 := hid_of (own_co hYO.out hk5 (Nat.le_trans htop2 hs23))
            have HXN5 := hid_of (hXN.out.kept hk5 HFX.out)
            have HB5 := hid_of (co_below hbw.out hk5 hsr)
            have hs5 : w3.heap.size ≤ w5.heap.size := Nat.le_trans hws' hk5.size
            have hsW5 : W.heap.size ≤ w5.heap.size := HB5.out.size
            have HYLT : Hid (∀ kk, (Value.slice ya Y.length yc).ownBlock = some kk → w3.heap.size ≤ kk) := fun kk hkk => (World.ownsRow.lt hYO.out kk hkk).1
            clear h5 hnz hco5 hk5 hco hrows hms hbw hXN HMC HPB hYO hws
            rcases (by omega : (j + 1 < k) ∨ ¬ (j + 1 < k)) with hj1 | hj1
            all_goals
              first | (have hq40' : 40 ≤ q := hjI hj1) | skip
              go_wp2_with (at_builtin; go_must (refine wpList_append_ints w5 rfl (.tmp 120) (.tmp 121) rfl w3.heap.size _ Y rfl HYO5.out za zc T rfl HNZ.out (by omega) hs5 ?_))
              intro v6 w6 g1 g2 g3
              obtain ⟨Y6, hY6⟩ : ∃ Y6, Y6 = Y ++ T := ⟨_, rfl⟩
              rw [← hY6] at g1
              obtain ⟨ya6, yc6, rfl, -, -, -⟩ := g1.out.ns
              have HYR6 : Hid (Y6 ++ R' = X) := by rw [hY6]; exact HYR'.out
              have hYl6 : Y6.length ≤ 300 := by rw [hY6]; simp; exact hYT
              have HFY : Hid (∀ kk, (Value.slice ya Y.length yc).ownBlock = some kk → kk < w2.heap.size ∨ w3.heap.size ≤ kk) := fun kk hkk => .inr (HYLT.out kk hkk)
              have HROW6 := hid_of (HROW5.out.kept g2.out (fun kk hkk => HFY.out kk hkk))
              have HMS6 : Hid (OwnInts w6 w2.heap.size (.slice _ k cb) _) := ownsRow_other HMS5.out g2.out (fun kk h1 h2 => by have h3 := HMSB.out kk h1; have h4 := HYLT.out kk h2; omega)
              have HXN6 := hid_of (HXN5.out.kept g2.out (fun _ y hy hf => by have h1 := HXLT.out y hy; have h2 := HYLT.out _ hf; have h3 := (C.lt HCO5.out); omega))
              have HCO6 : Hid (Co w6 b B0 top k (j + 1)) := C.keep HCO5.out g2.out (fun kk h1 h2 => by have h3 := HYLT.out kk h2; have h4 := h1.2; omega)
              have HB6 : Hid (Below W.heap.size W w6) := g2.out.below_of HB5.out (fun kk hkk => Nat.le_trans hs3 (HYLT.out kk hkk)) hsW5
              have HWS6 : Hid (w3.heap.size ≤ w6.heap.size) := Nat.le_trans hs5 g2.out.size
              clear g2 g3 hY6
              go_wp2_with fail
              exact ⟨⟨j + 1, R', Y6, ya6, yc6, by omega, rfl, by go_num, hYl6, HYR6, HBL', HRS', g1, HXN6, HCO6, HROW6, HMS6, HB6, HWS6⟩, by (simp [intOf]) <;> omega⟩
          · have e : j = k := by omega
            have hR0 : R.length = 0 := by
              refine blocksOf_end hRS.out ?_
              rw [hbl.out, e, HK.out]
              exact List.drop_length
            have hYX : Y = X := by
              have h1 := hYR.out
              rw [List.eq_nil_of_length_eq_zero hR0, List.append_nil] at h1
              exact h1
            obtain ⟨U, hU⟩ : ∃ U, U = X ++ [8388608] := ⟨_, rfl⟩
            have HU := hid_of hU
            have hUl : U.length ≤ 400 := by rw [hU]; simp; omega
            have HUS : Hid (¬ allS U) := fun h => by
              have h1 := h 8388608 (by rw [hU]; simp)
              unfold isS at h1
              omega
            have hsw : W.heap.size ≤ wr.heap.size := hbw.out.size
            have hjk' : ((j : Int) == (j : Int)) = true := by simp
            subst e
            subst hYX
            clear hR0 hU hYR hbl
            go_wp2_with fail
            refine (CC wr b _ top _ _ hco.out).mono ?_
            rintro e w6 ⟨rfl, d6, rfl⟩
            have HCO6 := hid_of (C.draws hco.out d6)
            have HX6 : Hid (Ns (wr.drewN d6) xa xc Y) := hXN.out.drewN d6
            have HY6 : Hid (OwnInts (wr.drewN d6) w3.heap.size (.slice ya Y.length yc) Y) := hYO.out.drewN d6
            have HB6 : Hid (Below W.heap.size W (wr.drewN d6)) := below_drewN hbw.out d6
            have hs6 : W.heap.size ≤ (wr.drewN d6).heap.size := hsw
            have htop6 : top ≤ (wr.drewN d6).heap.size := Nat.le_trans htop2 (Nat.le_trans hs23 hws')
            have hB06 : B0 ≤ (wr.drewN d6).heap.size := by have h1 := C.lt HCO6.out; omega
            clear hco hXN hYO hbw hrows hms
            generalize wr.drewN d6 = w6 at *
            go_wp2_with fail
            refine (copyInt_any w6 xa xc Y HX6.out.at_ (by omega) HNIL.out).mono ?_
            rintro e w7 ⟨v7, rfl, h7, hb7⟩
            have HV7 := hid_of h7
            have HCO7 := hid_of (C.grow HCO6.out hb7)
            have HX7 := hid_of (HX6.out.mono hb7)
            have HY7 := hid_of (HY6.out.mono hb7)
            have HY7L : Hid (∀ kk, (Value.slice ya Y.length yc).ownBlock = some kk → kk < w6.heap.size) := fun kk hkk => (World.ownsRow.lt HY6.out kk hkk).2
            have HB7 : Hid (Below W.heap.size W w7) := HB6.out.trans (hb7.mono hs6)
            have hs67 : w6.heap.size ≤ w7.heap.size := hb7.size
            have hs7 : W.heap.size ≤ w7.heap.size := HB7.out.size
            clear h7 hb7 HCO6 HX6 HY6 HB6
            go_wp2_with (at_builtin; go_must (refine wpList_append_int_as w7 rfl (.tmp 130) (.tmp 131) 22 rfl w6.heap.size i0 Tryz.underlying22 hi0 hz0 hz1 hz2 v7 Y U (by rfl) HV7.out 8388608 HU.out (by rfl) (by omega) hs67 ?_))
            intro ua uc w8 h8 hua hb8
            have HN8 : Hid (Ns w8 ua uc U) := own_ns h8.out
            have HF8 := hid_of (far_own (base := B0) (top := top) h8.out htop6)
            have HK8 := hid_of (below_keep hb8.out)
            have HCO8 : Hid (Co w8 b B0 top _ _) := C.keep HCO7.out HK8.out (fun kk h1 h2 => by have h3 := h1.2; omega)
            have HX8 := hid_of (HX7.out.kept HK8.out (fun _ y hy hf => by have h1 := HXLT.out y hy; omega))
            have HY8 : Hid (OwnInts w8 w3.heap.size (.slice ya Y.length yc) Y) := HY7.out.below hb8.out HY7L.out
            have HB8 : Hid (Below W.heap.size W w8) := HB7.out.trans (hb8.out.mono hs6)
            have hs8 : W.heap.size ≤ w8.heap.size := HB8.out.size
            clear h8 hua hb8 HCO7 HX7 HY7 HB7 HV7 HK8
            go_wp2_with fail
            refine (C.allNo w8 b _ top _ _ ua uc U HCO8.out HN8.out (fun _ => HF8.out) (by omega) HUS.out).mono ?_
            rintro e w9 ⟨v9, u9, rfl, hco9, hk9⟩
            have HX9 := hid_of (HX8.out.kept hk9 HFX.out)
            have HY9 : Hid (OwnInts w9 w3.heap.size (.slice ya Y.length yc) Y) := own_co HY8.out hk9 (Nat.le_trans htop2 hs23)
            have HB9 := hid_of (co_below HB8.out hk9 hsr)
            have hs9 : W.heap.size ≤ w9.heap.size := HB9.out.size
            clear hco9 hk9 HX8 HY8 HB8 HCO8 HN8
            go_wp2_with fail
            refine (sameInt_any w9 xa ya xc yc Y HX9.out.at_ HY9.out.at (by omega)).mono ?_
            rintro e w10 ⟨rfl, n10, rfl⟩
            go_wp2_with fail
            refine (wakes9_any C _).mono ?_
            rintro e w11 ⟨rfl, hb11⟩
            have HB11 : Hid (Below W.heap.size W w11) := (below_drewN HB9.out n10).trans (hb11.mono hs9)
            clear hb11
            go_wp2
            go_ret
            exact ⟨rfl, HB11.out⟩

end Go.Proofs.YtejgkgnocgplbaaGreat
