/- The texts BlkN, BlkQ, BlkM, BlkR, one behind the other. -/
import Derived.Test.YtejgkgnocgplbabGreatPart12

/- 'longest': the number of samples is sought from above. -/
namespace Go.Proofs.YtejgkgnocgplbabGreat
set_option linter.unusedVariables false
set_option linter.unusedSimpArgs false
open Go.RowKit Dg Cr

def SealIn (Co : World → Nat → Nat → Nat → Nat → Nat → Prop) : Prop := ∀ w b base top n m a cap l, Co w b base top n m → Bs w a cap l → (l ≠ [] → ∀ y, a = some y → ¬ InCo base top y.block) → l.length ≤ 124 → n ≤ 200000 → (∀ x ∈ l, x < 256) →
    Calls Tryz.prog 14 #[.pointer (some ⟨b, 0, none⟩), .slice a l.length cap] w fun e w' => ∃ v, e = .returned v ∧ OwnBytes w' w.heap.size v (sealL l) ∧ Co w' b base top (n + 1) m ∧ Kept (InCo base top) w w'
theorem packM_here {x : List Int} {M k : Nat} (hk : k ≤ M) (h0 : 0 < k) (h1 : ∀ j, k < j → j ≤ M → 124 < (encB (x.take j)).length) (h2 : (encB (x.take k)).length ≤ 124) : packM x M = k := by
  have h3 := packM_le x M
  rcases (by omega : packM x M < k ∨ packM x M = k ∨ k < packM x M) with h | h | h
  · have := packM_most x M k h hk; omega
  · exact h
  · have h4 := h1 (packM x M) h h3
    have h5 := packM_fits x M (by omega)
    omega

set_option maxRecDepth 100000 in
set_option maxHeartbeats 8000000 in
theorem slong_any (w : World) (a : Option Addr) (cap : Nat) (x : List Int) (hx : Ns w a cap x) (hl1 : 1 ≤ x.length) (hl : x.length ≤ 100000) (hS : allS x) (q : Nat) (hq : q = manyN x) (P : List Nat) (hP : P = encB (x.take q)) :
    Calls Tryz.prog 13 #[.slice a x.length cap] w fun e w' => ∃ v, e = .returned (.tuple #[v, .int .i64 (q : Int)]) ∧ OwnBytes w' w.heap.size v P ∧ Below w.heap.size w w' := by
  have hle := hx.le
  obtain ⟨M, hM⟩ : ∃ M, M = min x.length 64 := ⟨_, rfl⟩
  have hM1 : 1 ≤ M := by omega
  have hM64 : M ≤ 64 := by omega
  have hMx : M ≤ x.length := by omega
  have HFIN : Hid (∀ k L, k ≤ M → 0 < k → (∀ j, k < j → j ≤ M → 124 < (encB (x.take j)).length) → L = encB (x.take k) → L.length ≤ 124 → q = k ∧ P = L) := fun k L h1 h2 h3 h4 h5 => by
    have h6 : manyN x = k := by
      have e : manyN x = packM x M := by rw [hM]; rfl
      rw [e]
      exact packM_here h1 h2 h3 (by rw [← h4]; exact h5)
    have h7 : q = k := by rw [hq, h6]
    exact ⟨h7, by rw [hP, h7, h4]⟩
  have HENC : Hid (∀ (k : Nat) (wr : World) (L : List Nat), 1 ≤ k → k ≤ M → L = encB (x.take k) → Below w.heap.size w wr → Calls Tryz.prog 21 #[.slice a k cap] wr fun e w' => ∃ la lc, e = .returned (.tuple #[.slice la L.length lc, .int .i64 0]) ∧ OwnBytes w' w.heap.size (.slice la L.length lc) L ∧ Below w.heap.size w w') := by
    intro k wr L hk1 hk2 hL hbr
    have hXm : mayX (x.take k) := may_take hS hk1 (by omega) (by omega)
    refine (fenc_n wr (shiftOf (x.take k)) k a cap (x.take k) (by simp; omega) ((hx.mono hbr).part k (by omega)) (by simp; omega) (shiftOf_is _) (L, 0) (by rw [encB_out hXm, hL])).mono ?_
    rintro e w2 ⟨v2, rfl, h2, hb2⟩
    obtain ⟨la, lc, rfl, -⟩ := OwnBytes.bs h2
    exact ⟨la, lc, rfl, ownsRow_base h2 hbr.size, hbr.trans (hb2.mono hbr.size)⟩
  have HLEN : Hid (∀ k L, 1 ≤ k → k ≤ M → L = encB (x.take k) → L.length ≤ 10000 ∧ L.length ≤ 2 + 3 * k) := fun k L h1 h2 h3 => by
    have hXm : mayX (x.take k) := may_take hS h1 (by omega) (by omega)
    have h4 := encB_verb hXm
    rw [List.length_take, Nat.min_eq_left (by omega)] at h4
    exact ⟨by rw [h3]; exact encB_len _, by rw [h3]; exact h4⟩
  clear hx hS hq hP
  obtain ⟨L0, hL0⟩ : ∃ L0, L0 = encB (x.take M) := ⟨_, rfl⟩
  have hL0l : L0.length ≤ 10000 := (HLEN.out M L0 hM1 (Nat.le_refl _) hL0).1
  have HL0 := hid_of hL0
  clear hL0
  rcases (by omega : (x.length ≤ 64 ∧ M = x.length) ∨ (64 < x.length ∧ M = 64)) with ⟨hc1, hc2⟩ | ⟨hc1, hc2⟩
  all_goals
    have HM2 := hid_of hc2
    have hsl := slice_ints a x.length cap M (by omega)
    rw [hc2] at hsl
    have HC := hid_of (HENC.out M w L0 hM1 (Nat.le_refl _) HL0.out (Below.refl _ _))
    rw [hc2] at HC
    clear hM hc2
    go_enter Tryz.func13, Tryz.ntmps13
    go_wp2_with fail
    refine HC.out.mono ?_
    rintro e w1 ⟨la0, lc0, rfl, ho, hb⟩
    have HO := hid_of ho
    have HB := hid_of hb
    clear ho hb HC
    go_wp2_with fail
    go_loopw [4, 5] (fun i vb wr => ∃ (k : Nat) (L : List Nat) (la : Option Addr) (lc : Nat), k ≤ M ∧ 1 ≤ k ∧ i = .int .i64 (k : Int) ∧ vb = .slice la L.length lc ∧ L.length ≤ 10000 ∧ Hid (L = encB (x.take k)) ∧ Hid (OwnBytes wr w.heap.size (.slice la L.length lc) L) ∧ Hid (∀ j, k < j → j ≤ M → 124 < (encB (x.take j)).length) ∧ Hid (Below w.heap.size w wr)) (fun i _ _ => (intOf i).toNat)
    case atStart => exact ⟨M, L0, la0, lc0, Nat.le_refl _, hM1, by first | (rw [HM2.out]; done) | (rw [HM2.out]; rfl), rfl, hL0l, HL0, HO, fun j h1 h2 => by omega, HB⟩
    case round =>
      obtain ⟨k, L, la, lc, hk, hk0, rfl, rfl, hLl, hLE, hO, hmost, hbr⟩ := hrel
      by_cases hfit : L.length ≤ 124
      · have HF := hid_of (HFIN.out k L hk hk0 hmost.out hLE.out hfit)
        clear hmost hLE HENC HFIN HLEN
        go_wp2_with fail
        go_ret2
        exact ⟨_, by rw [HF.out.1]; rfl, by rw [HF.out.2]; exact hO.out, hbr.out⟩
      · have hkv : 40 < k := by have := (HLEN.out k L hk0 hk hLE.out).2; omega
        obtain ⟨k', hk'⟩ : ∃ k' : Nat, (k : Int) - 1 = (k' : Int) := ⟨k - 1, by omega⟩
        have hk1 : 1 ≤ k' := by omega
        have hk2 : k' ≤ M := by omega
        have HMO : Hid (∀ j, k' < j → j ≤ M → 124 < (encB (x.take j)).length) := by
          intro j h1 h2
          by_cases e : j = k
          · rw [e, ← hLE.out]; omega
          · exact hmost.out j (by omega) h2
        obtain ⟨L', hL'⟩ : ∃ L', L' = encB (x.take k') := ⟨_, rfl⟩
        have hL'l : L'.length ≤ 10000 := (HLEN.out k' L' hk1 hk2 hL').1
        have HL' := hid_of hL'
        have HC := hid_of (HENC.out k' wr L' hk1 hk2 hL' hbr.out)
        have hsl' := slice_ints a x.length cap k' (by omega)
        clear hmost hL'
        go_wp2_with fail
        refine HC.out.mono ?_
        rintro e w2 ⟨la2, lc2, rfl, ho2, hb2⟩
        have HO2 := hid_of ho2
        have HB2 := hid_of hb2
        clear ho2 hb2 HC
        go_wp2_with fail
        exact ⟨⟨k', L', la2, lc2, hk2, hk1, by first | rfl | (rw [hk']; done) | go_num, rfl, hL'l, HL', HO2, HMO, HB2⟩, by (simp [intOf]) <;> omega⟩

end Go.Proofs.YtejgkgnocgplbabGreat

/- seal. -/
namespace Go.Proofs.YtejgkgnocgplbabGreat
set_option linter.unusedVariables false
set_option linter.unusedSimpArgs false
open Go.RowKit Dg Cr

theorem seal_zeros (l : List Nat) (hl : l.length ≤ 124) : over l (List.replicate 128 0) = fillF l ++ List.replicate 4 0 := by
  rw [over_zeros (by omega)]
  unfold fillF
  rw [List.append_assoc, List.replicate_append_replicate, show 124 - l.length + 4 = 128 - l.length by omega]
theorem into_four (F : List Nat) (hF : F.length = 124) (X : Nat) : into (F ++ List.replicate 4 0) 124 (bytes4 X) = F ++ bytes4 X := by
  unfold into
  rw [length_bytes4, ← hF, List.take_left, List.drop_eq_nil_of_le (by simp), List.append_nil]

set_option maxRecDepth 100000 in
set_option maxHeartbeats 4000000 in
theorem sseal_any : SealIn CoS := by
  intro w b base top n m a cap l hco hb hf hl hn h256
  obtain ⟨i0, hi, hz0, hz1, hz2⟩ := info_parts Tryz.info5
  have HB := hid_of hb
  have HF := hid_of hf
  have htop : top ≤ w.heap.size := hco.lt.2.2
  have HC := hid_of hco
  obtain ⟨F, hF⟩ : ∃ F, F = fillF l := ⟨_, rfl⟩
  have HFL : Hid (F.length = 124) := by show _ = _; rw [hF]; exact length_fillF hl
  have HF256 : Hid (∀ x ∈ F, x < 256) := by rw [hF]; exact fillF_lt h256
  obtain ⟨X, hX⟩ : ∃ X, X = sumN F := ⟨_, rfl⟩
  have HX := hid_of hX
  obtain ⟨Z, hZ⟩ : ∃ Z, Z = F ++ List.replicate 4 0 := ⟨_, rfl⟩
  have HZ : Hid (over l (List.replicate 128 0) = Z) := by show _ = _; rw [hZ, hF]; exact seal_zeros l hl
  have HZL : Hid (Z.length = 128) := by show _ = _; rw [hZ]; simp [HFL.out]
  obtain ⟨S, hS⟩ : ∃ S, S = sealL l := ⟨_, rfl⟩
  have HS : Hid (into Z 124 (bytes4 X) = S) := by show _ = _; rw [hZ, into_four F HFL.out, hS, hX, hF]; rfl
  have HSL : Hid (S.length = 128) := by show _ = _; rw [hS]; exact length_sealL hl
  have HZT : Hid (Z.take 124 = F) := by show _ = _; rw [hZ, ← HFL.out, List.take_left]
  rw [← hS]
  clear hco hb hf h256 hF hX hS hZ
  go_enter Tryz.func14, Tryz.ntmps14
  go_wp2_with (at_make; refine wpList_make_full _ rfl _ _ 28 rfl w.heap.size 5 i0 (.int .u8 0) 1 Tryz.underlying28 hi hz0 hz1 _ _ _ _ 128 rfl rfl rfl rfl (by rw [hz2]; omega) (by unfold maxLen; omega) (Nat.le_refl _) ?_)
  intro w2 hown hgr
  have hb2 : Below w.heap.size w w2 := (Below.refl _ _).grown hgr (Nat.le_refl _) (fun k hk => by cases hk)
  have HO : Hid (w2.ownsRow w.heap.size 5 1 (.slice (some ⟨w.heap.size, 0, none⟩) 128 128) 128 (u8s (List.replicate 128 0))) := by have e := made_zeros 128; rw [Nat.mul_one] at e; rw [← e]; exact hown
  have HS2 := hid_of (HB.out.below hb2)
  have HB2 := hid_of hb2
  clear hown hgr hb2 HB
  obtain ⟨g, hg⟩ : ∃ g, g = w.heap.size := ⟨_, rfl⟩
  have hgw : w.heap.size ≤ g := by omega
  have hgw' : g ≤ w.heap.size := by omega
  rw [← hg] at HO ⊢
  clear hg
  go_wp2_with (refine wpList_copy_n rfl (.tmp 7) (.tmp 8) 28 28 rfl Tryz.underlying28 (by simp [hi, hz1]) g g 128 128 (List.replicate 128 0) (by simp) HO.out a cap l HS2.out.at_ rfl rfl ?_)
  intro w3 k3 hO3 hk3
  have hO3' : w3.ownsRow g 5 1 (.slice (some ⟨g, 0, none⟩) 128 128) 128 (u8s Z) := by rw [← HZ.out]; exact hO3.out
  have HK3 : Hid (Kept (fun i => w.heap.size ≤ i) w w3) := (Below.kept0 HB2.out).trans (hk3.out.mono (fun i hi hf => by omega))
  have HC3 : Hid (CoS w3 b base top n m) := HC.out.keep HK3.out (fun i hi hf => by have := hi.2; omega)
  have HO3 := hid_of hO3'
  have HT3 : Hid (SlAt w3 (.slice (some ⟨g, 0, none⟩) 124 128) F) := by
    have h1 := own_part hO3' 0 124 128 (by decide)
    rw [List.drop_zero, HZT.out] at h1
    exact h1
  have hs3 : w.heap.size ≤ w3.heap.size := HK3.out.size
  have hsl : ∀ W : World, (Instr.sliceAt 28 (.slice (some ⟨g, 0, none⟩) 128 128) none (some (.int .i64 124)) none).run Tryz.prog W = .ok (.slice (some ⟨g, 0, none⟩) 124 128) W := fun W => slice_hi (some ⟨g, 0, none⟩) 128 128 124 (by decide) W
  have hsl2 : ∀ W : World, (Instr.sliceAt 28 (.slice (some ⟨g, 0, none⟩) 128 128) (some (.int .i64 124)) none none).run Tryz.prog W = .ok (.slice (some ⟨g, 124, none⟩) 4 4) W := fun W => slice_lo (some ⟨g, 0, none⟩) 128 128 124 (by decide) W
  have HCS : Hid (Calls Tryz.prog 22 #[.pointer (some ⟨b, 0, none⟩), .slice (some ⟨g, 0, none⟩) 124 128] w3.drew fun e w' => ∃ g4, e = .returned (.slice (some ⟨g4, 0, none⟩) 4 4) ∧ SlAt w' (.slice (some ⟨g4, 0, none⟩) 4 4) (bytes4 X) ∧ w'.ownsRow g 5 1 (.slice (some ⟨g, 0, none⟩) 128 128) 128 (u8s Z) ∧ CoS w' b base top n m ∧ Kept (InCo base top) w3 w') := by
    have hd : Kept (fun _ => False) w3 w3.drew := (Kept.refl _ _).drew
    refine (ssum_any w3.drew b base top n m (HC3.out.keep hd (fun _ _ h => h)) _ F X HX.out (HT3.out.kept hd (fun _ _ h => h)) (fun _ k hk hf => by simp [Value.ownBlock] at hk; subst hk; have := hf.2; omega) (by rw [HFL.out]; decide) HF256.out).mono ?_
    rintro e w4 ⟨g4, rfl, h4, hc4, hk4⟩
    have hk5 : Kept (InCo base top) w3 w4 := (hd.mono (fun _ _ h => h.elim)).trans hk4
    exact ⟨g4, rfl, SlAt.of_owns h4, ownsRow_other HO3.out hk5 (fun k hk hf => by have h5 := World.ownsRow.lt HO3.out k hk; have := hf.2; omega), hc4, hk5⟩
  clear hO3 hk3 hO3' HO HS2 HB2 HC
  go_upto_region 3 with fail
  go_cut [] from 10 to 16 (fun wx => Hid (wx.ownsRow g 5 1 (.slice (some ⟨g, 0, none⟩) 128 128) 128 (u8s S)) ∧ Hid (CoS wx b base top n m) ∧ Hid (Kept (fun i => InCo base top i ∨ i = g) w3 wx))
  case first =>
    go_region_with (go_at_call 22; refine HCS.out.mono ?_; rintro e w4 ⟨g4, rfl, h4, ho4, hc4, hk4⟩; obtain ⟨w5, hcp, ho5, hk5⟩ := run_copy_into (P := Tryz.prog) 28 28 3 Tryz.underlying28 (by simp [hi, hz1]) g g 128 128 124 4 4 Z HZL.out ho4 g4 0 4 (bytes4 X) (length_bytes4 X) (by decide) h4; rw [HS.out] at ho5; have HO5 := hid_of ho5; have HC5 : Hid (CoS w5 b base top n m) := hc4.keep hk5 (fun i hi hf => by have := hi.2; omega); have HK5 : Hid (Kept (fun i => InCo base top i ∨ i = g) w3 w5) := (hk4.mono (fun i _ h => .inl h)).trans (hk5.mono (fun i _ h => .inr h)); clear h4 ho4 hc4 hk4 ho5 hk5)
    all_goals (try go_wp2_with fail)
    all_goals go_meet
    all_goals exact ⟨HO5, HC5, HK5⟩
  case rest =>
    obtain ⟨ho4, hc4, hk4⟩ := hcut
    have HKR : Hid (Kept (InCo base top) w wc) := (HK3.out.mono (G := fun i => InCo base top i) (fun i hi hf => by omega)).trans' hk4.out (fun i hi hf => by rcases hf with h | h; exact h; omega)
    clear HCS HC3 HO3 HT3 hsl hsl2 hk4 HK3
    go_wp2_with fail
    refine (hc4.out.seal1 (by omega)).mono ?_
    rintro e w5 ⟨⟨v5, rfl⟩, hco5, hk5⟩
    have HCO5 := hid_of hco5
    have HK5 : Hid (Kept (InCo base top) w w5) := HKR.out.trans hk5
    have HO5 : Hid (w5.ownsRow g 5 1 (.slice (some ⟨g, 0, none⟩) 128 128) 128 (u8s S)) := ownsRow_other ho4.out hk5 (fun k hk hf => by
      have h5 := World.ownsRow.lt ho4.out k hk
      have := hf.2
      omega)
    clear hco5 hk5 ho4 hc4
    go_wp2_with fail
    go_ret
    refine ⟨_, rfl, ?_, HCO5.out, HK5.out⟩
    show OwnBytes _ _ _ S
    unfold OwnBytes
    rw [HSL.out]
    exact ownsRow_base HO5.out hgw

end Go.Proofs.YtejgkgnocgplbabGreat

/- All, given what its seal does. -/
namespace Go.Proofs.YtejgkgnocgplbabGreat
set_option linter.unusedVariables false
set_option linter.unusedSimpArgs false
open Go.RowKit Dg Cr

/-- A slice's length. -/
def lenW : Value → Nat
  | .slice _ n _ => n
  | _ => 0
theorem blocks_take {α β : Type} (X : List α) (f : α → β) (j : Nat) (p : α) (h : X[j]? = some p) : (X.take (j + 1)).map f = (X.take j).map f ++ [f p] := by
  rw [List.take_add_one, h]
  simp

set_option maxRecDepth 100000 in
set_option maxHeartbeats 8000000 in
theorem sall_any {Co : World → Nat → Nat → Nat → Nat → Nat → Prop} (hlt : ∀ {w b base top n m}, Co w b base top n m → base ≤ b ∧ b < top ∧ top ≤ w.heap.size)
    (hkeep : ∀ {w w' b base top n m} {F : Nat → Prop}, Co w b base top n m → Kept F w w' → (∀ k, InCo base top k → ¬ F k) → Co w' b base top n m) (CS : SealIn Co)
    (w : World) (b base top n m : Nat) (a : Option Addr) (cap : Nat) (X : List Int) (k : Nat) (hco : Co w b base top n m) (hx : Ns w a cap X) (hf : X ≠ [] → ∀ y, a = some y → ¬ InCo base top y.block) (hl : X.length ≤ 100000) (hn : n ≤ 100000) (hS : allS X) (hk : k = (blocksOf X).length) (HARE : ∀ wx, IntsAt wx a X → Calls Tryz.prog 12 #[.slice a X.length cap] wx fun e w' => e = .returned (.bool true) ∧ wx = w') :
    Calls Tryz.prog 15 #[.pointer (some ⟨b, 0, none⟩), .slice a X.length cap] w fun e w' => ∃ va ca vb cb, e = .returned (.tuple #[.slice va k ca, .slice vb k cb, .int .i64 0]) ∧ RowsB w' w.heap.size va ((blocksOf X).map (·.1)) ∧ OwnInts w' w.heap.size (.slice vb k cb) ((blocksOf X).map fun p => ((p.2 : Nat) : Int)) ∧ Co w' b base top (n + k) m ∧ Kept (InCo base top) w w' := by
  obtain ⟨i0, hi, hz0, hz1, hz2⟩ := info_parts Tryz.info3
  obtain ⟨i1, hj, hy0, hy1, hy2⟩ := info_parts Tryz.infoRow
  have HCO := hid_of hco
  have HX := hid_of hx
  have HSX := hid_of hS
  have HK := hid_of hk
  have HA := hid_of (HARE w hx.at_)
  have htop : top ≤ w.heap.size := (hlt hco).2.2
  have hkl : k ≤ X.length := by rw [hk]; exact blocksOf_len X
  have HFX : Hid (X ≠ [] → ∀ y, a = some y → ¬ InCo base top y.block ∧ y.block < w.heap.size) := fun h y hy => ⟨hf h y hy, hx.lt h y hy⟩
  clear hco hx hS hk hf HARE
  go_enter Tryz.func15, Tryz.ntmps15
  go_wp2_with fail
  refine HA.out.mono ?_
  rintro e w0 ⟨rfl, rfl⟩
  go_wp2_with fail
  go_loopw [1, 7, 8] (fun vr vs vc ws => ∃ (j : Nat) (R : List Int) (ra : Option Addr) (rc : Nat), j ≤ k ∧ vr = .slice ra R.length rc ∧ R.length ≤ 100000 ∧ Hid (blocksOf R = (blocksOf X).drop j) ∧ Hid (allS R) ∧ Hid (Ns ws ra rc R) ∧ Hid (R ≠ [] → ∀ y, ra = some y → ¬ InCo base top y.block ∧ y.block < w.heap.size) ∧ Hid (Co ws b base top (n + j) m) ∧ Hid (AllSt w.heap.size ws vs vc (((blocksOf X).take j).map (·.1)) (((blocksOf X).take j).map fun p => ((p.2 : Nat) : Int))) ∧ Hid (Kept (InCo base top) w ws)) (fun vr _ _ _ => lenW vr)
  case atStart => exact ⟨0, X, a, cap, Nat.zero_le _, rfl, hl, by show _ = _; simp, HSX.out, HX.out, HFX.out, HCO.out, AllSt.nil _ _, Kept.refl _ _⟩
  case round =>
    obtain ⟨j, R, ra, rc, hjk, rfl, hRl, hbl, hRS, hRN, hRF, hco, hst, hkp⟩ := hrel
    have hsr : w.heap.size ≤ wr.heap.size := hkp.out.size
    by_cases hR0 : 0 < R.length
    · have hjlt : j < (blocksOf X).length := by
        have h1 := blocksOf_cons hRS.out hR0
        rw [hbl.out] at h1
        have h2 := congrArg List.length h1
        simp at h2
        omega
      have hjk' : j < k := by rw [HK.out]; exact hjlt
      obtain ⟨-, hget, hnext⟩ := blocksOf_step hRS.out hbl.out hjlt
      obtain ⟨P, hP⟩ : ∃ P, P = packL R := ⟨_, rfl⟩
      obtain ⟨q, hq⟩ : ∃ q, q = manyN R := ⟨_, rfl⟩
      have hqR : q ≤ R.length := by rw [hq]; exact (manyN_le R).1
      have hq1 : 1 ≤ q := by rw [hq]; exact manyN_pos hRS.out hR0
      have HPL : Hid (P.length = 128) := by show _ = _; rw [hP]; exact packL_len hRS.out hR0
      rw [← hP, ← hq] at hget
      rw [← hq] at hnext
      obtain ⟨E, hE⟩ : ∃ E, E = encB (R.take q) := ⟨_, rfl⟩
      have HPE : Hid (sealL E = P) := by show _ = _; rw [hP, hE, hq]; rfl
      have hE124 : E.length ≤ 124 := by rw [hE, hq]; exact manyN_fits hRS.out hR0
      have HE256 : Hid (∀ y ∈ E, y < 256) := by rw [hE]; exact encB_lt _
      have HC := hid_of (slong_any wr ra rc R hRN.out hR0 hRl hRS.out q hq E hE)
      obtain ⟨R', hR'⟩ : ∃ R', R' = R.drop q := ⟨_, rfl⟩
      obtain ⟨ra', hra'⟩ : ∃ ra', ra' = lowI ra rc q := ⟨_, rfl⟩
      obtain ⟨rc', hrc'⟩ : ∃ rc', rc' = rc - q := ⟨_, rfl⟩
      have hsl : ∀ Wx : World, (Instr.sliceAt 22 (.slice ra R.length rc) (some (.int .i64 (q : Int))) none none).run Tryz.prog Wx = .ok (.slice ra' R'.length rc') Wx := fun Wx => by
        rw [slice_ints_lo ra R.length rc q hqR Wx, hra', hrc', hR', List.length_drop]
      have HRF' : Hid (R' ≠ [] → ∀ y, ra' = some y → ¬ InCo base top y.block ∧ y.block < w.heap.size) := by
        rw [hra']
        intro _ y hy
        have hne : R ≠ [] := fun e => by rw [e] at hR0; simp at hR0
        unfold lowI at hy
        split at hy
        · exact hRF.out hne y hy
        · cases hra : ra with
          | none => rw [hra] at hy; cases hy
          | some z =>
            rw [hra] at hy
            cases hy
            have e : (z.add q).block = z.block := by unfold Addr.add; split <;> rfl
            rw [e]
            exact hRF.out hne z hra
      have HRN' : Hid (∀ wx, Ns wx ra rc R → Ns wx ra' rc' R') := fun wx h => by rw [hra', hrc', hR']; exact h.rest q hqR
      have HRS' : Hid (allS R') := by rw [hR']; exact allS_drop hRS.out q
      have HBL' : Hid (blocksOf R' = (blocksOf X).drop (j + 1)) := by rw [hR']; exact hnext
      have hRl' : R'.length < R.length := by rw [hR', List.length_drop]; omega
      obtain ⟨Ls, hLs⟩ : ∃ Ls, Ls = ((blocksOf X).take j).map (·.1) := ⟨_, rfl⟩
      obtain ⟨ms, hms⟩ : ∃ ms, ms = ((blocksOf X).take j).map fun p => ((p.2 : Nat) : Int) := ⟨_, rfl⟩
      rw [← hLs, ← hms] at hst
      have HT1 : Hid (((blocksOf X).take (j + 1)).map (·.1) = Ls ++ [P]) := by rw [hLs]; exact blocks_take (blocksOf X) (·.1) j _ hget
      have HT2 : Hid ((((blocksOf X).take (j + 1)).map fun p => ((p.2 : Nat) : Int)) = ms ++ [(q : Int)]) := by rw [hms]; exact blocks_take (blocksOf X) (fun p => ((p.2 : Nat) : Int)) j _ hget
      have hlj : Ls.length ≤ 1000000 := by rw [hLs]; simp; omega
      have hlj2 : ms.length ≤ 1000000 := by rw [hms]; simp; omega
      have HRF := hRF
      clear hget hnext hP hq hE hR' hra' hrc' hbl hRF hLs hms
      go_wp2_with fail
      refine HC.out.mono ?_
      rintro e w1 ⟨v1, rfl, h1, hb1⟩
      obtain ⟨ea, ec, rfl, hbs⟩ := OwnBytes.bs h1
      have hkb : Kept (fun i => wr.heap.size ≤ i) wr w1 := ⟨hb1.os, hb1.tape, hb1.output, hb1.size, fun i _ hf => hb1.block i (by omega)⟩
      have HCO1 : Hid (Co w1 b base top (n + j) m) := hkeep hco.out hkb (fun i hi hf => by have := hi.2; omega)
      have HCS := hid_of (CS w1 b base top (n + j) m ea ec E HCO1.out hbs (fun _ => far_own h1 (by omega)) hE124 (by omega) HE256.out)
      have hs1 : wr.heap.size ≤ w1.heap.size := hb1.size
      have HB1 := hid_of hb1
      clear h1 hb1 hbs hkb HC HCO1
      go_wp2_with fail
      refine HCS.out.mono ?_
      rintro e w2 ⟨v2, rfl, h2, hco2, hk2'⟩
      rw [HPE.out] at h2
      have hk2 : Kept (InCo base top) wr w2 := (Kept.mono (F := fun i => wr.heap.size ≤ i) (G := InCo base top) ⟨HB1.out.os, HB1.out.tape, HB1.out.output, HB1.out.size, fun i _ hf => HB1.out.block i (by omega)⟩ (fun i hi hf => by omega)).trans hk2'
      have hbr2 := ownsRow_base h2 hs1
      clear hk2' HB1
      obtain ⟨g0, c0, rfl⟩ : ∃ g c, v2 = .slice (some ⟨g, 0, none⟩) P.length c := by
        rcases h2.2 with ⟨_, h0⟩ | ⟨g', cap', cur, hv, -⟩
        · exfalso; have := HPL.out; omega
        · exact ⟨g', cap', hv⟩
      have HO2 : Hid (OwnBytes w2 w.heap.size (.slice (some ⟨g0, 0, none⟩) P.length c0) P) := ownsRow_base hbr2 hsr
      have HG0 : Hid (wr.heap.size ≤ g0) := (World.ownsRow.lt hbr2 g0 rfl).1
      have HCO2 := hid_of hco2
      have HST2 := hid_of (hst.out.kept hk2 (fun i hi => .inl (by have := hi.2; omega)))
      have HRN2 := hid_of (hRN.out.kept hk2 (fun h y hy => (HRF.out h y hy).1))
      have HK2 : Hid (Kept (InCo base top) w w2) := hkp.out.trans hk2
      have hs2 : w.heap.size ≤ w2.heap.size := HK2.out.size
      have HN1 : Hid (u7.ownBlock ≠ some g0) := fun e => by
        obtain ⟨vals, h5, -⟩ := hst.out.rows
        have h6 := (World.ownsRow.lt h5 g0 e).2
        have h7 := HG0.out
        omega
      have HN2 : Hid (u8.ownBlock ≠ some g0) := fun e => by
        have h6 := (World.ownsRow.lt hst.out.cnt g0 e).2
        have h7 := HG0.out
        omega
      clear h2 hbr2 hco2 hk2 hst hRN hco hkp HCS
      go_wp2_with (at_builtin; go_must (refine wpList_append_sector w2 rfl (.tmp 22) (.tmp 26) 52 rfl i1 Tryz.underlying52 hj hy0 hy1 hy2 w.heap.size u7 u8 _ _ rfl HST2.out g0 c0 P HO2.out HN1.out HN2.out rfl hlj hs2 ?_))
      intro va3 ca3 w3 HST3 hk3
      have hsm3 : ∀ i, u7.ownBlock = some i → w.heap.size ≤ i := fun i hi => by
        obtain ⟨vals, h5, -⟩ := HST2.out.rows
        exact (World.ownsRow.lt h5 i hi).1
      have HCO3 := hid_of (hkeep HCO2.out hk3.out (fun i hi hf => by have h5 := hsm3 i hf; have := hi.2; omega))
      have HRN3 := hid_of (HRN2.out.kept hk3.out (fun h y hy hf => by have h5 := hsm3 _ hf; have := (HRF.out h y hy).2; omega))
      have HK3 : Hid (Kept (InCo base top) w w3) := HK2.out.trans' hk3.out (fun i hi hf => by have h5 := hsm3 i hf; omega)
      have hs3 : w.heap.size ≤ w3.heap.size := HK3.out.size
      clear hk3 hsm3 HCO2 HRN2 HK2 HST2 HO2 HN1 HN2 HG0
      go_wp2_with (at_builtin; go_must (refine wpList_append_count w3 rfl (.tmp 28) (.tmp 30) 22 rfl i0 Tryz.underlying22 hi hz0 hz1 hz2 w.heap.size _ u8 _ _ rfl HST3.out (q : Int) rfl hlj2 hs3 ?_))
      intro v4 w4 HST4 hk4
      have hsm4 : ∀ i, u8.ownBlock = some i → w.heap.size ≤ i := fun i hi => (World.ownsRow.lt HST3.out.cnt i hi).1
      have HCO4 := hid_of (hkeep HCO3.out hk4.out (fun i hi hf => by have h5 := hsm4 i hf; have := hi.2; omega))
      have HRN4 := hid_of (HRN'.out w4 (HRN3.out.kept hk4.out (fun h y hy hf => by have h5 := hsm4 _ hf; have := (HRF.out h y hy).2; omega)))
      have HK4 : Hid (Kept (InCo base top) w w4) := HK3.out.trans' hk4.out (fun i hi hf => by have h5 := hsm4 i hf; omega)
      clear hk4 hsm4 HCO3 HRN3 HK3 HST3
      go_wp2_with fail
      refine ⟨⟨j + 1, R', ra', rc', hjk', rfl, by omega, HBL'.out, HRS'.out, HRN4.out, HRF'.out, HCO4.out, ?_, HK4.out⟩, by (simp [lenW]) <;> omega⟩
      show AllSt _ _ _ _ _ _
      rw [HT1.out, HT2.out]
      exact HST4.out
    · have hjk2 : k ≤ j := by
        have h1 := hbl.out
        rw [blocksOf_nil (by omega : R.length = 0)] at h1
        have h2 := congrArg List.length h1
        simp at h2
        have := HK.out
        omega
      obtain rfl : j = k := by omega
      rw [List.take_of_length_le (by rw [HK.out]; exact Nat.le_refl _)] at hst
      have HST : Hid (AllSt w.heap.size wr u7 u8 ((blocksOf X).map (·.1)) ((blocksOf X).map fun p => ((p.2 : Nat) : Int))) := hst.out
      obtain ⟨va, ca, vb, cb, rfl, rfl⟩ := hst.out.form
      have e1 : ((blocksOf X).map (·.1)).length = j := by rw [List.length_map, HK.out]
      have e2 : ((blocksOf X).map fun p => ((p.2 : Nat) : Int)).length = j := by rw [List.length_map, HK.out]
      rw [e1, e2] at HST
      rw [e1, e2]
      clear e1 e2 hst
      go_wp2_with fail
      go_ret3
      exact ⟨va, ca, vb, cb, rfl, HST.out.rowsB, HST.out.cnt, hco.out, hkp.out⟩

end Go.Proofs.YtejgkgnocgplbabGreat

/- The bundle of contracts, whole: the five names that the laws lean on. -/
namespace Go.Proofs.YtejgkgnocgplbabGreat
set_option linter.unusedVariables false
set_option linter.unusedSimpArgs false
open Go.RowKit Dg Cr

set_option maxHeartbeats 1000000 in
theorem sare_any (w : World) (a : Option Addr) (cap : Nat) (l : List Int) (h : IntsAt w a l) (hl : l.length ≤ 1000000) (t : Bool) (ht : t = decide (allS l)) :
    Calls Tryz.prog 12 #[.slice a l.length cap] w fun e w' => e = .returned (.bool t) ∧ w = w' := by
  have H : Hid (IntsAt w a l) := h
  have HT : Hid (t = decide (allS l)) := ht
  clear h ht
  go_enter Tryz.func12, Tryz.ntmps12
  go_wp2
  go_loopw [7] (fun i wr => ∃ k : Nat, k ≤ l.length ∧ i = .int .i64 k ∧ Hid (allS (l.take k)) ∧ w = wr) (fun i _ => l.length - (intOf i).toNat)
  case atStart => exact ⟨0, Nat.zero_le _, rfl, fun x hx => by simp at hx, rfl⟩
  case round =>
    obtain ⟨k, hk, rfl, hall, rfl⟩ := hrel
    by_cases hkn : k < l.length
    · obtain ⟨x, hx⟩ : ∃ x, l[k]? = some x := ⟨l[k], by simp [hkn]⟩
      obtain ⟨b, off, rfl, hc⟩ := H.out k x hx
      have HX : Hid (l[k]? = some x) := hx
      clear hx
      have hbad : ¬ isS x → t = false := fun hn => by
        rw [HT.out]
        exact decide_eq_false (fun ha => hn (ha x (List.mem_of_getElem? HX.out)))
      by_cases hlo : x < -8388608
      · have ht := hbad (by unfold isS; omega)
        subst ht
        clear hbad
        go_wp2_with fail
        go_ret
        exact ⟨rfl, rfl⟩
      · by_cases hhi : 8388607 < x
        · have ht := hbad (by unfold isS; omega)
          subst ht
          clear hbad
          go_wp2_with fail
          go_ret
          exact ⟨rfl, rfl⟩
        · clear hbad
          go_wp2_with fail
          refine ⟨⟨k + 1, by omega, by go_num, ?_, by trivial⟩, by (simp [intOf]) <;> omega⟩
          show allS _
          rw [take_next l k x HX.out]
          exact hall.out.snoc (by unfold isS; omega)
    · have e : k = l.length := by omega
      subst e
      have ht : t = true := by
        have := hall.out
        rw [List.take_length] at this
        rw [HT.out]; exact decide_eq_true this
      subst ht
      go_wp2_with fail
      go_ret
      exact ⟨rfl, rfl⟩

set_option maxRecDepth 100000 in
set_option maxHeartbeats 4000000 in
theorem sseal2_any : ∀ w b base top n m a cap l R, CoS w b base top n m → Bs w a cap l → (l ≠ [] → ∀ y, a = some y → ¬ InCo base top y.block) → l.length ≤ 100000 → n ≤ 100000 → (∀ x ∈ l, x < 256) → R = sealOut l →
    Calls Tryz.prog 16 #[.pointer (some ⟨b, 0, none⟩), .slice a l.length cap] w fun e w' => ∃ v, e = .returned (.tuple #[v, .int .i64 R.2]) ∧ OwnBytes w' w.heap.size v R.1 ∧ CoS w' b base top (if R.2 = 0 then n + 1 else n) m ∧ Kept (InCo base top) w w' := by
  intro w b base top n m a cap l R hco hb hf hl hn h256 hR
  unfold sealOut at hR
  have HCO := hid_of hco
  by_cases h : 124 < l.length
  · rw [if_pos h] at hR
    subst hR
    clear hco hb hf h256
    go_enter Tryz.func16, Tryz.ntmps16
    go_wp2_with fail
    go_ret2
    exact ⟨_, rfl, OwnBytes.nil _ _, HCO.out, Kept.refl _ _⟩
  · rw [if_neg h] at hR
    subst hR
    have HC := hid_of (sseal_any w b base top n m a cap l hco hb hf (by omega) (by omega) h256)
    clear hco hb hf h256
    go_enter Tryz.func16, Tryz.ntmps16
    go_wp2_with fail
    refine HC.out.mono ?_
    rintro e w1 ⟨v1, rfl, h1, hco1, hk1⟩
    have H1 := hid_of h1
    have HCO1 := hid_of hco1
    have HK1 := hid_of hk1
    clear h1 hco1 hk1
    go_wp2_with fail
    go_ret2
    exact ⟨_, rfl, H1.out, HCO1.out, HK1.out⟩

set_option maxRecDepth 100000 in
set_option maxHeartbeats 4000000 in
theorem sallno_any : ∀ w b base top n m a cap x, CoS w b base top n m → Ns w a cap x → (x ≠ [] → ∀ y, a = some y → ¬ InCo base top y.block) → x.length ≤ 100000 → ¬ allS x →
    Calls Tryz.prog 15 #[.pointer (some ⟨b, 0, none⟩), .slice a x.length cap] w fun e w' => ∃ v u, e = .returned (.tuple #[v, u, .int .i64 8]) ∧ CoS w' b base top n m ∧ Kept (InCo base top) w w' := by
  intro w b base top n m a cap x hco hx hf hl hS
  have HCO := hid_of hco
  have HA := hid_of (sare_any w a cap x hx.at_ (by omega) false (decide_eq_false hS).symm)
  clear hco hx hf hS
  go_enter Tryz.func15, Tryz.ntmps15
  go_wp2_with fail
  refine HA.out.mono ?_
  rintro e w0 ⟨rfl, rfl⟩
  go_wp2_with fail
  go_ret3
  exact ⟨_, _, rfl, HCO.out, Kept.refl _ _⟩

set_option maxRecDepth 100000 in
set_option maxHeartbeats 4000000 in
theorem spack2_any : PackC CoS := by
  intro w b base top n m a cap x R hco hx hf hl hn hR
  unfold packOut at hR
  have HCO := hid_of hco
  by_cases h0 : x.length = 0
  · rw [if_pos h0] at hR
    subst hR
    have hb : ((x.length : Int) == 0) = true := beq_iff_eq.2 (by omega)
    clear hco hx hf h0
    go_enter Tryz.func7, Tryz.ntmps7
    go_wp2_with fail
    go_ret3
    exact ⟨_, rfl, OwnBytes.nil _ _, HCO.out, Kept.refl _ _⟩
  rw [if_neg h0] at hR
  have hb : ((x.length : Int) == 0) = false := beq_eq_false_iff_ne.2 (by omega)
  by_cases hS : allS x
  · rw [if_pos hS] at hR
    subst hR
    have HA := hid_of (sare_any w a cap x hx.at_ (by omega) true (decide_eq_true hS).symm)
    obtain ⟨q, hq⟩ : ∃ q, q = manyN x := ⟨_, rfl⟩
    obtain ⟨E, hE⟩ : ∃ E, E = encB (x.take q) := ⟨_, rfl⟩
    have HPE : Hid (sealL E = packL x) := by show _ = _; rw [hE, hq]; rfl
    have hE124 : E.length ≤ 124 := by rw [hE, hq]; exact manyN_fits hS (by omega)
    have HE256 : Hid (∀ y ∈ E, y < 256) := by rw [hE]; exact encB_lt _
    have HC := hid_of (slong_any w a cap x hx (by omega) hl hS q hq E hE)
    have htop : top ≤ w.heap.size := hco.lt.2.2
    have HQ := hid_of hq
    clear hq hE
    clear hco hx hf h0 hS
    go_enter Tryz.func7, Tryz.ntmps7
    go_wp2_with fail
    refine HA.out.mono ?_
    rintro e w0 ⟨rfl, rfl⟩
    go_wp2_with fail
    refine HC.out.mono ?_
    rintro e w1 ⟨v1, rfl, h1, hb1⟩
    obtain ⟨ea, ec, rfl, hbs⟩ := OwnBytes.bs h1
    have HCO1 : Hid (CoS w1 b base top n m) := HCO.out.keep (Below.kept0 hb1) (fun i hi hf => by have := hi.2; omega)
    have HCS := hid_of (sseal_any w1 b base top n m ea ec E HCO1.out hbs (fun _ => far_own h1 (by omega)) hE124 (by omega) HE256.out)
    have HKB := hid_of (Below.kept0 hb1)
    clear h1 hb1 hbs HC HCO1
    go_wp2_with fail
    refine HCS.out.mono ?_
    rintro e w2 ⟨v2, rfl, h2, hco1, hk2⟩
    rw [HPE.out] at h2
    have h1 := ownsRow_base h2 HKB.out.size
    have hk1 : Kept (InCo base top) w w2 := (HKB.out.mono (G := InCo base top) (fun i hi hf => by omega)).trans hk2
    clear h2 hk2 HKB HCS
    have H1 := hid_of h1
    have HCO1 := hid_of hco1
    have HK1 := hid_of hk1
    clear h1 hco1 hk1
    go_wp2_with fail
    go_ret3
    exact ⟨_, by show _ = Ending.returned (Value.tuple #[_, .int .i64 ((manyN x : Nat) : Int), _]); rw [← HQ.out]; rfl, H1.out, HCO1.out, HK1.out⟩
  · rw [if_neg hS] at hR
    subst hR
    have HA := hid_of (sare_any w a cap x hx.at_ (by omega) false (decide_eq_false hS).symm)
    clear hco hx hf h0 hS
    go_enter Tryz.func7, Tryz.ntmps7
    go_wp2_with fail
    refine HA.out.mono ?_
    rintro e w0 ⟨rfl, rfl⟩
    go_wp2_with fail
    go_ret3
    exact ⟨_, rfl, OwnBytes.nil _ _, HCO.out, Kept.refl _ _⟩

theorem blkS : Blk CoS where
  lt := CoS.lt
  keep := CoS.keep
  newB := snew_any
  sealB := sseal2_any
  allNo := sallno_any
  allB := fun w b base top n m a cap x k hco hx hf hl hn hS hk => sall_any (Co := CoS) CoS.lt CoS.keep sseal_any w b base top n m a cap x k hco hx hf hl hn hS hk (fun wx h => sare_any wx a cap x h (by omega) true (decide_eq_true hS).symm)
end Go.Proofs.YtejgkgnocgplbabGreat
