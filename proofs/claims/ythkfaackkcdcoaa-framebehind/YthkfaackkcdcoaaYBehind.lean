/- FrameBehind: the walk of the law. -/
import Derived.Test.YthkfaackkcdcoaaPart13
namespace Go.Proofs.Ythkfaackkcdcoaa
set_option linter.unusedVariables false
set_option linter.unusedSimpArgs false
open Go.RowKit Dg

theorem noOnes_app (a b : List Bool) : noOnes (a ++ b) = (noOnes a && noOnes b) := by simp [noOnes]
theorem noOnes_byte : ∀ x, x < 256 → noOnes ((List.range 8).map (digitOf x)) = decide (x = 0) := by decide +kernel
theorem noOnes_bytes (l : List Nat) (h : ∀ x ∈ l, x < 256) : noOnes (unpack l) = l.all fun x => decide (x = 0) := by
  induction l with
  | nil => rfl
  | cons x l ih =>
    rw [unpack_cons, noOnes_app, noOnes_byte x (h x (by simp)), ih (fun y hy => h y (by simp [hy]))]
    rfl
theorem noOnes_one {m j c : Nat} (hj : j < m) (hc : c < 256) : noOnes (unpack ((List.replicate m 0).set j c)) = decide (c = 0) := by
  rw [noOnes_bytes _ (fun x hx => by
    rcases List.mem_or_eq_of_mem_set hx with h | h
    · have := List.eq_of_mem_replicate h; omega
    · omega)]
  by_cases h0 : c = 0
  · rw [decide_eq_true h0, List.all_eq_true]
    intro x hx
    rcases List.mem_or_eq_of_mem_set hx with h | h
    · simpa using List.eq_of_mem_replicate h
    · simp [h, h0]
  · rw [decide_eq_false h0, List.all_eq_false]
    exact ⟨c, List.mem_set (by simpa using hj) c, by simp [h0]⟩
theorem behind_set (L : List Nat) (m j c : Nat) (hj : j < m) : (L ++ List.replicate m 0).set (L.length + j) c = L ++ (List.replicate m 0).set j c := by
  rw [List.set_append_right _ _ (by omega)]
  simp
theorem slice_bytes (a : Option Addr) (n cap k : Nat) (hk : k ≤ cap) (W : World) : (Instr.sliceAt 26 (.slice a n cap) none (some (.int .i64 (k : Int))) none).run Try.prog W = .ok (.slice a k cap) W := by
  obtain ⟨i0, hi, hz0, hz1, hz2⟩ := info_parts Try.info5
  simp [Instr.sliceAt, Instr.slice, Instr.sliceBounds, Instr.sliceBound, asIntOf, run_underlying Try.underlying26, sizeOf, typeInfo, hi, hk]
  cases a <;> simp [Addr.add]
theorem dec_yes {l : List Nat} {x : List Int} (h : decD (unpack l) = some x) : decOut 2 l = (x, 0) := by unfold decOut; rw [h]
theorem dec_no {l : List Nat} (h : decD (unpack l) = none) : decOut 2 l = ([], 2) := by unfold decOut; rw [h]

set_option maxRecDepth 100000 in
set_option maxHeartbeats 4000000 in
theorem ybeh_any (W : World) (a : Option Addr) (len cap : Nat) (z : List Int) (tone n noise more at_ c : Int) (hr : IsRow .i64 W a len cap z) (ht : I64 tone) (hn : I64 n) (hno : I64 noise) (hmo : I64 more) (hat_ : I64 at_) (hc : 0 ≤ c ∧ c < 256) :
    Calls Try.prog 4 #[.slice a len cap, .int .i64 tone, .int .i64 n, .int .i64 noise, .int .i64 more, .int .i64 at_, .int .u8 c] W fun e W' => e = .returned (.bool true) ∧ Below W.heap.size W W' := by
  obtain ⟨l, hll, hI, hat, hle, hm, hnone, hblk⟩ := hr.ints
  subst hll
  have HA : Hid (IntsAt W a l) := hat
  have HI : Hid (∀ x ∈ l, I64 x) := hI
  have HM : Hid (l.length ≤ maxLen) := Nat.le_trans hle hm
  obtain ⟨M, hM⟩ : ∃ M : Nat, n % 64 = (M : Int) := ⟨(n % 64).toNat, by omega⟩
  obtain ⟨N, hN⟩ : ∃ N : Nat, 1 + (M : Int) = (N : Int) := ⟨M + 1, by omega⟩
  have HMM := hid_of hM
  have hN1 : 1 ≤ N := by omega
  have hN64 : N ≤ 64 := by omega
  have HN65 : Hid ((N : Int) % 65 = (N : Int)) := by show _ = _; omega
  have HTI := hid_of ht
  have HNO := hid_of hno
  obtain ⟨hn1, hn2⟩ := hn
  obtain ⟨hat1, hat2⟩ := hat_
  obtain ⟨hmo1, hmo2⟩ := hmo
  obtain ⟨m', hm'⟩ : ∃ m : Nat, more % 30 = (m : Int) := ⟨(more % 30).toNat, by omega⟩
  obtain ⟨m, hmm⟩ : ∃ m : Nat, 1 + (m' : Int) = (m : Int) := ⟨m' + 1, by omega⟩
  have HM' := hid_of hm'
  have hm1 : 1 ≤ m := by omega
  have hm30 : m ≤ 30 := by omega
  obtain ⟨cn, rfl⟩ := Int.eq_ofNat_of_zero_le hc.1
  have hc256 : cn < 256 := by omega
  clear hat hI hle hm hnone hblk hr hM ht hno hm' hc
  go_enter Try.func4, Try.ntmps4
  go_wp2_with fail
  refine (within_any n 64 W hn1 hn2 (by decide) (by decide)).mono ?_
  rw [HMM.out]
  rintro e w0 ⟨rfl, rfl⟩
  go_wp2_with fail
  refine (tone_any W a cap l (N : Int) tone noise N HA.out HM.out HI.out ⟨by omega, by omega⟩ HTI.out HNO.out HN65.out).mono ?_
  rintro e w1 ⟨v1, xs, rfl, hv1, hxl, hxb, hb1⟩
  obtain ⟨a1, c1, rfl, hn1', -, -⟩ := hv1.ns
  have HB1 := hid_of hb1
  have HN1 := hid_of hn1'
  have hs1 : W.heap.size ≤ w1.heap.size := hb1.size
  have hxl1 : 1 ≤ xs.length := by omega
  have hxl2 : xs.length ≤ 64 := by omega
  have hXm : mayX xs := ⟨hxl1, hxl2, fun y hy => by have := hxb y hy; unfold isS; omega⟩
  obtain ⟨s, hs⟩ := shift_may xs
  have HS := hid_of hs
  obtain ⟨i, -, hi, -⟩ := bestF_any hXm s
  have hDl := frm_len hi
  have hDp := (frm_ne hi).1
  obtain ⟨D, hD⟩ : ∃ D, D = bestF xs s 19 := ⟨_, rfl⟩
  rw [← hD] at hi hDl hDp
  obtain ⟨L, hL⟩ : ∃ L, L = pack D := ⟨_, rfl⟩
  have HR : Hid ((L, 0) = encOut xs s) := by show _ = _; rw [encOut_may hXm, hL, hD]
  have hL1 : 1 ≤ L.length := by rw [hL, length_pack]; omega
  have hL2 : L.length ≤ 10000 := by rw [hL, length_pack]; omega
  have HL256 : Hid (∀ x ∈ L, x < 256) := by rw [hL]; exact pack_lt _
  obtain ⟨q, hq⟩ : ∃ q : Nat, (L.length : Int) - 1 = (q : Int) := ⟨L.length - 1, by omega⟩
  have hqL : q ≤ L.length := by omega
  have HD1 : Hid ((xs, 0) = decOut 2 (L ++ List.replicate m 0)) := by
    show _ = _
    have h1 := decD_pack hi (List.replicate m 0)
    rw [← hL, unpack_zeros, noOnes_zeros, if_pos rfl] at h1
    exact (dec_yes h1).symm
  have HD2 : Hid (∀ j, j < m → (if cn = 0 then (xs, 0) else ([], 2)) = decOut 2 (L ++ (List.replicate m 0).set j cn)) := by
    intro j hj
    have h1 := decD_pack hi ((List.replicate m 0).set j cn)
    rw [← hL, noOnes_one hj hc256] at h1
    by_cases h0 : cn = 0
    · rw [decide_eq_true h0, if_pos rfl] at h1
      rw [if_pos h0]
      exact (dec_yes h1).symm
    · rw [decide_eq_false h0, if_neg (by decide)] at h1
      rw [if_neg h0]
      exact (dec_no h1).symm
  have hdq : decD (unpack (L.take q)) = none := by
    have h1 := decD_short8 hi
    rw [← hL] at h1
    have e : L.length - 1 = q := by omega
    rw [e] at h1
    exact h1
  have HD3 : Hid (([], 2) = decOut 2 (L.take q)) := (dec_no hdq).symm
  have HD4 : Hid ((-1 : Int) = kindOut (L.take q)) := by show _ = _; unfold kindOut; rw [hdq]
  have HQ256 : Hid (∀ x ∈ L.take q, x < 256) := fun x hx => HL256.out x (List.mem_of_mem_take hx)
  have hql : (L.take q).length ≤ 1000000 := by rw [List.length_take]; omega
  have hLb : ((L.length : Int) == 0) = false := beq_eq_false_iff_ne.2 (by omega)
  clear hv1 hb1 hn1' hxl hxb HA HI HM HTI HNO HN65 HMM hXm hs hi hDl hDp hD hL hdq
  go_wp2_with fail
  refine (fenc_full w1 s a1 c1 xs HN1.out (by omega) HS.out _ HR.out).mono ?_
  rintro e w2 ⟨v2, rfl, h2, hf2, hb2⟩
  obtain ⟨g2, rfl⟩ : ∃ g, v2 = .slice (some ⟨g, 0, none⟩) L.length L.length := by
    rcases hf2 with ⟨-, h⟩ | h
    · exfalso; simp at h; rw [h] at hL1; exact absurd hL1 (by decide)
    · exact h
  have HS2 := hid_of (SlAt.of_owns h2)
  have HB2 : Hid (Below W.heap.size W w2) := HB1.out.trans (hb2.mono hs1)
  have HX2 := hid_of (HN1.out.mono hb2)
  have hs2 : W.heap.size ≤ w2.heap.size := HB2.out.size
  clear h2 hf2 hb2 HN1 HB1
  go_wp2_with fail
  refine (within_any more 30 w2 hmo1 hmo2 (by decide) (by decide)).mono ?_
  rw [HM'.out]
  rintro e w0 ⟨rfl, rfl⟩
  go_wp2_with fail
  refine (copyB_any w2 _ L HS2.out (by omega) (fun n c h => by cases h)).mono ?_
  rintro e w3 ⟨v3, rfl, h3, hb3⟩
  obtain ⟨g3, c3, rfl⟩ : ∃ g c, v3 = .slice (some ⟨g, 0, none⟩) L.length c := by
    rcases h3.2 with ⟨_, h0⟩ | ⟨g', cap', cur, hv, -⟩
    · exfalso
      omega
    · exact ⟨g', cap', hv⟩
  have hg3 := (World.ownsRow.lt h3 g3 rfl).1
  have HS3 := hid_of (HS2.out.below hb3)
  have HX3 := hid_of (HX2.out.mono hb3)
  have HB3 : Hid (Below W.heap.size W w3) := HB2.out.trans (hb3.mono hs2)
  have hs23 : w2.heap.size ≤ w3.heap.size := hb3.size
  have hs3 : W.heap.size ≤ w3.heap.size := HB3.out.size
  obtain ⟨g4, c4, w4, hap, ho4, hgr⟩ := run_zeros w3 w2.heap.size g3 L.length c3 m L h3 (by omega) hs23
  obtain ⟨T, hT⟩ : ∃ T, T = L.length + m := ⟨_, rfl⟩
  rw [← hT] at hap ho4
  have HT := hid_of hT
  have hTb : T ≤ 20000 := by omega
  have HAP : Hid ((Builtin.append_ #[26, 3] 26 #[.slice (some ⟨g3, 0, none⟩) L.length c3, .int .i64 m]).run Try.prog w3 = .ok (.slice (some ⟨g4, 0, none⟩) T c4) w4) := hap
  have HO4 := hid_of ho4
  have hk4 : Kept (fun k => some g3 = some k) w3 w4 := Kept.grown hgr
  have hg4 := World.ownsRow.lt ho4 g4 rfl
  have HG4 : Hid (w2.heap.size ≤ g4) := hg4.1
  have HFAR : Hid (∀ k, k < w2.heap.size → ¬ (some g3 = some k)) := fun k hk e => by cases e; omega
  have HS2lt : Hid (g2 < w2.heap.size) := by
    obtain ⟨ao, cc, e2, hc2⟩ := HS2.out
    cases e2
    obtain ⟨x, hx⟩ : ∃ x, L[0]? = some x := ⟨L[0]'(by omega), by simp⟩
    obtain ⟨b0, o0, e0, hc0⟩ := hc2 0 x hx
    cases e0
    exact World.block_lt_of_cell? w2 _ hc0
  have HX2lt : Hid (∀ y, a1 = some y → y.block < w2.heap.size) := by
    intro y hy
    obtain ⟨x, hx⟩ : ∃ x, xs[0]? = some x := ⟨xs[0]'(by omega), by simp⟩
    obtain ⟨b0, o0, e0, hc0⟩ := HX2.out.at_ 0 x hx
    rw [hy] at e0
    cases e0
    exact World.block_lt_of_cell? w2 _ hc0
  have HS4 : Hid (SlAt w4 (.slice (some ⟨g2, 0, none⟩) L.length L.length) L) := HS3.out.kept hk4 (fun k hk => by simp [Value.ownBlock] at hk; subst hk; exact HFAR.out _ HS2lt.out)
  have HX4 : Hid (IntsAt w4 a1 xs) := HX3.out.at_.kept hk4 (fun y hy => HFAR.out _ (HX2lt.out y hy))
  have HB4 : Hid (Below W.heap.size W w4) := hk4.below_of HB3.out (fun k h => by cases h; omega) hs3
  have hs4 : W.heap.size ≤ w4.heap.size := HB4.out.size
  have hs24 : w2.heap.size ≤ w4.heap.size := Nat.le_trans hs23 hk4.size
  clear h3 hb3 hap ho4 hgr hk4 hg3 hg4 HS2 HX2 HB2 HS3 HX3 HB3 hT HFAR
  go_wp2_with (at_builtin; go_must (refine wpList_append_go w3 rfl (.tmp 48) (.tmp 49) 26 3 rfl _ _ rfl rfl _ _ HAP.out ?_))
  have HZ256 : Hid (∀ x ∈ L ++ List.replicate m 0, x < 256) := fun x hx => by
    rcases List.mem_append.1 hx with h | h
    · exact HL256.out x h
    · have := List.eq_of_mem_replicate h; omega
  have hzl : (L ++ List.replicate m 0).length ≤ 1000000 := by simp; omega
  refine (fdec_any w4 _ _ (SlAt.of_owns HO4.out) hzl HZ256.out _ HD1.out).mono ?_
  rintro e w5 hg
  obtain ⟨a5, c5, rfl, -, hn5, hb5⟩ := hg.ok
  have HN5 := hid_of hn5.at_
  have HO5 : Hid (w5.ownsRow w2.heap.size 5 1 (.slice (some ⟨g4, 0, none⟩) T c4) T (u8s (L ++ List.replicate m 0))) := ownsRow_other (F := fun _ => False) HO4.out (Kept.of_below hb5) (fun _ _ h => h)
  have HS5 := hid_of (HS4.out.below hb5)
  have HX5 := hid_of (HX4.out.mono hb5)
  have HB5 : Hid (Below W.heap.size W w5) := HB4.out.trans (hb5.mono hs4)
  have hs5 : W.heap.size ≤ w5.heap.size := HB5.out.size
  have HG5 : Hid (∀ y, a5 = some y → w4.heap.size ≤ y.block) := by
    intro y hy
    have h1 := hg
    obtain ⟨v', e', h3, -⟩ := h1
    cases e'
    obtain ⟨a', c', e2, -, hz, -⟩ := h3.ns
    cases e2
    rcases hz with ⟨rfl, -, -⟩ | ⟨gg, rfl⟩
    · cases hy
    · cases hy
      exact (World.ownsRow.lt h3 gg rfl).1
  have HG4lt : Hid (g4 < w4.heap.size) := (World.ownsRow.lt HO4.out g4 rfl).2
  clear hg hn5 hb5 HO4 HS4 HX4 HB4 HAP
  go_wp2_with fail
  refine (within_nat at_ m w5 hat1 hat2 hm1 (by omega) _ rfl).mono ?_
  rintro e w0 ⟨j, rfl, hj, -, rfl⟩
  obtain ⟨P, hP⟩ : ∃ P : Nat, (L.length : Int) + (j : Int) = (P : Int) := ⟨L.length + j, by omega⟩
  have hPT : P < T := by have := HT.out; omega
  have hPe : P = L.length + j := by omega
  have hget : (L ++ List.replicate m 0)[P]? = some 0 := by
    rw [hPe, List.getElem?_append_right (by omega)]
    simp [hj]
  obtain ⟨hrc, hrf⟩ := own_cell HO5.out hget
  have ho6 := own_set HO5.out P cn hPT
  rw [hPe, behind_set L m j cn hj, ← hPe] at ho6
  have hxor : bits BinOp.xor IntKind.u8 ((0 : Nat) : Int) (cn : Int) = ((cn : Nat) : Int) := by rw [u8_xor_nat _ _ (by decide) hc256, Nat.zero_xor]
  have hxor0 : bits BinOp.xor IntKind.u8 0 (cn : Int) = ((cn : Nat) : Int) := hxor
  have HO6 := hid_of ho6
  have hk6 : Kept (fun k => k = g4) w5 (w5.setCell ⟨g4, P, none⟩ (.int .u8 (cn : Int))) := Kept.setCell _ _ _ rfl
  have HS6 : Hid (SlAt (w5.setCell ⟨g4, P, none⟩ (.int .u8 (cn : Int))) (.slice (some ⟨g2, 0, none⟩) L.length L.length) L) := HS5.out.kept hk6 (fun k hk e => by simp [Value.ownBlock] at hk; have h1 := HS2lt.out; have h2 := HG4.out; omega)
  have HX6 : Hid (IntsAt (w5.setCell ⟨g4, P, none⟩ (.int .u8 (cn : Int))) a1 xs) := HX5.out.kept hk6 (fun y hy e => by have h1 := HX2lt.out y hy; have h2 := HG4.out; omega)
  have HN6 : Hid (IntsAt (w5.setCell ⟨g4, P, none⟩ (.int .u8 (cn : Int))) a5 xs) := HN5.out.kept hk6 (fun y hy e => by have h1 := HG5.out y hy; have h2 := HG4lt.out; omega)
  have HB6 : Hid (Below W.heap.size W (w5.setCell ⟨g4, P, none⟩ (.int .u8 (cn : Int)))) := hk6.below_of HB5.out (fun k h => by have h2 := HG4.out; omega) hs5
  have HY256 : Hid (∀ x ∈ L ++ (List.replicate m 0).set j cn, x < 256) := fun x hx => by
    rcases List.mem_append.1 hx with h | h
    · exact HL256.out x h
    · rcases List.mem_or_eq_of_mem_set h with h | h
      · have := List.eq_of_mem_replicate h; omega
      · omega
  have hyl : (L ++ (List.replicate m 0).set j cn).length ≤ 1000000 := by simp; omega
  have HD2' := hid_of (HD2.out j hj)
  obtain ⟨⟨R2, k2⟩, hR2⟩ : ∃ R : List Int × Int, R = if cn = 0 then (xs, 0) else ([], 2) := ⟨_, rfl⟩
  have HD5 : Hid ((R2, k2) = decOut 2 (L ++ (List.replicate m 0).set j cn)) := by show _ = _; rw [hR2]; exact HD2'.out
  have hkc : (k2 = 0 ∧ cn = 0) ∨ (k2 = 2 ∧ cn ≠ 0) := by
    by_cases h0 : cn = 0
    · rw [if_pos h0] at hR2; cases hR2; exact .inl ⟨rfl, h0⟩
    · rw [if_neg h0] at hR2; cases hR2; exact .inr ⟨rfl, h0⟩
  clear ho6 hk6 HO5 HS5 HX5 HN5 HB5 HD2 HD2' hR2 hget hPe hxor
  go_wp2_with fail
  generalize w5.setCell ⟨g4, P, none⟩ (.int .u8 (cn : Int)) = w6 at *
  have hs6 : W.heap.size ≤ w6.heap.size := HB6.out.size
  refine (fdec_any w6 _ _ (SlAt.of_owns HO6.out) hyl HY256.out _ HD5.out).mono ?_
  rintro e w7 hg
  obtain ⟨a7, c7, rfl, -, -, hb7⟩ := hg.ok
  have HS7 := hid_of (HS6.out.below hb7)
  have HX7 := hid_of (HX6.out.mono hb7)
  have HN7 := hid_of (HN6.out.mono hb7)
  have HB7 : Hid (Below W.heap.size W w7) := HB6.out.trans (hb7.mono hs6)
  have hs7 : W.heap.size ≤ w7.heap.size := HB7.out.size
  clear hg hb7 HS6 HX6 HN6 HB6 HO6 hrc hrf
  have hsl := slice_bytes (some ⟨g2, 0, none⟩) L.length L.length q (by omega)
  go_wp2_with fail
  refine (fdec_any w7 _ _ (HS7.out.take q hqL rfl) hql HQ256.out _ HD3.out).mono ?_
  rintro e w8 hg
  obtain ⟨a8, c8, rfl, -, -, hb8⟩ := hg.ok
  have HS8 := hid_of (HS7.out.below hb8)
  have HX8 := hid_of (HX7.out.mono hb8)
  have HN8 := hid_of (HN7.out.mono hb8)
  have HB8 : Hid (Below W.heap.size W w8) := HB7.out.trans (hb8.mono hs7)
  have hs8 : W.heap.size ≤ w8.heap.size := HB8.out.size
  clear hg hb8 HS7 HX7 HN7 HB7
  rcases hkc with ⟨rfl, h0⟩ | ⟨rfl, h0⟩
  · have hcb : ((cn : Int) == 0) = true := beq_iff_eq.2 (by omega)
    clear h0
    go_wp2_with fail
    refine (sameInt_any w8 a5 a1 c5 c1 xs HN8.out HX8.out (by omega)).mono ?_
    rintro e w9 ⟨rfl, n9, rfl⟩
    go_wp2_with fail
    refine (fkind_any (w8.drewN n9) _ _ ((HS8.out.take q hqL rfl).drewN n9) hql HQ256.out _ HD4.out).mono ?_
    rintro e w10 ⟨rfl, hb10⟩
    have HB10 : Hid (Below W.heap.size W w10) := (below_drewN HB8.out n9).trans (hb10.mono hs8)
    have hs10 : W.heap.size ≤ w10.heap.size := HB10.out.size
    clear hb10
    go_wp2_with fail
    refine (wakes8_any _).mono ?_
    rintro e w11 ⟨rfl, hb11⟩
    have HB11 : Hid (Below W.heap.size W w11) := HB10.out.trans (hb11.mono hs10)
    clear hb11
    go_wp2
    go_ret
    exact ⟨rfl, HB11.out⟩
  · have hcb : ((cn : Int) == 0) = false := beq_eq_false_iff_ne.2 (by omega)
    clear h0
    go_wp2_with fail
    refine (sameInt_any w8 a5 a1 c5 c1 xs HN8.out HX8.out (by omega)).mono ?_
    rintro e w9 ⟨rfl, n9, rfl⟩
    go_wp2_with fail
    refine (fkind_any (w8.drewN n9) _ _ ((HS8.out.take q hqL rfl).drewN n9) hql HQ256.out _ HD4.out).mono ?_
    rintro e w10 ⟨rfl, hb10⟩
    have HB10 : Hid (Below W.heap.size W w10) := (below_drewN HB8.out n9).trans (hb10.mono hs8)
    have hs10 : W.heap.size ≤ w10.heap.size := HB10.out.size
    clear hb10
    go_wp2_with fail
    refine (wakes8_any _).mono ?_
    rintro e w11 ⟨rfl, hb11⟩
    have HB11 : Hid (Below W.heap.size W w11) := HB10.out.trans (hb11.mono hs10)
    clear hb11
    go_wp2
    go_ret
    exact ⟨rfl, HB11.out⟩

end Go.Proofs.Ythkfaackkcdcoaa
