/- CrcWhole: the walk of the law. -/
import Derived.Test.YthcjgcfmodkiiaaCrc6
namespace Go.Proofs.Ythcjgcfmodkiiaa
set_option linter.unusedVariables false
set_option linter.unusedSimpArgs false
open Go.RowKit Dg Cr

set_option maxHeartbeats 4000000 in
theorem whole_any (w : World) (a : Option Addr) (len cap : Nat) (zs : List Int) (a' : Option Addr) (len' cap' : Nat) (zs' : List Int) (n : Int) (hr : IsRow .u8 w a len cap zs) (hr' : IsRow .u8 w a' len' cap' zs') (hn : -9223372036854775808 ≤ n ∧ n ≤ 9223372036854775807) :
    Calls Try.prog 4 #[.slice a len cap, .slice a' len' cap', .int .i64 n] w fun e w' => e = .returned (.bool true) ∧ Below w.heap.size w w' := by
  obtain ⟨i0, hi, hz0, hz1, hz2⟩ := info_parts Try.info5
  obtain ⟨l, hll, h256, hsl, hc1, hc2, hc3⟩ := cut_row (n := 80) hr
  obtain ⟨l', hll', h256', hsl', hc1', hc2', hc3'⟩ := cut_row (n := 80) hr'
  obtain ⟨N, hN⟩ := Int.eq_ofNat_of_zero_le (show 0 ≤ n % 9 by omega)
  have hN9 : N < 9 := by omega
  have HN : Hid (n % 9 = (N : Int)) := hN
  have HLL : Hid (min len 80 = l.length) := hll.symm
  have hl3 : l.length ≤ 80 := by omega
  have HS : Hid (SlAt w (.slice a l.length cap) l) := by rw [hll]; exact hsl
  have H256 : Hid (∀ x ∈ l, x < 256) := h256
  have HC3 : Hid (a = none → len = 0 ∧ cap = 0) := hc3
  have HLL' : Hid (min len' 80 = l'.length) := hll'.symm
  have hl3' : l'.length ≤ 80 := by omega
  have HS' : Hid (SlAt w (.slice a' l'.length cap') l') := by rw [hll']; exact hsl'
  have H256' : Hid (∀ x ∈ l', x < 256) := h256'
  have HC3' : Hid (a' = none → len' = 0 ∧ cap' = 0) := hc3'
  have HCX : Hid (∀ n c, (Value.slice a l.length cap) = .slice none n c → c = 0) := fun n c e => by cases e; exact (hc3 rfl).2
  have HCY : Hid (∀ n c, (Value.slice a' l'.length cap') = .slice none n c → c = 0) := fun n c e => by cases e; exact (hc3' rfl).2
  obtain ⟨X, hX⟩ : ∃ X, X = (crc ones l).toNat := ⟨_, rfl⟩
  obtain ⟨Y, hY⟩ : ∃ Y, Y = (crc ones l').toNat := ⟨_, rfl⟩
  have hX32 : X < 4294967296 := by rw [hX]; exact BitVec.isLt _
  have hY32 : Y < 4294967296 := by rw [hY]; exact BitVec.isLt _
  have HX : Hid (X = (crc ones l).toNat) := hX
  have HY : Hid (Y = (crc ones l').toNat) := hY
  clear hll h256 hsl hc3 hr hX hll' h256' hsl' hc3' hr' hY hN
  go_enter Try.func4, Try.ntmps4
  go_wp2_with fail
  refine (cut_any w a len cap 80 (by decide) hc1 hc2 HC3.out).mono ?_
  rintro e w0 ⟨rfl, rfl⟩
  rw [HLL.out]
  go_wp2_with fail
  refine (cut_any w a' len' cap' 80 (by decide) hc1' hc2' HC3'.out).mono ?_
  rintro e w0 ⟨rfl, rfl⟩
  rw [HLL'.out]
  go_wp2_with fail
  refine (within_any n 9 w hn.1 hn.2 (by decide) (by decide)).mono ?_
  rintro e w0 ⟨rfl, rfl⟩
  rw [HN.out]
  go_wp2_with fail
  refine (tnew_any w).mono ?_
  rintro e w1 ⟨rfl, ht1, hb1, hs1⟩
  have HT1 : Hid (TbAt w1 w.heap.size false) := ht1
  have HB1 : Hid (Below w.heap.size w w1) := hb1
  clear ht1 hb1
  go_wp2_with fail
  refine (tsum_at w1 w.heap.size _ _ l X HX.out HT1.out (HS.out.below HB1.out) (fun h k hk => by have := HS.out.lt h k hk; omega) (by omega) H256.out).mono ?_
  rintro e w2 ⟨rfl, ht2, hk2⟩
  obtain ⟨m2, hm2⟩ : ∃ m2, m2 = (false || !l.isEmpty) := ⟨_, rfl⟩
  rw [← hm2] at ht2
  have HT2 : Hid (TbAt w2 w.heap.size m2) := ht2
  have HB2 : Hid (Below w.heap.size w w2) := hk2.below_of HB1.out (fun k h => by omega) (by omega)
  have hs2 : w1.heap.size ≤ w2.heap.size := hk2.size
  clear ht2 hk2 hm2
  go_wp2_with fail
  refine (tsum_at w2 w.heap.size _ _ l' Y HY.out HT2.out (HS'.out.below HB2.out) (fun h k hk => by have := HS'.out.lt h k hk; omega) (by omega) H256'.out).mono ?_
  rintro e w3 ⟨rfl, ht3, hk3⟩
  obtain ⟨m3, hm3⟩ : ∃ m3, m3 = (m2 || !l'.isEmpty) := ⟨_, rfl⟩
  rw [← hm3] at ht3
  have HT3 : Hid (TbAt w3 w.heap.size m3) := ht3
  have HB3 : Hid (Below w.heap.size w w3) := hk3.below_of HB2.out (fun k h => by omega) (by omega)
  have hs3 : w2.heap.size ≤ w3.heap.size := hk3.size
  clear ht3 hk3 hm3
  go_wp2_with fail
  refine (copyB_any w3 _ l (HS.out.below HB3.out) (by omega) HCX.out).mono ?_
  rintro e w4 ⟨v, rfl, ho, hb⟩
  have HO4 : Hid (w4.ownsRow w3.heap.size 5 1 v l.length (u8s l)) := ho
  have HT4 : Hid (TbAt w4 w.heap.size m3) := HT3.out.below hb (by omega)
  have HB4 : Hid (Below w.heap.size w w4) := HB3.out.trans (hb.mono (by omega))
  have hs4 : w3.heap.size ≤ w4.heap.size := hb.size
  clear ho hb
  have FV : Hid (∀ k, v.ownBlock = some k → w3.heap.size ≤ k ∧ k < w4.heap.size) := fun k hk => HO4.out.lt k hk
  go_wp2_with (at_builtin; go_must (refine wpList_append_four w4 rfl (.tmp 28) (.tmp 40) rfl w3.heap.size v l X rfl HO4.out rfl hX32 (by omega) (by omega) ?_); intro g1 cap1 w5 HO5 HK5 HG5)
  have hg5 := HG5.out
  have hs5 : w4.heap.size ≤ w5.heap.size := HK5.out.size
  have HT5 : Hid (TbAt w5 w.heap.size m3) := HT4.out.kept HK5.out (fun h => by have := FV.out _ h; omega)
  have HB5 : Hid (Below w.heap.size w w5) := HK5.out.below_of HB4.out (fun k h => by have := FV.out _ h; omega) (by omega)
  clear HO4 HT4 HB4 HK5 FV HG5
  go_wp2_with fail
  refine (copyB_any w5 _ l' (HS'.out.below HB5.out) (by omega) HCY.out).mono ?_
  rintro e w6 ⟨v', rfl, ho, hb⟩
  have HO6' : Hid (w6.ownsRow w5.heap.size 5 1 v' l'.length (u8s l')) := ho
  have HO6 : Hid (w6.ownsRow w3.heap.size 5 1 (.slice (some ⟨g1, 0, none⟩) (l.length + 4) cap1) (l.length + 4) (u8s (l ++ bytes4 X))) := ownsRow_other HO5.out (Kept.of_below hb) (fun _ _ h => h)
  have HT6 : Hid (TbAt w6 w.heap.size m3) := HT5.out.below hb (by omega)
  have HB6 : Hid (Below w.heap.size w w6) := HB5.out.trans (hb.mono (by omega))
  have hs6 : w5.heap.size ≤ w6.heap.size := hb.size
  clear ho hb HO5 HT5 HB5
  have FV' : Hid (∀ k, v'.ownBlock = some k → w5.heap.size ≤ k ∧ k < w6.heap.size) := fun k hk => HO6'.out.lt k hk
  go_wp2_with (at_builtin; go_must (refine wpList_append_four w6 rfl (.tmp 43) (.tmp 55) rfl w5.heap.size v' l' Y rfl HO6'.out rfl hY32 (by omega) (by omega) ?_); intro g2 cap2 w7 HO7' HK7 HG7)
  have hg7 := HG7.out
  have hs7 : w6.heap.size ≤ w7.heap.size := HK7.out.size
  have HO7 : Hid (w7.ownsRow w3.heap.size 5 1 (.slice (some ⟨g1, 0, none⟩) (l.length + 4) cap1) (l.length + 4) (u8s (l ++ bytes4 X))) := ownsRow_other HO6.out HK7.out (fun k hk h => by have := FV'.out _ h; simp [Value.ownBlock] at hk; omega)
  have HT7 : Hid (TbAt w7 w.heap.size m3) := HT6.out.kept HK7.out (fun h => by have := FV'.out _ h; omega)
  have HB7 : Hid (Below w.heap.size w w7) := HK7.out.below_of HB6.out (fun k h => by have := FV'.out _ h; omega) (by omega)
  clear HO6 HO6' HT6 HB6 HK7 FV' HG7
  have HE0 : Hid (0 = (crc ones (l ++ bytes4 X)).toNat) := by show _ = _; rw [HX.out, crc_whole]; rfl
  have HEx : Hid (0 = (crc ones ((l ++ bytes4 X) ++ List.replicate N 0)).toNat) := by show _ = _; rw [crc_append, HX.out, crc_whole, crc_noughts]; rfl
  have HEy : Hid (0 = (crc ones ((l' ++ bytes4 Y) ++ List.replicate N 0)).toNat) := by show _ = _; rw [crc_append, HY.out, crc_whole, crc_noughts]; rfl
  have HX256 : Hid (∀ x ∈ l ++ bytes4 X, x < 256) := fun x hx => by rcases List.mem_append.1 hx with h | h; exact H256.out x h; exact bytes4_lt X x h
  have HY256 : Hid (∀ x ∈ l' ++ bytes4 Y, x < 256) := fun x hx => by rcases List.mem_append.1 hx with h | h; exact H256'.out x h; exact bytes4_lt Y x h
  go_wp2_with fail
  refine (tsum_at w7 w.heap.size _ _ (l ++ bytes4 X) 0 HE0.out HT7.out (SlAt.of_owns HO7.out) (fun _ k hk => by simp [Value.ownBlock] at hk; omega) (by simp; omega) HX256.out).mono ?_
  rintro e w8 ⟨rfl, ht8, hk8⟩
  obtain ⟨m8, hm8⟩ : ∃ m8, m8 = (m3 || !(l ++ bytes4 X).isEmpty) := ⟨_, rfl⟩
  rw [← hm8] at ht8
  have HT8 : Hid (TbAt w8 w.heap.size m8) := ht8
  have HO8 : Hid (w8.ownsRow w3.heap.size 5 1 (.slice (some ⟨g1, 0, none⟩) (l.length + 4) cap1) (l.length + 4) (u8s (l ++ bytes4 X))) := ownsRow_other HO7.out hk8 (fun k hk h => by simp [Value.ownBlock] at hk; omega)
  have HO8' : Hid (w8.ownsRow w5.heap.size 5 1 (.slice (some ⟨g2, 0, none⟩) (l'.length + 4) cap2) (l'.length + 4) (u8s (l' ++ bytes4 Y))) := ownsRow_other HO7'.out hk8 (fun k hk h => by simp [Value.ownBlock] at hk; omega)
  have HB8 : Hid (Below w.heap.size w w8) := hk8.below_of HB7.out (fun k h => by omega) (by omega)
  have hs8 : w7.heap.size ≤ w8.heap.size := hk8.size
  clear ht8 hk8 hm8 HO7 HO7' HT7 HB7
  obtain ⟨g3, cap3, w9, hap, ho9, hgr⟩ := run_zeros w8 w3.heap.size g1 (l.length + 4) cap1 N (l ++ bytes4 X) HO8.out (by omega) (by omega)
  have HAP : Hid ((Builtin.append_ #[22, 3] 22 #[.slice (some ⟨g1, 0, none⟩) (l.length + 4) cap1, .int .i64 N]).run Try.prog w8 = .ok (.slice (some ⟨g3, 0, none⟩) (l.length + 4 + N) cap3) w9) := hap
  have HO9 : Hid (w9.ownsRow w3.heap.size 5 1 (.slice (some ⟨g3, 0, none⟩) (l.length + 4 + N) cap3) (l.length + 4 + N) (u8s ((l ++ bytes4 X) ++ List.replicate N 0))) := ho9
  have hg9 : w3.heap.size ≤ g3 ∧ g3 < w9.heap.size := ho9.lt g3 rfl
  have hk9 : Kept (fun k => some g1 = some k) w8 w9 := Kept.grown hgr
  have hs9 : w8.heap.size ≤ w9.heap.size := hk9.size
  have HT9 : Hid (TbAt w9 w.heap.size m8) := HT8.out.kept hk9 (fun h => by cases h; omega)
  have HO9' : Hid (w9.ownsRow w5.heap.size 5 1 (.slice (some ⟨g2, 0, none⟩) (l'.length + 4) cap2) (l'.length + 4) (u8s (l' ++ bytes4 Y))) := ownsRow_other HO8'.out hk9 (fun k hk h => by cases h; simp [Value.ownBlock] at hk; omega)
  have HB9 : Hid (Below w.heap.size w w9) := hk9.below_of HB8.out (fun k h => by cases h; omega) (by omega)
  clear hap ho9 hgr hk9 HO8 HO8' HT8 HB8
  go_wp2_with (at_builtin; go_must (refine wpList_append_go w8 rfl (.tmp 63) (.tmp 64) 22 3 rfl _ _ rfl rfl _ _ HAP.out ?_))
  refine (tsum_at w9 w.heap.size _ _ ((l ++ bytes4 X) ++ List.replicate N 0) 0 HEx.out HT9.out (SlAt.of_owns HO9.out) (fun _ k hk => by simp [Value.ownBlock] at hk; omega) (by simp; omega) (fun x hx => by rcases List.mem_append.1 hx with h | h; exact HX256.out x h; have := List.eq_of_mem_replicate h; omega)).mono ?_
  rintro e w10 ⟨rfl, ht10, hk10⟩
  obtain ⟨m10, hm10⟩ : ∃ m10, m10 = (m8 || !((l ++ bytes4 X) ++ List.replicate N 0).isEmpty) := ⟨_, rfl⟩
  rw [← hm10] at ht10
  have HT10 : Hid (TbAt w10 w.heap.size m10) := ht10
  have HO10' : Hid (w10.ownsRow w5.heap.size 5 1 (.slice (some ⟨g2, 0, none⟩) (l'.length + 4) cap2) (l'.length + 4) (u8s (l' ++ bytes4 Y))) := ownsRow_other HO9'.out hk10 (fun k hk h => by simp [Value.ownBlock] at hk; omega)
  have HB10 : Hid (Below w.heap.size w w10) := hk10.below_of HB9.out (fun k h => by omega) (by omega)
  have hs10 : w9.heap.size ≤ w10.heap.size := hk10.size
  clear ht10 hk10 hm10 HO9 HO9' HT9 HB9 HAP
  obtain ⟨g4, cap4, w11, hap, ho11, hgr⟩ := run_zeros w10 w5.heap.size g2 (l'.length + 4) cap2 N (l' ++ bytes4 Y) HO10'.out (by omega) (by omega)
  have HAP : Hid ((Builtin.append_ #[22, 3] 22 #[.slice (some ⟨g2, 0, none⟩) (l'.length + 4) cap2, .int .i64 N]).run Try.prog w10 = .ok (.slice (some ⟨g4, 0, none⟩) (l'.length + 4 + N) cap4) w11) := hap
  have HO11 : Hid (w11.ownsRow w5.heap.size 5 1 (.slice (some ⟨g4, 0, none⟩) (l'.length + 4 + N) cap4) (l'.length + 4 + N) (u8s ((l' ++ bytes4 Y) ++ List.replicate N 0))) := ho11
  have hg11 : w5.heap.size ≤ g4 ∧ g4 < w11.heap.size := ho11.lt g4 rfl
  have hk11 : Kept (fun k => some g2 = some k) w10 w11 := Kept.grown hgr
  have hs11 : w10.heap.size ≤ w11.heap.size := hk11.size
  have HT11 : Hid (TbAt w11 w.heap.size m10) := HT10.out.kept hk11 (fun h => by cases h; omega)
  have HB11 : Hid (Below w.heap.size w w11) := hk11.below_of HB10.out (fun k h => by cases h; omega) (by omega)
  clear hap ho11 hgr hk11 HO10' HT10 HB10
  go_wp2_with (at_builtin; go_must (refine wpList_append_go w10 rfl (.tmp 68) (.tmp 69) 22 3 rfl _ _ rfl rfl _ _ HAP.out ?_))
  refine (tsum_at w11 w.heap.size _ _ ((l' ++ bytes4 Y) ++ List.replicate N 0) 0 HEy.out HT11.out (SlAt.of_owns HO11.out) (fun _ k hk => by simp [Value.ownBlock] at hk; omega) (by simp; omega) (fun x hx => by rcases List.mem_append.1 hx with h | h; exact HY256.out x h; have := List.eq_of_mem_replicate h; omega)).mono ?_
  rintro e w12 ⟨rfl, ht12, hk12⟩
  have HB12 : Hid (Below w.heap.size w w12) := hk12.below_of HB11.out (fun k h => by omega) (by omega)
  have hs12 : w11.heap.size ≤ w12.heap.size := hk12.size
  clear ht12 hk12 HO11 HT11 HB11 HAP
  go_wp2_with fail
  refine (wakes3_any _).mono ?_
  rintro e w13 ⟨rfl, hb13⟩
  have HB13 : Hid (Below w.heap.size w w13) := HB12.out.trans (hb13.mono (by omega))
  clear hb13
  go_wp2
  go_ret
  exact ⟨rfl, HB13.out⟩

end Go.Proofs.Ythcjgcfmodkiiaa
