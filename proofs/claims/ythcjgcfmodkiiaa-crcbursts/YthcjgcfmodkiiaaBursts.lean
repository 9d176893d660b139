/- CrcBursts: the walk of the law. -/
import Derived.Test.YthcjgcfmodkiiaaCrc6
import Derived.Test.YthcjgcfmodkiiaaCrc7
namespace Go.Proofs.Ythcjgcfmodkiiaa
set_option linter.unusedVariables false
set_option linter.unusedSimpArgs false
open Go.RowKit Dg Cr

theorem bit_num (b j : Nat) (hb : b < 4294967296) : bits BinOp.and IntKind.u32 ((b : Int) / 2 ^ j) 1 = ((b / 2 ^ j % 2 : Nat) : Int) := by
  have e : (b : Int) / 2 ^ j = ((b / 2 ^ j : Nat) : Int) := by push_cast; rfl
  rw [e, show (1 : Int) = ((1 : Nat) : Int) from rfl, u32_and_nat _ _ (Nat.lt_of_le_of_lt (Nat.div_le_self _ _) hb) (by decide), Nat.and_one_is_mod]

set_option maxHeartbeats 4000000 in
theorem bursts_any (w : World) (a : Option Addr) (len cap : Nat) (zs : List Int) (at_ bi : Int) (hr : IsRow .u8 w a len cap zs) (ha : -9223372036854775808 ≤ at_ ∧ at_ ≤ 9223372036854775807) (hbi : 0 ≤ bi ∧ bi < 4294967296) :
    Calls Try.prog 8 #[.slice a len cap, .int .i64 at_, .int .u32 bi] w fun e w' => e = .returned (.bool true) ∧ Below w.heap.size w w' := by
  obtain ⟨l, hll, h256, hsl, hc1, hc2, hc3⟩ := cut_row (n := 150) hr
  obtain ⟨b, rfl⟩ := Int.eq_ofNat_of_zero_le hbi.1
  have hb32 : b < 4294967296 := by omega
  have HLL : Hid (min len 150 = l.length) := hll.symm
  have hl3 : l.length ≤ 150 := by omega
  have HS : Hid (SlAt w (.slice a l.length cap) l) := by rw [hll]; exact hsl
  have H256 : Hid (∀ x ∈ l, x < 256) := h256
  have HC3 : Hid (a = none → len = 0 ∧ cap = 0) := hc3
  have HCX : Hid (∀ n c, (Value.slice a l.length cap) = .slice none n c → c = 0) := fun n c e => by cases e; exact (hc3 rfl).2
  obtain ⟨X, hX⟩ : ∃ X, X = (crc ones l).toNat := ⟨_, rfl⟩
  have hX32 : X < 4294967296 := by rw [hX]; exact BitVec.isLt _
  have HX : Hid (X = (crc ones l).toNat) := hX
  clear hll h256 hsl hc3 hr hX hbi
  go_enter Try.func8, Try.ntmps8
  go_wp2_with fail
  refine (cut_any w a len cap 150 (by decide) hc1 hc2 HC3.out).mono ?_
  rintro e w0 ⟨rfl, rfl⟩
  rw [HLL.out]
  go_wp2_with fail
  refine (tnew_any w).mono ?_
  rintro e w1 ⟨rfl, ht1, hb1, hs1⟩
  have HT1 : Hid (TbAt w1 w.heap.size false) := ht1
  have HB1 : Hid (Below w.heap.size w w1) := hb1
  clear ht1 hb1
  go_wp2_with fail
  refine (tsum_at w1 w.heap.size _ _ l X HX.out HT1.out (HS.out.below HB1.out) (fun h k hk => by have := HS.out.lt h k hk; omega) (by omega) H256.out).mono ?_
  rintro e w3 ⟨rfl, ht3, hk3⟩
  obtain ⟨m3, hm3⟩ : ∃ m3, m3 = (false || !l.isEmpty) := ⟨_, rfl⟩
  rw [← hm3] at ht3
  have HT3 : Hid (TbAt w3 w.heap.size m3) := ht3
  have HB3 : Hid (Below w.heap.size w w3) := hk3.below_of HB1.out (fun k h => by omega) (by omega)
  have hs3 : w1.heap.size ≤ w3.heap.size := hk3.size
  clear ht3 hk3 hm3
  go_wp2_with fail
  refine (copyB_any w3 _ l (HS.out.below HB3.out) (by omega) HCX.out).mono ?_
  rintro e w4 ⟨v, rfl, ho, hb⟩
  have HO4 : Hid (w4.ownsRow w3.heap.size 5 1 v l.length (u8s l)) := ho
  have HT4 : Hid (TbAt w4 w.heap.size m3) := HT3.out.below hb (by omega)
  have HB4 : Hid (Below w.heap.size w w4) := HB3.out.trans (hb.mono (by omega))
  have hs4 : w3.heap.size ≤ w4.heap.size := hb.size
  clear ho hb
  have FV : Hid (∀ k, v.ownBlock = some k → w3.heap.size ≤ k ∧ k < w4.heap.size) := fun k hk => HO4.out.lt k hk
  obtain ⟨x, hx⟩ : ∃ x, x = l ++ bytes4 X := ⟨_, rfl⟩
  have HXX : Hid (x = l ++ bytes4 X) := hx
  have hxl : x.length ≤ 154 := by rw [hx]; simp; omega
  have hxl4 : 4 ≤ x.length := by rw [hx]; simp
  have HXL : Hid (l.length + 4 = x.length) := by show _ = _; rw [hx]; simp
  have HX256 : Hid (∀ y ∈ x, y < 256) := fun y hy => by
    rw [hx] at hy
    rcases List.mem_append.1 hy with h | h
    · exact H256.out y h
    · exact bytes4_lt X y h
  have HZ : Hid (crc ones x = 0#32) := by show _ = _; rw [hx, HX.out]; exact crc_whole _ _
  clear hx
  by_cases hb0 : b = 0
  · subst hb0
    go_wp2_with (at_builtin; go_must (refine wpList_append_four w4 rfl (.tmp 23) (.tmp 35) rfl w3.heap.size v l X rfl HO4.out rfl hX32 (by omega) (by omega) ?_); intro g1 cap1 w5 HO5 HK5 HG5)
    have HB5 : Hid (Below w.heap.size w w5) := HK5.out.below_of HB4.out (fun k h => by have := FV.out _ h; omega) (by omega)
    have hs5 : w4.heap.size ≤ w5.heap.size := HK5.out.size
    refine (wakes3_any _).mono ?_
    rintro e w6 ⟨rfl, hb6⟩
    have HB6 : Hid (Below w.heap.size w w6) := HB5.out.trans (hb6.mono (by omega))
    clear hb6
    go_wp2
    go_ret
    exact ⟨rfl, HB6.out⟩
  have hb0' : ((b : Int) == 0) = false := by simp; omega
  go_wp2_with (at_builtin; go_must (refine wpList_append_four w4 rfl (.tmp 23) (.tmp 35) rfl w3.heap.size v l X rfl HO4.out rfl hX32 (by omega) (by omega) ?_); intro g1 cap1 w5 HO5 HK5 HG5; rw [HXL.out, ← HXX.out] at HO5; rw [HXL.out])
  have hg5 := HG5.out
  have hs5 : w4.heap.size ≤ w5.heap.size := HK5.out.size
  have HT5 : Hid (TbAt w5 w.heap.size m3) := HT4.out.kept HK5.out (fun h => by have := FV.out _ h; omega)
  have HB5 : Hid (Below w.heap.size w w5) := HK5.out.below_of HB4.out (fun k h => by have := FV.out _ h; omega) (by omega)
  clear HO4 HT4 HB4 HK5 FV HG5 HT3 HB3 HT1 HB1 HXX HXL
  obtain ⟨A, hA⟩ := Int.eq_ofNat_of_zero_le (Int.emod_nonneg at_ (show 8 * (x.length : Int) - 31 ≠ 0 by omega))
  have hA8 : A + 32 ≤ 8 * x.length := by have := Int.emod_lt_of_pos at_ (show 0 < 8 * (x.length : Int) - 31 by omega); omega
  have HA : Hid (at_ % (8 * (x.length : Int) - 31) = (A : Int)) := hA
  clear hA
  refine (within_any at_ (8 * (x.length : Int) - 31) _ ha.1 ha.2 (by omega) (by omega)).mono ?_
  rintro e w0 ⟨rfl, rfl⟩
  rw [HA.out]
  go_wp2_with fail
  go_loopw [10] (fun i wr => ∃ j : Nat, j ≤ 32 ∧ i = .int .i64 j ∧ Hid (wr.ownsRow w3.heap.size 5 1 (.slice (some ⟨g1, 0, none⟩) x.length cap1) x.length (u8s (turned x A b j))) ∧ Hid (Kept (fun k => k = g1) w5 wr)) (fun i _ => 32 - (intOf i).toNat)
  case atStart => exact ⟨0, by omega, rfl, HO5.out, Kept.refl _ _⟩
  case round =>
    obtain ⟨j, hj, rfl, ho, hk⟩ := hrel
    by_cases hj8 : j < 32
    · obtain ⟨t, ht⟩ : ∃ t, t = turned x A b j := ⟨_, rfl⟩
      rw [← ht] at ho
      have HTL : Hid (t.length = x.length) := by show _ = _; rw [ht]; simp
      have HT256 : Hid (∀ y ∈ t, y < 256) := by rw [ht]; exact turned_lt _ _ _ _ HX256.out
      have hin : (A + j) / 8 < x.length := by omega
      obtain ⟨c, hc⟩ : ∃ c, t[(A + j) / 8]? = some c := ⟨t[(A + j) / 8]'(by rw [HTL.out]; exact hin), by simp [HTL.out, hin]⟩
      have hc256 : c < 256 := HT256.out c (List.mem_of_getElem? hc)
      obtain ⟨hrc, hrf⟩ := own_cell ho.out hc
      have HF : Hid (bits BinOp.xor IntKind.u8 (c : Int) (128 / 2 ^ ((A + j) % 8)) = ((flip c (A + j) : Nat) : Int)) := flip_num c (A + j) hc256
      have HD : Hid (t.getD ((A + j) / 8) 0 = c) := by show _ = _; simp [List.getD, hc]
      have HTT : Hid (t = turned x A b j) := ht
      clear hc ht
      by_cases hbit : b / 2 ^ j % 2 = 1
      · have hbb : (bits BinOp.and IntKind.u32 ((b : Int) / 2 ^ j) 1 == 1) = true := by rw [bit_num b j hb32, hbit]; rfl
        go_wp2
        rw [HF.out]
        go_roundw
        case rel =>
          refine ⟨j + 1, by omega, by go_num, ?_, hk.out.trans (Kept.setCell _ _ _ rfl)⟩
          have e : turned x A b (j + 1) = t.set ((A + j) / 8) (flip c (A + j)) := by
            rw [turned, if_pos hbit, ← HTT.out, turn, HD.out]
          rw [e]
          exact own_set ho.out _ _ hin
        case measure => simp [intOf]; omega
      · have hbb : (bits BinOp.and IntKind.u32 ((b : Int) / 2 ^ j) 1 == 1) = false := by
          rw [bit_num b j hb32]
          have : b / 2 ^ j % 2 = 0 := by omega
          rw [this]; rfl
        go_wp2
        go_roundw
        case rel =>
          refine ⟨j + 1, by omega, by go_num, ?_, hk.out⟩
          have e : turned x A b (j + 1) = t := by rw [turned, if_neg hbit, HTT.out]
          rw [e]
          exact ho.out
        case measure => simp [intOf]; omega
    · obtain rfl : j = 32 := by omega
      obtain ⟨y, hy⟩ : ∃ y, y = turned x A b 32 := ⟨_, rfl⟩
      rw [← hy] at ho
      have HYL : Hid (y.length = x.length) := by show _ = _; rw [hy]; simp
      have HY256 : Hid (∀ z ∈ y, z < 256) := by rw [hy]; exact turned_lt _ _ _ _ HX256.out
      have HNE : Hid (∀ n, y.drop n ≠ bytes4 (crc ones (y.take n)).toNat) := fun n => by rw [hy]; exact burst_unlike x A b n HX256.out hA8 hb0 hb32 HZ.out
      have HT6 : Hid (TbAt wr w.heap.size m3) := HT5.out.kept hk.out (by omega)
      have HB6 : Hid (Below w.heap.size w wr) := hk.out.below_of HB5.out (fun k h => by omega) (by omega)
      have hs6 : w5.heap.size ≤ wr.heap.size := hk.out.size
      clear hy HO5 HT5 HB5 hk HX256 HZ
      obtain ⟨hcx, hcm⟩ := own_cap ho.out
      unfold maxLen at hcm
      obtain ⟨R, hR⟩ : ∃ R, R = (crc ones (y.take (x.length - 4))).toNat := ⟨_, rfl⟩
      have hR32 : R < 4294967296 := by rw [hR]; exact BitVec.isLt _
      have HR : Hid (R = (crc ones (y.take (x.length - 4))).toNat) := hR
      clear hR
      go_wp2_with fail
      refine (tsum_at wr w.heap.size _ _ (y.take (x.length - 4)) R HR.out HT6.out (own_part ho.out 0 (x.length - 4) cap1 (by omega)) (fun _ k hk => by simp [Value.ownBlock] at hk; omega) (by simp; omega) (fun z hz => HY256.out z (List.mem_of_mem_take hz))).mono ?_
      rintro e w7 ⟨rfl, ht7, hk7⟩
      have HO7 : Hid (w7.ownsRow w3.heap.size 5 1 (.slice (some ⟨g1, 0, none⟩) x.length cap1) x.length (u8s y)) := ownsRow_other ho.out hk7 (fun k hk h => by simp [Value.ownBlock] at hk; omega)
      have HB7 : Hid (Below w.heap.size w w7) := hk7.below_of HB6.out (fun k h => by omega) (by omega)
      have hs7 : wr.heap.size ≤ w7.heap.size := hk7.size
      clear ht7 hk7 HT6 HB6 ho
      have hnot : ∀ (x : Bool) (w : World), (Op.unary .not (.bool x)).run Try.prog w = .ok (.bool (!x)) w := fun _ _ => rfl
      go_wp2_with fail
      have hpart := own_part (HO7.out.alloc (.cells #[.int .u8 ((R : Int) / 16777216), .int .u8 ((R : Int) / 65536 % 256), .int .u8 ((R : Int) / 256 % 256), .int .u8 ((R : Int) % 256)] 5)) (x.length - 4) (x.length - (x.length - 4)) (cap1 - (x.length - 4)) (by omega)
      rw [List.take_of_length_le (by rw [List.length_drop, HYL.out]; omega)] at hpart
      refine (same_not _ _ _ (y.drop (x.length - 4)) (bytes4 R) hpart (four_at w7 R hR32) (by rw [List.length_drop, HYL.out, length_bytes4]; omega) (by rw [List.length_drop, HYL.out]; omega) (by rw [HR.out]; exact HNE.out _)).mono ?_
      rintro e w8 ⟨rfl, n8, rfl⟩
      clear hpart
      go_wp2_with fail
      refine (wakes3_any _).mono ?_
      rintro e w9 ⟨rfl, hb9⟩
      have HB9 : Hid (Below w.heap.size w w9) := (below_drewN (HB7.out.alloc (by omega) _) n8).trans (hb9.mono (by show w.heap.size ≤ (w7.alloc _).heap.size; simp; omega))
      clear hb9
      go_wp2
      go_ret
      exact ⟨rfl, HB9.out⟩

end Go.Proofs.Ythcjgcfmodkiiaa
