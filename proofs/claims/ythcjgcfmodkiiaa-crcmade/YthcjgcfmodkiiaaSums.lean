/- CrcSums: the walk of the law. -/
import Derived.Test.YthcjgcfmodkiiaaCrc5
namespace Go.Proofs.Ythcjgcfmodkiiaa
set_option linter.unusedVariables false
set_option linter.unusedSimpArgs false
open Go.RowKit Dg Cr

/-- What a cut slice of bytes is. -/
theorem cut_row {w : World} {a : Option Addr} {len cap n : Nat} {zs : List Int} (hr : IsRow .u8 w a len cap zs) :
    ∃ l : List Nat, l.length = min len n ∧ (∀ x ∈ l, x < 256) ∧ SlAt w (.slice a (min len n) cap) l ∧ len ≤ cap ∧ cap ≤ maxLen ∧ (a = none → len = 0 ∧ cap = 0) := by
  obtain ⟨l0, hl0, hl256, hsl⟩ := hr.bytes
  have hcut : len ≤ cap ∧ cap ≤ maxLen ∧ (a = none → len = 0 ∧ cap = 0) := by
    rcases hr with ⟨rfl, rfl, rfl, rfl⟩ | ⟨x, rfl, hle, hm, hz, hc, hwf⟩
    · exact ⟨Nat.le_refl _, by decide, fun _ => ⟨rfl, rfl⟩⟩
    · exact ⟨hle, hm, fun h => by cases h⟩
  exact ⟨l0.take (min len n), by simp; omega, fun x hx => hl256 x (List.mem_of_mem_take hx), hsl _ (by omega), hcut⟩

set_option maxHeartbeats 4000000 in
theorem sums_any (w : World) (a : Option Addr) (len cap : Nat) (zs : List Int) (si : Int) (hr : IsRow .u8 w a len cap zs) (hs : 0 ≤ si ∧ si < 4294967296) :
    Calls Try.prog 5 #[.slice a len cap, .int .u32 si] w fun e w' => e = .returned (.bool true) ∧ Below w.heap.size w w' := by
  obtain ⟨l, hll, h256, hsl, hc1, hc2, hc3⟩ := cut_row (n := 300) hr
  obtain ⟨hs1, hs2⟩ := hs
  obtain ⟨s, rfl⟩ := Int.eq_ofNat_of_zero_le hs1
  have hs32 : s < 4294967296 := by omega
  have HLL : Hid (min len 300 = l.length) := hll.symm
  have hl3 : l.length ≤ 300 := by omega
  have HS : Hid (SlAt w (.slice a l.length cap) l) := by rw [hll]; exact hsl
  have H256 : Hid (∀ x ∈ l, x < 256) := h256
  have HC3 : Hid (a = none → len = 0 ∧ cap = 0) := hc3
  obtain ⟨X, hX⟩ : ∃ X, X = (crc ones l).toNat := ⟨_, rfl⟩
  obtain ⟨Y, hY⟩ : ∃ Y, Y = (crc (BitVec.ofNat 32 s) l).toNat := ⟨_, rfl⟩
  have HX : Hid (X = (crc ones l).toNat) := hX
  have HY : Hid (Y = (crc (BitVec.ofNat 32 s) l).toNat) := hY
  clear hll h256 hsl hc3 hr hX hY hs1 hs2
  go_enter Try.func5, Try.ntmps5
  go_wp2_with fail
  refine (cut_any w a len cap 300 (by decide) hc1 hc2 HC3.out).mono ?_
  rintro e w0 ⟨rfl, rfl⟩
  rw [HLL.out]
  go_wp2_with fail
  refine (tnew_any w).mono ?_
  rintro e w1 ⟨rfl, ht1, hb1, hs1⟩
  have HT1 : Hid (TbAt w1 w.heap.size false) := ht1
  have HB1 : Hid (Below w.heap.size w w1) := hb1
  have HS1 : Hid (SlAt w1 (.slice a l.length cap) l) := HS.out.below hb1
  clear ht1 hb1
  go_wp2_with fail
  refine (lend_any w1 _ l HS1.out (by omega)).mono ?_
  rintro e w2 ⟨rfl, hrow, hb2⟩
  have HT2 : Hid (TbAt w2 w.heap.size false) := HT1.out.below hb2 (by omega)
  have HB2 : Hid (Below w.heap.size w w2) := HB1.out.trans (hb2.mono (by omega))
  have HR2 : Hid (RowIs w2 w1.heap.size (u8s (l ++ [85, 85, 85]))) := hrow
  have hs2 : w1.heap.size ≤ w2.heap.size := hb2.size
  clear hrow hb2
  go_wp2_with fail
  refine (tsum_at w2 w.heap.size false _ l X HX.out HT2.out (SlAt.of_row HR2.out) (fun _ k h => by simp [Value.ownBlock] at h; omega) (by omega) H256.out).mono ?_
  rintro e w3 ⟨rfl, ht3, hk3⟩
  have HT3 : Hid (TbAt w3 w.heap.size (false || !l.isEmpty)) := ht3
  have HB3 : Hid (Below w.heap.size w w3) := hk3.below_of HB2.out (fun k h => by omega) (by omega)
  have HR3 : Hid (RowIs w3 w1.heap.size (u8s (l ++ [85, 85, 85]))) := HR2.out.kept hk3 (by omega)
  have HS3 : Hid (SlAt w3 (.slice a l.length cap) l) := HS.out.below HB3.out
  have hs3 : w2.heap.size ≤ w3.heap.size := hk3.size
  clear ht3 hk3
  go_wp2_with fail
  refine (rsum_at w3 _ l X HX.out HS3.out (by omega) H256.out).mono ?_
  rintro e w4 ⟨rfl, rfl⟩
  go_wp2_with fail
  refine (slow_at w3 _ l X HX.out (SlAt.of_row HR3.out) (by omega) H256.out).mono ?_
  rintro e w4 ⟨rfl, rfl⟩
  go_wp2_with fail
  refine (rsum_at w3 _ l X HX.out HS3.out (by omega) H256.out).mono ?_
  rintro e w4 ⟨rfl, rfl⟩
  go_wp2_with fail
  refine (tadd_at w3 w.heap.size _ s _ l Y hs32 HY.out HT3.out (SlAt.of_row HR3.out) (fun _ k h => by simp [Value.ownBlock] at h; omega) (by omega) H256.out).mono ?_
  rintro e w4 ⟨rfl, ht4, hk4⟩
  have HB4 : Hid (Below w.heap.size w w4) := hk4.below_of HB3.out (fun k h => by omega) (by omega)
  have HR4 : Hid (RowIs w4 w1.heap.size (u8s (l ++ [85, 85, 85]))) := HR3.out.kept hk4 (by omega)
  have HS4 : Hid (SlAt w4 (.slice a l.length cap) l) := HS.out.below HB4.out
  have hs4 : w3.heap.size ≤ w4.heap.size := hk4.size
  clear ht4 hk4
  go_wp2_with fail
  refine (radd_at w4 s _ l Y hs32 HY.out HS4.out (by omega) H256.out).mono ?_
  rintro e w5 ⟨rfl, rfl⟩
  go_wp2_with fail
  refine (intact_any w4 w1.heap.size _ l HR4.out HS4.out (by omega)).mono ?_
  rintro e w5 ⟨rfl, n5, rfl⟩
  go_wp2_with fail
  refine (wakes3_any _).mono ?_
  rintro e w6 ⟨rfl, hb6⟩
  have HB6 : Hid (Below w.heap.size w w6) := (below_drewN HB4.out n5).trans (hb6.mono (by show w.heap.size ≤ w4.heap.size; omega))
  clear hb6
  go_wp2
  go_ret
  exact ⟨rfl, HB6.out⟩

end Go.Proofs.Ythcjgcfmodkiiaa
