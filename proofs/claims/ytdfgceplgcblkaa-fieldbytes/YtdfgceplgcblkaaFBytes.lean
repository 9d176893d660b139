/- FieldBytes: the walk of the law. -/
import Derived.Test.YtdfgceplgcblkaaFld2
namespace Go.Proofs.Ytdfgceplgcblkaa
set_option linter.unusedVariables false
set_option linter.unusedSimpArgs false
open Go.RowKit Dg

set_option maxHeartbeats 4000000 in
theorem fbytes_any (W : World) (n0 w0 : Int) (hn0 : I64 n0) (hw0 : I64 w0) :
    Calls Try.prog 3 #[.int .i64 n0, .int .i64 w0] W fun e W' => e = .returned (.bool true) ∧ Below W.heap.size W W' := by
  obtain ⟨N, hN⟩ : ∃ N : Nat, N = (n0 % 72057594037927936).toNat := ⟨_, rfl⟩
  have HN : Hid (n0 % 72057594037927936 = (N : Int)) := by show _ = _; omega
  obtain ⟨k, hk⟩ : ∃ k : Nat, k = (w0 % 7).toNat := ⟨_, rfl⟩
  have HK : Hid (w0 % 7 = (k : Int)) := by show _ = _; omega
  have hk7 : k < 7 := by omega
  have hN56 : N < 72057594037927936 := by omega
  obtain ⟨hn1, hn2⟩ := hn0
  obtain ⟨hw1, hw2⟩ := hw0
  clear hN hk
  have IN : Hid (I64 (N : Int)) := by show I64 _; unfold I64; omega
  go_enter Try.func3, Try.ntmps3
  go_wp2_with fail
  refine (within_any n0 72057594037927936 W hn1 hn2 (by decide) (by decide)).mono ?_
  rw [HN.out]
  rintro e w0 ⟨rfl, rfl⟩
  go_wp2_with fail
  refine (within_any _ 7 W hw1 hw2 (by decide) (by decide)).mono ?_
  rw [HK.out]
  rintro e w0 ⟨rfl, rfl⟩
  go_wp2_with fail
  refine (fput_any W N k IN.out (by unfold I64; omega) N k (by omega) (by omega)).mono ?_
  rintro e w1 ⟨rfl, ho1, hb1⟩
  have HO1 : Hid (w1.ownsRow W.heap.size 5 1 (.slice (some ⟨W.heap.size, 0, none⟩) k k) k (u8s (byteN N k))) := ho1
  have HB1 : Hid (Below W.heap.size W w1) := hb1
  have hs1 : W.heap.size < w1.heap.size := (ho1.lt _ rfl).2
  clear ho1 hb1
  go_wp2_with fail
  refine (fput_any w1 N (k + 1) IN.out (by unfold I64; omega) N (k + 1) (by omega) (by omega)).mono ?_
  rintro e w2 ⟨rfl, ho2, hb2⟩
  have HS1 : Hid (SlAt w2 (.slice (some ⟨W.heap.size, 0, none⟩) k k) (byteN N k)) := (SlAt.of_owns HO1.out).below hb2
  have HB2 : Hid (Below W.heap.size W w2) := HB1.out.trans (hb2.mono (by omega))
  have hs2 : w1.heap.size < w2.heap.size := (ho2.lt _ rfl).2
  obtain ⟨y, hy⟩ : ∃ y, y = N / 2 ^ (8 * k) % 256 := ⟨_, rfl⟩
  have hcell := (own_cell (j := k) ho2 (byteN_get N (k + 1) k (by omega))).1
  rw [← hy] at hcell
  have hand : bits BinOp.and IntKind.i64 ((N : Int) / 2 ^ (8 * k)) 255 = (y : Int) := by
    have e : ((N : Int) / 2 ^ (8 * k)) = ((N / 2 ^ (8 * k) : Nat) : Int) := by rw [Int.natCast_ediv, pow_cast]
    have hle : N / 2 ^ (8 * k) ≤ N := Nat.div_le_self _ _
    rw [e, hy]
    exact and_low (N / 2 ^ (8 * k)) 8 (by omega) (by decide)
  have HS2 : Hid (SlAt w2 (.slice (some ⟨w1.heap.size, 0, none⟩) k (k + 1)) (byteN N k)) := by
    have := own_part ho2 0 k (k + 1) (by omega)
    rw [List.drop_zero, byteN_take N (k + 1) k (by omega)] at this
    exact this
  clear ho2 hb2 HO1 HB1
  go_wp2_with fail
  refine (same_any _ _ _ _ HS2.out HS1.out (by simp; omega)).mono ?_
  rintro e w3 ⟨rfl, n3, hw3⟩
  have hcell3 : w3.cell? ⟨w1.heap.size, k, none⟩ = some (.int .u8 (y : Int)) := by rw [hw3]; exact hcell
  have HS3 : Hid (SlAt w3 (.slice (some ⟨W.heap.size, 0, none⟩) k k) (byteN N k)) := by rw [hw3]; exact HS1.out
  have HB3 : Hid (Below W.heap.size W w3) := by rw [hw3]; exact below_drewN HB2.out n3
  have hs3 : w1.heap.size < w3.heap.size := by rw [hw3]; exact hs2
  have hy256 : y < 256 := by rw [hy]; exact Nat.mod_lt _ (by decide)
  clear hw3 hcell HS1 HS2 HB2 hy
  go_wp2_with fail
  obtain ⟨m, hm⟩ : ∃ m, m = N % 2 ^ (8 * k) := ⟨_, rfl⟩
  have HM : Hid (m = getN (byteN N k)) := by show _ = _; rw [hm, getN_byteN]
  have hmask : bits BinOp.and IntKind.i64 (N : Int) (wrap64 (wrap64 (2 ^ (8 * k)) - 1)) = (m : Int) := by
    rw [mask_eq (8 * k) (by omega), and_low N (8 * k) (by omega) (by omega), hm]
  clear hm
  refine (fget_ok w3 _ _ HS3.out (by simp; omega) (byteN_lt N k) m HM.out).mono ?_
  rintro e w0 ⟨rfl, rfl⟩
  go_wp2_with fail
  refine (fput_any w3 N (-1) IN.out (by unfold I64; decide) N 0 (by omega) (by decide)).mono ?_
  rintro e w4 ⟨rfl, ho4, hb4⟩
  have HB4 : Hid (Below W.heap.size W w4) := HB3.out.trans (hb4.mono (by omega))
  have hs4 : w3.heap.size ≤ w4.heap.size := hb4.size
  clear ho4 hb4
  go_wp2_with fail
  refine (fput_any w4 N 20 IN.out (by unfold I64; decide) N 8 (by omega) (by decide)).mono ?_
  rintro e w5 ⟨rfl, ho5, hb5⟩
  have HB5 : Hid (Below W.heap.size W w5) := HB4.out.trans (hb5.mono (by omega))
  have hs5 : w4.heap.size ≤ w5.heap.size := hb5.size
  clear ho5 hb5
  go_wp2_with fail
  refine (wakes4_any w5).mono ?_
  rintro e w6 ⟨rfl, hb6⟩
  have HB6 : Hid (Below W.heap.size W w6) := HB5.out.trans (hb6.mono (by omega))
  clear hb6
  go_wp2
  go_ret
  exact ⟨rfl, HB6.out⟩

end Go.Proofs.Ytdfgceplgcblkaa
