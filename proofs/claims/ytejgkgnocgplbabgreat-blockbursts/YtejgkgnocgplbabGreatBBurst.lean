/- BlockBursts: the walk of the law, over the bundle of contracts. -/
import Derived.Test.YtejgkgnocgplbabGreatPart11
namespace Go.Proofs.YtejgkgnocgplbabGreat
set_option linter.unusedVariables false
set_option linter.unusedSimpArgs false
open Go.RowKit Dg Cr

theorem bit_of32 (b j : Nat) (hb : b < 4294967296) : bits BinOp.and IntKind.u32 ((b : Int) / 2 ^ j) 1 = ((b / 2 ^ j % 2 : Nat) : Int) := by
  have e : (b : Int) / 2 ^ j = ((b / 2 ^ j : Nat) : Int) := by push_cast; rfl
  rw [e, show (1 : Int) = ((1 : Nat) : Int) from rfl, u32_and_nat _ _ (Nat.lt_of_le_of_lt (Nat.div_le_self _ _) hb) (by decide), Nat.and_one_is_mod]

set_option maxRecDepth 100000 in
set_option maxHeartbeats 8000000 in
theorem bburst_any {Co : World → Nat → Nat → Nat → Nat → Nat → Prop} (C : Blk Co) (CP : PackC Co) (CO : OpenC Co) (CU : UnsealC Co) (W : World) (a : Option Addr) (len cap : Nat) (z : List Int) (n kind noise at_ bi : Int) (hr : IsRow .i64 W a len cap z) (hn : I64 n) (hk : I64 kind) (hno : I64 noise) (hat_ : I64 at_) (hbi : 0 ≤ bi ∧ bi < 4294967296) :
    Calls Tryz.prog 3 #[.slice a len cap, .int .i64 n, .int .i64 kind, .int .i64 noise, .int .i64 at_, .int .u32 bi] W fun e W' => e = .returned (.bool true) ∧ Below W.heap.size W W' := by
  obtain ⟨l, hll, hI, hat, hle, hm, hnone, hblk⟩ := hr.ints
  subst hll
  have HA : Hid (IntsAt W a l) := hat
  have HI : Hid (∀ x ∈ l, I64 x) := hI
  have HM : Hid (l.length ≤ maxLen) := Nat.le_trans hle hm
  obtain ⟨M, hM⟩ : ∃ M : Nat, n % 64 = (M : Int) := ⟨(n % 64).toNat, by omega⟩
  obtain ⟨N, hN⟩ : ∃ N : Nat, 1 + (M : Int) = (N : Int) := ⟨M + 1, by omega⟩
  have HMM := hid_of hM
  have hN1 : 1 ≤ N := by omega
  have hN64 : N ≤ 64 := by omega
  have HN65 : Hid ((N : Int) % 65 = (N : Int)) := by show _ = _; omega
  have HKI := hid_of hk
  have HNO := hid_of hno
  obtain ⟨hn1, hn2⟩ := hn
  obtain ⟨hat1, hat2⟩ := hat_
  obtain ⟨bu, rfl⟩ := Int.eq_ofNat_of_zero_le hbi.1
  have hb32 : bu < 4294967296 := by omega
  clear hat hI hle hm hnone hblk hr hM hno hk hbi
  go_enter Tryz.func3, Tryz.ntmps3
  go_wp2_with fail
  refine (within_any n 64 W hn1 hn2 (by decide) (by decide)).mono ?_
  rw [HMM.out]
  rintro e w0 ⟨rfl, rfl⟩
  go_wp2_with fail
  refine (tone_any W a cap l (N : Int) kind noise N HA.out HM.out HI.out ⟨by omega, by omega⟩ HKI.out HNO.out HN65.out).mono ?_
  rintro e w1 ⟨v1, xs, rfl, hv1, hxl, hxb, hb1⟩
  obtain ⟨a1, c1, rfl, hn1', -, -⟩ := hv1.ns
  have HB1 := hid_of hb1
  have HN1 := hid_of hn1'
  have HLT := hid_of hn1'.lt
  have hs1 : W.heap.size ≤ w1.heap.size := hb1.size
  have hxl1 : 1 ≤ xs.length := by omega
  have hxl2 : xs.length ≤ 64 := by omega
  have hXS : allS xs := fun y hy => by have := hxb y hy; unfold isS; omega
  obtain ⟨m, hm⟩ : ∃ m, m = manyN xs := ⟨_, rfl⟩
  obtain ⟨L, hL⟩ : ∃ L, L = packL xs := ⟨_, rfl⟩
  have HR : Hid ((L, m, 0) = packOut xs) := by show _ = _; unfold packOut; rw [if_neg (by omega), if_pos hXS, hm, hL]
  have hm1 : 1 ≤ m := by rw [hm]; exact manyN_pos hXS hxl1
  have hm64 : m ≤ 64 := by rw [hm]; exact (manyN_le xs).2
  have hLl : L.length = 128 := by rw [hL]; exact packL_len hXS hxl1
  have HLL := hid_of hLl
  have hLb : ((L.length : Int) != 128) = false := bne_eq_false_iff_eq.2 (by rw [hLl]; rfl)
  have HL256 : Hid (∀ x ∈ L, x < 256) := by rw [hL]; exact packL_lt _
  have HWH : Hid (wholeP L) := by rw [hL]; exact whole_seal (manyN_fits hXS hxl1)
  clear hv1 hb1 hn1' hxl hxb HA HI HM HKI HNO HN65 HMM hm hL hLl hXS
  go_wp2_with fail
  refine (C.newB w1).mono ?_
  rintro e w2 ⟨b, top, rfl, hco2, hb2⟩
  have HCO2 := hid_of hco2
  have HN2 := hid_of (HN1.out.mono hb2)
  have HB2 : Hid (Below W.heap.size W w2) := HB1.out.trans (hb2.mono hs1)
  have hs2 : W.heap.size ≤ w2.heap.size := HB2.out.size
  have htop2 : top ≤ w2.heap.size := (C.lt hco2).2.2
  have HFAR : Hid (xs ≠ [] → ∀ y, a1 = some y → ¬ InCo w1.heap.size top y.block) := fun h y hy hf => by have := HLT.out h y hy; have := hf.1; omega
  clear hco2 hb2 HN1 HB1
  go_wp2_with fail
  refine (CP w2 b _ top 0 0 a1 c1 xs _ HCO2.out HN2.out HFAR.out (by omega) (by decide) HR.out).mono ?_
  rintro e w3 ⟨v3, rfl, h3, hco3, hk3⟩
  obtain ⟨g, cp, rfl⟩ : ∃ g c, v3 = .slice (some ⟨g, 0, none⟩) L.length c := by
    rcases h3.2 with ⟨_, h0⟩ | ⟨g', cap', cur, hv, -⟩
    · exfalso; have := HLL.out; simp at h0; rw [h0] at this; exact absurd this (by decide)
    · exact ⟨g', cap', hv⟩
  have HO3 : Hid (OwnBytes w3 w2.heap.size (.slice (some ⟨g, 0, none⟩) L.length cp) L) := h3
  have HG : Hid (w2.heap.size ≤ g) := (World.ownsRow.lt h3 g rfl).1
  have HCO3 := hid_of hco3
  have HB3 := hid_of (co_below HB2.out hk3 hs1)
  have hs3 : W.heap.size ≤ w3.heap.size := HB3.out.size
  clear h3 hco3 hk3 HCO2 HN2 HB2
  by_cases hb0 : bu = 0
  · have hb0' : ((bu : Int) == 0) = true := beq_iff_eq.2 (by omega)
    clear hb0
    go_wp2_with fail
    refine (wakes9_any C _).mono ?_
    rintro e w6 ⟨rfl, hb6⟩
    have HB6 : Hid (Below W.heap.size W w6) := HB3.out.trans (hb6.mono hs3)
    clear hb6
    go_wp2
    go_ret
    exact ⟨rfl, HB6.out⟩
  have hb0' : ((bu : Int) == 0) = false := beq_eq_false_iff_ne.2 (by omega)
  have HB0 := hid_of hb0
  obtain ⟨A, hA⟩ : ∃ A : Nat, at_ % 993 = (A : Int) := ⟨(at_ % 993).toNat, by omega⟩
  have HAA := hid_of hA
  have hA8 : A + 32 ≤ 1024 := by omega
  clear hb0 hA
  go_wp2_with fail
  refine (within_any at_ 993 w3 hat1 hat2 (by decide) (by decide)).mono ?_
  rw [HAA.out]
  rintro e w0 ⟨rfl, rfl⟩
  go_wp2_with fail
  have hL128 : L.length ≤ 128 := by rw [HLL.out]; exact Nat.le_refl _
  have hL128' : 128 ≤ L.length := by rw [HLL.out]; exact Nat.le_refl _
  go_loopw [17] (fun i wr => ∃ j : Nat, j ≤ 32 ∧ i = .int .i64 j ∧ Hid (wr.ownsRow w2.heap.size 5 1 (.slice (some ⟨g, 0, none⟩) L.length cp) L.length (u8s (turned L A bu j))) ∧ Hid (Kept (fun k => k = g) w3 wr)) (fun i _ => 32 - (intOf i).toNat)
  case atStart => exact ⟨0, by omega, rfl, HO3.out, Kept.refl _ _⟩
  case round =>
    obtain ⟨j, hj, rfl, ho, hk⟩ := hrel
    by_cases hj8 : j < 32
    · obtain ⟨t, ht⟩ : ∃ t, t = turned L A bu j := ⟨_, rfl⟩
      rw [← ht] at ho
      have HTL : Hid (t.length = L.length) := by show _ = _; rw [ht]; simp
      have HT256 : Hid (∀ y ∈ t, y < 256) := by rw [ht]; exact turned_lt _ _ _ _ HL256.out
      have hin : (A + j) / 8 < L.length := by omega
      obtain ⟨c, hc⟩ : ∃ c, t[(A + j) / 8]? = some c := ⟨t[(A + j) / 8]'(by rw [HTL.out]; exact hin), by simp⟩
      have hc256 : c < 256 := HT256.out c (List.mem_of_getElem? hc)
      obtain ⟨hrc, hrf⟩ := own_cell ho.out hc
      have HF : Hid (bits BinOp.xor IntKind.u8 (c : Int) (128 / 2 ^ ((A + j) % 8)) = ((flip c (A + j) : Nat) : Int)) := flip_num c (A + j) hc256
      have HD : Hid (t.getD ((A + j) / 8) 0 = c) := by show _ = _; simp [List.getD, hc]
      have HTT : Hid (t = turned L A bu j) := ht
      clear hc ht
      by_cases hbit : bu / 2 ^ j % 2 = 1
      · have hbb : (bits BinOp.and IntKind.u32 ((bu : Int) / 2 ^ j) 1 == 1) = true := by rw [bit_of32 bu j hb32, hbit]; rfl
        go_wp2
        rw [HF.out]
        go_roundw
        case rel =>
          refine ⟨j + 1, by omega, by go_num, ?_, hk.out.trans (Kept.setCell _ _ _ rfl)⟩
          have e : turned L A bu (j + 1) = t.set ((A + j) / 8) (flip c (A + j)) := by
            rw [turned, if_pos hbit, ← HTT.out, turn, HD.out]
          rw [e]
          exact own_set ho.out _ _ hin
        case measure => simp [intOf]; omega
      · have hbb : (bits BinOp.and IntKind.u32 ((bu : Int) / 2 ^ j) 1 == 1) = false := by
          rw [bit_of32 bu j hb32]
          have : bu / 2 ^ j % 2 = 0 := by omega
          rw [this]; rfl
        go_wp2
        go_roundw
        case rel =>
          refine ⟨j + 1, by omega, by go_num, ?_, hk.out⟩
          have e : turned L A bu (j + 1) = t := by rw [turned, if_neg hbit, HTT.out]
          rw [e]
          exact ho.out
        case measure => simp [intOf]; omega
    · obtain rfl : j = 32 := by omega
      obtain ⟨y, hy⟩ : ∃ y, y = turned L A bu 32 := ⟨_, rfl⟩
      rw [← hy] at ho
      have HYL : Hid (L.length = y.length) := by show _ = _; rw [hy]; simp
      have HY256 : Hid (∀ z ∈ y, z < 256) := by rw [hy]; exact turned_lt _ _ _ _ HL256.out
      have hnw : ¬ wholeP y := by rw [hy]; exact whole_burst HWH.out HL256.out hA8 HB0.out hb32
      have HR1 : Hid (([], 2) = openOut y) := by show _ = _; unfold openOut; rw [if_neg hnw]
      have HR2 : Hid (([], 2) = unsealOut y) := by show _ = _; unfold unsealOut; rw [if_neg hnw]
      have HO6 : Hid (OwnBytes wr w2.heap.size (.slice (some ⟨g, 0, none⟩) y.length cp) y) := by
        show World.ownsRow _ _ _ _ _ _ _
        rw [← HYL.out]
        exact ho.out
      have hy128 : y.length ≤ 128 := by rw [← HYL.out]; exact hL128
      have HBS6 : Hid (Bs wr (some ⟨g, 0, none⟩) cp y) := by
        obtain ⟨a', c', e', h'⟩ := OwnBytes.bs HO6.out
        cases e'
        exact h'
      have HF6 := hid_of (far_own (base := w1.heap.size) HO6.out htop2)
      have HCO6 : Hid (Co wr b w1.heap.size top _ _) := C.keep HCO3.out hk.out (fun k h1 h2 => by have h3 := HG.out; have h4 := h1.2; omega)
      have HB6 : Hid (Below W.heap.size W wr) := hk.out.below_of HB3.out (fun k h => by have h3 := HG.out; omega) hs3
      have hs6 : W.heap.size ≤ wr.heap.size := HB6.out.size
      clear hy hk ho hnw HO3 HCO3 HB3
      rw [HYL.out]
      go_wp2_with fail
      refine (CO wr b _ top _ _ _ cp y _ HCO6.out HBS6.out (fun _ => HF6.out) (by omega) (by simp) HY256.out HR1.out).mono ?_
      rintro e w7 ⟨v7, rfl, h7, hco7, hk7⟩
      obtain ⟨a7, c7, rfl, -, -, -⟩ := h7.ns
      have HCO7 := hid_of hco7
      have HBS7 := hid_of (HBS6.out.co hk7 (fun _ => HF6.out))
      have HB7 := hid_of (co_below HB6.out hk7 hs1)
      have hs7 : W.heap.size ≤ w7.heap.size := HB7.out.size
      clear h7 hco7 hk7 HCO6 HBS6 HB6 HO6
      go_wp2_with fail
      refine (CU w7 b _ top _ _ _ cp y _ HCO7.out HBS7.out (fun _ => HF6.out) (by omega) (by simp) HY256.out HR2.out).mono ?_
      rintro e w8 ⟨v8, rfl, h8, hco8, hk8⟩
      obtain ⟨a8, c8, rfl, -⟩ := SlAt.of_owns h8
      have HB8 := hid_of (co_below HB7.out hk8 hs1)
      have hs8 : W.heap.size ≤ w8.heap.size := HB8.out.size
      clear h8 hco8 hk8 HCO7 HBS7 HB7
      go_wp2_with fail
      refine (wakes9_any C _).mono ?_
      rintro e w9 ⟨rfl, hb9⟩
      have HB9 : Hid (Below W.heap.size W w9) := HB8.out.trans (hb9.mono hs8)
      clear hb9
      go_wp2
      go_ret
      exact ⟨rfl, HB9.out⟩

end Go.Proofs.YtejgkgnocgplbabGreat
