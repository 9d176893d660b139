/- BlockMost: the walk of the law, over the bundle of contracts. -/
import Derived.Test.YtejgkgnocgplbaaGreatPart19
namespace Go.Proofs.YtejgkgnocgplbaaGreat
set_option linter.unusedVariables false
set_option linter.unusedSimpArgs false
open Go.RowKit Dg Cr

set_option maxRecDepth 100000 in
set_option maxHeartbeats 8000000 in
theorem bmost_any {Co : World → Nat → Nat → Nat → Nat → Nat → Prop} (C : Blk Co) (CP : PackC Co) (CO : OpenC Co) (W : World) (a : Option Addr) (len cap : Nat) (z : List Int) (tone noise n : Int) (hr : IsRow .i64 W a len cap z) (ht : I64 tone) (hno : I64 noise) (hn : I64 n) :
    Calls Tryz.prog 3 #[.slice a len cap, .int .i64 tone, .int .i64 noise, .int .i64 n] W fun e W' => e = .returned (.bool true) ∧ Below W.heap.size W W' := by
  obtain ⟨l, hll, hI, hat, hle, hm, hnone, hblk⟩ := hr.ints
  subst hll
  have HA : Hid (IntsAt W a l) := hat
  have HI : Hid (∀ x ∈ l, I64 x) := hI
  have HM : Hid (l.length ≤ maxLen) := Nat.le_trans hle hm
  obtain ⟨N, hN⟩ : ∃ N : Nat, n % 65 = (N : Int) := ⟨(n % 65).toNat, by omega⟩
  have HN := hid_of hN
  have hN64 : N ≤ 64 := by omega
  have HTI := hid_of ht
  have HNO := hid_of hno
  have HNI := hid_of hn
  clear hat hI hle hm hnone hblk hr hN ht hno hn
  have hcase : (Int.tmod tone 3 != 0) = false ∨ (Int.tmod tone 3 != 0) = true := by cases (Int.tmod tone 3 != 0) <;> simp
  rcases hcase with hb | hb
  all_goals
    go_enter Tryz.func3, Tryz.ntmps3
    go_wp2_with fail
  refine (samples_any W a cap 80 l false HA.out HM.out HI.out (by decide)).mono ?_
  rintro e w1 ⟨v1, xs, rfl, hv1, hxl', -, hxs', hb1⟩
  have hxl : xs.length ≤ 80 := by omega
  have hxs : allS xs := hxs' rfl
  clear hxl' hxs'
  rotate_left
  refine (tone_any W a cap l n tone noise N HA.out HM.out HI.out HNI.out HTI.out HNO.out HN.out).mono ?_
  rintro e w1 ⟨v1, xs, rfl, hv1, hxl', hxs', hb1⟩
  have hxl : xs.length ≤ 80 := by omega
  have hxs : allS xs := fun y hy => by have := hxs' y hy; unfold isS; omega
  clear hxl' hxs'
  all_goals
    obtain ⟨a1, c1, rfl, hn1, -, -⟩ := hv1.ns
    have HB1 := hid_of hb1
    have HN1 := hid_of hn1
    have HLT := hid_of hn1.lt
    have HXS := hid_of hxs
    have hs1 : W.heap.size ≤ w1.heap.size := hb1.size
    clear hv1 hb1 hn1 hxs HA HI HM HN HNI HTI HNO hb
    go_wp2_with fail
    refine (C.newB w1).mono ?_
    rintro e w2 ⟨b, top, rfl, hco2, hb2⟩
    have HCO2 := hid_of hco2
    have HN2 := hid_of (HN1.out.mono hb2)
    have HB2 : Hid (Below W.heap.size W w2) := HB1.out.trans (hb2.mono hs1)
    have hs2 : W.heap.size ≤ w2.heap.size := HB2.out.size
    have HFAR : Hid (xs ≠ [] → ∀ y, a1 = some y → ¬ InCo w1.heap.size top y.block) := fun h y hy hf => by have := HLT.out h y hy; have := hf.1; omega
    clear hco2 hb2 HN1 HB1
    by_cases hx0 : xs.length = 0
    · have hxb : ((xs.length : Int) == 0) = true := beq_iff_eq.2 (by omega)
      have HR : Hid (([], 0, 4) = packOut xs) := by show _ = _; unfold packOut; rw [if_pos hx0]
      clear hx0
      go_wp2_with fail
      refine (CP w2 b _ top 0 0 a1 c1 xs _ HCO2.out HN2.out HFAR.out (by omega) (by decide) HR.out).mono ?_
      rintro e w3 ⟨v3, rfl, h3, -, hk3⟩
      obtain ⟨a3, c3, rfl, -⟩ := SlAt.of_owns h3
      have HB3 := hid_of (co_below HB2.out hk3 hs1)
      have hs3 : W.heap.size ≤ w3.heap.size := HB3.out.size
      clear h3 hk3
      go_wp2_with fail
      refine (wakes9_any C _).mono ?_
      rintro e w6 ⟨rfl, hb6⟩
      have HB6 : Hid (Below W.heap.size W w6) := HB3.out.trans (hb6.mono hs3)
      clear hb6
      go_wp2
      go_ret
      exact ⟨rfl, HB6.out⟩
    have hxb : ((xs.length : Int) == 0) = false := beq_eq_false_iff_ne.2 (by omega)
    obtain ⟨m, hm⟩ : ∃ m, m = manyN xs := ⟨_, rfl⟩
    obtain ⟨L, hL⟩ : ∃ L, L = packL xs := ⟨_, rfl⟩
    obtain ⟨T, hT⟩ : ∃ T, T = xs.take m := ⟨_, rfl⟩
    have HR : Hid ((L, m, 0) = packOut xs) := by show _ = _; unfold packOut; rw [if_neg hx0, if_pos HXS.out, hm, hL]
    have HRO : Hid ((T, 0) = openOut L) := by show _ = _; rw [hL, packL_open HXS.out (by omega), hT, hm]
    have hm1 := manyN_least HXS.out
    have hm2 := manyN_le xs
    rw [← hm] at hm1 hm2
    obtain ⟨hm2, hm3⟩ := hm2
    have HTL : Hid (T.length = m) := by show _ = _; rw [hT]; simp; omega
    have HTI : Hid (∀ wx, IntsAt wx a1 xs → IntsAt wx a1 T) := fun wx h => by rw [hT]; exact h.take m
    have hLl : L.length ≤ 128 := by rw [hL, packL_len HXS.out (by omega)]; exact Nat.le_refl _
    have HL256 : Hid (∀ x ∈ L, x < 256) := by rw [hL]; exact packL_lt _
    have HMORE : Hid (∀ k, m < k → k ≤ xs.length → k ≤ 64 → 124 < (encB (xs.take k)).length) := fun k h1 h2 h3 => manyN_more (by rw [← hm]; exact h1) h2 h3
    have hcap := HN2.out.le
    have hsl := slice_ints a1 xs.length c1 m (by omega)
    have hmin : min xs.length 40 ≤ m := hm1
    clear hm hL hT hm1
    rcases (by omega : xs.length ≤ 40 ∨ (40 < xs.length ∧ xs.length ≤ 64) ∨ 64 < xs.length) with hc | ⟨hc, hc'⟩ | hc
    all_goals
      have hmA : xs.length ≤ m ∨ 40 ≤ m := by omega
      go_wp2_with fail
      refine (CP w2 b _ top 0 0 a1 c1 xs _ HCO2.out HN2.out HFAR.out (by omega) (by decide) HR.out).mono ?_
      rintro e w3 ⟨v3, rfl, h3, hco3, hk3⟩
      obtain ⟨a3, c3, rfl, hbs3⟩ := OwnBytes.bs h3
      have HBS3 := hid_of hbs3
      have HCO3 := hid_of hco3
      have HN3 := hid_of (HN2.out.kept hk3 HFAR.out)
      have HB3 := hid_of (co_below HB2.out hk3 hs1)
      have hs3 : W.heap.size ≤ w3.heap.size := HB3.out.size
      have HFAR3 : Hid (L ≠ [] → ∀ y, a3 = some y → ¬ InCo w1.heap.size top y.block) := by
        intro _ y hy hf
        have h5 := (C.lt HCO2.out).2.2
        have h6 := World.ownsRow.lt h3
        rw [hy] at h6
        obtain ⟨yb, yo, ys⟩ := y
        have h7 : OwnBytes w3 w2.heap.size (.slice (some ⟨yb, yo, ys⟩) L.length c3) L := by rw [← hy]; exact h3
        rcases h7.2 with ⟨e1, -⟩ | ⟨g', cap', cur, hv, hgb, -⟩
        · cases e1
        · cases hv
          have := hf.2
          simp at this
          omega
      clear h3 hco3 hk3 hbs3
      go_wp2_with fail
      refine (CO w3 b _ top _ 0 a3 c3 L _ HCO3.out HBS3.out HFAR3.out (by omega) (by decide) HL256.out HRO.out).mono ?_
      rintro e w4 ⟨v4, rfl, h4, -, hk4⟩
      obtain ⟨a4, c4, rfl, hn4, -, -⟩ := h4.ns
      have HI4 := hid_of hn4.at_
      have HN4 := hid_of (HN3.out.kept hk4 HFAR.out)
      have HB4 := hid_of (co_below HB3.out hk4 hs1)
      have hs4 : W.heap.size ≤ w4.heap.size := HB4.out.size
      have HX4 := hid_of (HTI.out w4 HN4.out.at_)
      clear h4 hk4 hn4 HCO3 HBS3 HN3 HB3
      rw [HTL.out]
      go_wp2_with fail
      refine (sameInt_n w4 a4 a1 c4 c1 m T HTL.out HI4.out HX4.out (by rw [HTL.out]; omega)).mono ?_
      rintro e w5 ⟨rfl, n5, rfl⟩
      have HN5 : Hid (Ns (w4.drewN n5) a1 c1 xs) := HN4.out.drewN n5
      have HB5 : Hid (Below W.heap.size W (w4.drewN n5)) := below_drewN HB4.out n5
      have hs5 : W.heap.size ≤ (w4.drewN n5).heap.size := hs4
      clear HN4 HB4 HI4 HX4
      generalize w4.drewN n5 = w5 at *
      go_wp2_with fail
      go_loopw [15] (fun i wr => ∃ k : Nat, m < k ∧ k ≤ 65 ∧ i = .int .i64 (k : Int) ∧ Hid (Below w5.heap.size w5 wr)) (fun i _ => 100 - (intOf i).toNat)
      case atStart => exact ⟨m + 1, by omega, by omega, by go_num, Below.refl _ _⟩
      case round =>
        obtain ⟨k, hmk, hk65, rfl, hbr⟩ := hrel
        have HBW : Hid (Below W.heap.size W wr) := HB5.out.trans (hbr.out.mono hs5)
        have hsw : W.heap.size ≤ wr.heap.size := HBW.out.size
        rcases (by omega : (k ≤ xs.length ∧ k ≤ 64) ∨ xs.length < k ∨ (k ≤ xs.length ∧ 64 < k)) with ⟨hk1, hk2⟩ | hk1 | ⟨hk1, hk2⟩
        · try (exfalso; omega)
          all_goals
            obtain ⟨ys, hys⟩ : ∃ ys, ys = xs.take k := ⟨_, rfl⟩
            have HYL : Hid (ys.length = k) := by show _ = _; rw [hys]; simp; omega
            have hYm : mayX ys := by rw [hys]; exact may_take HXS.out (by omega) hk2 hk1
            have HYN : Hid (Ns wr a1 c1 ys) := by rw [hys]; exact (HN5.out.mono hbr.out).part k hk1
            have HSX := hid_of (shiftOf_is ys)
            obtain ⟨P, hP⟩ : ∃ P, P = encB ys := ⟨_, rfl⟩
            have HRE : Hid ((P, 0) = encOut ys (shiftOf ys)) := by show _ = _; rw [encB_out hYm, hP]
            have hPl : 124 < P.length := by rw [hP, hys]; exact HMORE.out k hmk hk1 hk2
            have hsk := slice_ints a1 xs.length c1 k (by omega)
            clear hys hYm hP
            go_wp2_with fail
            refine (fenc_n wr (shiftOf ys) k a1 c1 ys HYL.out HYN.out (by rw [HYL.out]; omega) HSX.out _ HRE.out).mono ?_
            rintro e w6 ⟨v6, rfl, h6, hb6⟩
            obtain ⟨a6, c6, rfl, -⟩ := SlAt.of_owns h6
            have HB6 : Hid (Below w5.heap.size w5 w6) := hbr.out.trans (hb6.mono hbr.out.size)
            clear h6 hb6
            go_wp2_with fail
            exact ⟨⟨k + 1, by omega, by omega, by go_num, HB6⟩, by (simp [intOf]) <;> omega⟩
        · try (exfalso; omega)
          all_goals
            go_wp2_with fail
            refine (wakes9_any C _).mono ?_
            rintro e w6 ⟨rfl, hb6⟩
            have HB6 : Hid (Below W.heap.size W w6) := HBW.out.trans (hb6.mono hsw)
            clear hb6
            go_wp2
            go_ret
            exact ⟨rfl, HB6.out⟩
        · try (exfalso; omega)
          all_goals
            go_wp2_with fail
            refine (wakes9_any C _).mono ?_
            rintro e w6 ⟨rfl, hb6⟩
            have HB6 : Hid (Below W.heap.size W w6) := HBW.out.trans (hb6.mono hsw)
            clear hb6
            go_wp2
            go_ret
            exact ⟨rfl, HB6.out⟩

end Go.Proofs.YtejgkgnocgplbaaGreat
