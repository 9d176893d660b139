/- FrameUnlike: the walk of the law. -/
import Derived.Test.YthkfaackkcdcoaaPart13
import Derived.Test.YthkfaackkcdcoaaPart06
import Derived.Deep.CutRange
import Derived.Deep.RegionWith
namespace Go.Proofs.Ythkfaackkcdcoaa
set_option linter.unusedVariables false
set_option linter.unusedSimpArgs false
open Go.RowKit Dg

theorem enc_inj {x y : List Int} {s t : Nat} (hx : mayX x) (hy : mayX y) (h : pack (bestF x s 19) = pack (bestF y t 19)) : x = y := by
  obtain ⟨i, -, hi, -⟩ := bestF_any hx s
  obtain ⟨j, -, hj, -⟩ := bestF_any hy t
  have h1 := decOut_pack hi 2
  have h2 := decOut_pack hj 2
  rw [h, h2] at h1
  exact (congrArg Prod.fst h1).symm
theorem enc_iff {x y : List Int} {s t : Nat} (hx : mayX x) (hy : mayX y) (hs : mayX x → IsShift (autoZ x 0) s) (ht : mayX y → IsShift (autoZ y 0) t) : pack (bestF x s 19) = pack (bestF y t 19) ↔ x = y := by
  refine ⟨enc_inj hx hy, fun h => ?_⟩
  subst h
  rw [shift_one (hs hx) (ht hy)]
theorem fenc_at (w : World) (s n : Nat) (a : Option Addr) (cap : Nat) (l : List Int) (hn : l.length = n) (hl : Ns w a cap l) (hll : l.length ≤ 1000000) (hs : mayX l → IsShift (autoZ l 0) s) (R : List Nat × Int) (hR : R = encOut l s) :
    Calls Try.prog 12 #[.slice a n cap] w fun e w' => GaveN w w' R e := by
  subst hn
  exact fenc_any w s a cap l hl hll hs R hR
set_option maxHeartbeats 1000000 in
theorem same_short (w : World) (a1 a2 : Option Addr) (n1 n2 c1 c2 : Nat) (h : n1 ≠ n2) :
    Calls Try.prog 13 #[.slice a1 n1 c1, .slice a2 n2 c2] w fun e w' => e = .returned (.bool false) ∧ ∃ n, w' = w.drewN n := by
  have hb : ((n1 : Int) != (n2 : Int)) = true := by simp; omega
  go_enter Try.func13, Try.ntmps13
  go_wp2
  go_ret
  exact ⟨rfl, 0, rfl⟩
theorem same_all (w : World) (v1 v2 : Value) (l1 l2 : List Nat) (h1 : SlAt w v1 l1) (h2 : SlAt w v2 l2) (hl : l1.length ≤ 1000000) (t : Bool) (ht : t = decide (l1 = l2)) :
    Calls Try.prog 13 #[v1, v2] w fun e w' => e = .returned (.bool t) ∧ ∃ n, w' = w.drewN n := by
  by_cases e : l1 = l2
  · subst e
    rw [ht, decide_eq_true rfl]
    exact same_any w v1 v2 l1 h1 h2 (by omega)
  · rw [ht, decide_eq_false e]
    by_cases hlen : l2.length = l1.length
    · exact same_not w v1 v2 l1 l2 h1 h2 hlen hl e
    · obtain ⟨a1, c1, rfl, -⟩ := h1
      obtain ⟨a2, c2, rfl, -⟩ := h2
      exact same_short w a1 a2 _ _ c1 c2 (fun h => hlen h.symm)
set_option maxHeartbeats 2000000 in
theorem sameInt_not (w : World) (a1 a2 : Option Addr) (c1 c2 n : Nat) (l1 l2 : List Int) (hn1 : l1.length = n) (hn2 : l2.length = n) (h1 : IntsAt w a1 l1) (h2 : IntsAt w a2 l2) (hl : n ≤ 1000000) (hne : l1 ≠ l2) :
    Calls Try.prog 14 #[.slice a1 n c1, .slice a2 n c2] w fun e w' => e = .returned (.bool false) ∧ ∃ n, w' = w.drewN n := by
  have H1 := hid_of h1
  have H2 := hid_of h2
  have HN1 := hid_of hn1
  have HN2 := hid_of hn2
  have HNE : Hid (l1 ≠ l2) := hne
  clear h1 h2 hn1 hn2 hne
  go_enter Try.func14, Try.ntmps14
  go_wp2
  go_loopw [5] (fun i wr => ∃ k m : Nat, k ≤ n ∧ i = .int .i64 k ∧ Hid (l1.take k = l2.take k) ∧ wr = w.drewN m) (fun i _ => n - (intOf i).toNat)
  case atStart => exact ⟨0, 0, Nat.zero_le _, rfl, rfl, rfl⟩
  case round =>
    obtain ⟨k, m, hk, rfl, hsame, rfl⟩ := hrel
    by_cases hkn : k < n
    · obtain ⟨x, hx⟩ : ∃ x, l1[k]? = some x := ⟨l1[k]'(by rw [HN1.out]; exact hkn), by simp⟩
      obtain ⟨y, hy⟩ : ∃ y, l2[k]? = some y := ⟨l2[k]'(by rw [HN2.out]; exact hkn), by simp⟩
      obtain ⟨b1, o1, rfl, e1⟩ := H1.out k x hx
      obtain ⟨b2, o2, rfl, e2⟩ := H2.out k y hy
      have HX := hid_of hx
      have HY := hid_of hy
      clear hx hy H1 H2
      by_cases hxy : x = y
      · have hb : (x != y) = false := by simp [hxy]
        have HXY : Hid (x = y) := hxy
        clear hxy
        go_wp2
        go_region
        all_goals go_wp2
        all_goals go_roundw
        case rel => exact ⟨k + 1, m + 1, by omega, by go_num, by show _ = _; rw [List.take_add_one, List.take_add_one, hsame.out, HX.out, HY.out, HXY.out], rfl⟩
        case measure => simp [intOf]; omega
      · have hb : (x != y) = true := by simp [hxy]
        go_wp2
        go_region
        all_goals go_wp2
        all_goals go_ret
        all_goals exact ⟨rfl, m + 1, rfl⟩
    · have e : k = n := by omega
      exfalso
      have := hsame.out
      rw [e, List.take_of_length_le (by rw [HN1.out]; exact Nat.le_refl _), List.take_of_length_le (by rw [HN2.out]; exact Nat.le_refl _)] at this
      exact HNE.out this
theorem sameInt_all (w : World) (a1 a2 : Option Addr) (c1 c2 n : Nat) (l1 l2 : List Int) (hn1 : l1.length = n) (hn2 : l2.length = n) (h1 : IntsAt w a1 l1) (h2 : IntsAt w a2 l2) (hl : n ≤ 1000000) (t : Bool) (ht : t = decide (l1 = l2)) :
    Calls Try.prog 14 #[.slice a1 n c1, .slice a2 n c2] w fun e w' => e = .returned (.bool t) ∧ ∃ n, w' = w.drewN n := by
  by_cases e : l1 = l2
  · subst e
    rw [ht, decide_eq_true rfl, ← hn1]
    exact sameInt_any w a1 a2 c1 c2 l1 h1 h2 (by omega)
  · rw [ht, decide_eq_false e]
    exact sameInt_not w a1 a2 c1 c2 n l1 l2 hn1 hn2 h1 h2 hl e

set_option maxRecDepth 100000 in
set_option maxHeartbeats 4000000 in
theorem yunl_any (W : World) (a : Option Addr) (len cap : Nat) (z : List Int) (a' : Option Addr) (len' cap' : Nat) (z' : List Int) (tone n at_ by_ : Int) (hr : IsRow .i64 W a len cap z) (hr' : IsRow .i64 W a' len' cap' z') (ht : I64 tone) (hn : I64 n) (hat_ : I64 at_) (hby : I64 by_) :
    Calls Try.prog 3 #[.slice a len cap, .slice a' len' cap', .int .i64 tone, .int .i64 n, .int .i64 at_, .int .i64 by_] W fun e W' => e = .returned (.bool true) ∧ Below W.heap.size W W' := by
  obtain ⟨l, hll, hI, hat, hle, hm, hnone, hblk⟩ := hr.ints
  subst hll
  have HA : Hid (IntsAt W a l) := hat
  have HI : Hid (∀ x ∈ l, I64 x) := hI
  have HM : Hid (l.length ≤ maxLen) := Nat.le_trans hle hm
  obtain ⟨M, hM⟩ : ∃ M : Nat, n % 64 = (M : Int) := ⟨(n % 64).toNat, by omega⟩
  obtain ⟨N, hN⟩ : ∃ N : Nat, 1 + (M : Int) = (N : Int) := ⟨M + 1, by omega⟩
  have HMM := hid_of hM
  have hN1 : 1 ≤ N := by omega
  have hN64 : N ≤ 64 := by omega
  have HN65 : Hid ((N : Int) % 65 = (N : Int)) := by show _ = _; omega
  have HTI := hid_of ht
  obtain ⟨hn1, hn2⟩ := hn
  obtain ⟨hat1, hat2⟩ := hat_
  obtain ⟨hby1, hby2⟩ := hby
  obtain ⟨d, hd⟩ : ∃ d : Int, by_ % 3 = d := ⟨_, rfl⟩
  have hd0 : 0 ≤ d := by omega
  have hd2 : d ≤ 2 := by omega
  have HD := hid_of hd
  clear hat hI hle hm hnone hblk hr hr' hM ht hd
  go_enter Try.func3, Try.ntmps3
  go_wp2_with fail
  refine (within_any n 64 W hn1 hn2 (by decide) (by decide)).mono ?_
  rw [HMM.out]
  rintro e w0 ⟨rfl, rfl⟩
  go_wp2_with fail
  refine (tone_any W a cap l (N : Int) tone 0 N HA.out HM.out HI.out ⟨by omega, by omega⟩ HTI.out ⟨by decide, by decide⟩ HN65.out).mono ?_
  rintro e w1 ⟨v1, xs, rfl, hv1, hxl, hxb, hb1⟩
  obtain ⟨a1, c1, rfl, hn1', hnil1, -⟩ := hv1.ns
  have HB1 := hid_of hb1
  have HN1 := hid_of hn1'
  have HNIL1 := hid_of hnil1
  have HXB := hid_of hxb
  have hs1 : W.heap.size ≤ w1.heap.size := hb1.size
  have hxl1 : 1 ≤ xs.length := by omega
  have hxl2 : xs.length ≤ 64 := by omega
  clear hv1 hb1 hn1' hnil1 hxb hxl HA HI HM HTI HN65 HMM
  go_wp2_with fail
  refine (copyInt_any w1 a1 c1 xs HN1.out.at_ (by omega) HNIL1.out).mono ?_
  rintro e w2 ⟨v2, rfl, hv2, hb2⟩
  obtain ⟨a2, c2, rfl, hn2', hnil2, -⟩ := hv2.ns
  have hg2 : ∃ g, a2 = some ⟨g, 0, none⟩ := by
    rcases hnil2 with ⟨-, h, -⟩ | h
    · rw [h] at hxl1; exact absurd hxl1 (by decide)
    · exact h
  obtain ⟨g, rfl⟩ := hg2
  have HX2 := hid_of (HN1.out.mono hb2)
  have HB2 : Hid (Below W.heap.size W w2) := HB1.out.trans (hb2.mono hs1)
  have hs2 : W.heap.size ≤ w2.heap.size := HB2.out.size
  have HV2 := hid_of hv2
  have HG : Hid (w1.heap.size ≤ g) := (World.ownsRow.lt hv2 g rfl).1
  have HLT1 : Hid (∀ y, a1 = some y → y.block < w1.heap.size) := by
    intro y hy
    obtain ⟨x, hx⟩ : ∃ x, xs[0]? = some x := ⟨xs[0]'(by omega), by simp⟩
    obtain ⟨b0, o0, e0, hc0⟩ := HN1.out.at_ 0 x hx
    rw [hy] at e0
    cases e0
    exact World.block_lt_of_cell? w1 _ hc0
  clear hv2 hb2 hn2' hnil2 HN1 HNIL1 HB1
  go_wp2_with fail
  refine (within_nat at_ xs.length w2 hat1 hat2 hxl1 (by omega) _ rfl).mono ?_
  rintro e w0 ⟨k, rfl, hk, -, rfl⟩
  obtain ⟨x, hx⟩ : ∃ x, xs[k]? = some x := ⟨xs[k], by simp [hk]⟩
  obtain ⟨hxb1, hxb2⟩ := HXB.out x (List.mem_of_getElem? hx)
  obtain ⟨hrc, hrf⟩ := owni_cell HV2.out hx
  obtain ⟨u, hu⟩ : ∃ u, x + d = u := ⟨_, rfl⟩
  obtain ⟨Y, hY⟩ : ∃ Y, Y = xs.set k u := ⟨_, rfl⟩
  have HYL : Hid (Y.length = xs.length) := by show _ = _; rw [hY]; simp
  have HYB : Hid (∀ y ∈ Y, -300002 ≤ y ∧ y ≤ 300002) := by
    intro y hy
    rw [hY] at hy
    rcases List.mem_or_eq_of_mem_set hy with h | h
    · have := HXB.out y h; omega
    · omega
  have HSET : Hid (∀ wx : World, OwnInts wx w1.heap.size (.slice (some ⟨g, 0, none⟩) xs.length c2) xs → OwnInts (wx.setCell ⟨g, k, none⟩ (.int .i64 u)) w1.heap.size (.slice (some ⟨g, 0, none⟩) xs.length c2) Y) := by
    intro wx h
    rw [hY]
    exact h.set k u hk
  have HWR : Hid (IntKind.i64.wrap u = u) := Go.IntWalk.i64_in _ (by omega)
  clear hx hY
  go_wp2_with fail
  go_upto_region 4 with fail
  go_cut [] from 30 to 37 (fun wx => Hid (OwnInts wx w1.heap.size (.slice (some ⟨g, 0, none⟩) xs.length c2) Y) ∧ Hid (Kept (fun i => i = g) w2 wx))
  case first =>
    go_region_with (go_at_call 10; refine (within_any by_ 3 _ hby1 hby2 (by decide) (by decide)).mono ?_; rw [HD.out]; rintro e w3 ⟨rfl, rfl⟩)
    all_goals (try go_wp2_with fail)
    all_goals go_meet
    all_goals
      rw [HWR.out]
      exact ⟨World.ownsRow.drew (HSET.out _ HV2.out), (show Kept (fun i => i = g) w2 _ from Kept.setCell _ _ _ rfl).drew⟩
  case rest =>
    obtain ⟨HO3, hk3⟩ := hcut
    have HY3 : Hid (Ns wc (some ⟨g, 0, none⟩) c2 Y) := by
      have h1 : OwnInts wc w1.heap.size (.slice (some ⟨g, 0, none⟩) Y.length c2) Y := by rw [HYL.out]; exact HO3.out
      exact own_ns h1
    have HX3 : Hid (Ns wc a1 c1 xs) := ⟨HX2.out.at_.kept hk3.out (fun y hy hf => by have h1 := HLT1.out y hy; have h2 := HG.out; omega), HX2.out.le, HX2.out.nil⟩
    have HB3 : Hid (Below W.heap.size W wc) := hk3.out.below_of HB2.out (fun i hi => by have h2 := HG.out; omega) hs2
    have hs3 : W.heap.size ≤ wc.heap.size := HB3.out.size
    have hXm : mayX xs := ⟨hxl1, hxl2, fun y hy => by have := HXB.out y hy; unfold isS; omega⟩
    have hYm : mayX Y := ⟨by rw [HYL.out]; exact hxl1, by rw [HYL.out]; exact hxl2, fun y hy => by have := HYB.out y hy; unfold isS; omega⟩
    obtain ⟨s, hs⟩ := shift_may xs
    obtain ⟨t, ht⟩ := shift_may Y
    have HSX := hid_of hs
    have HSY := hid_of ht
    obtain ⟨L1, hL1⟩ : ∃ L, L = pack (bestF xs s 19) := ⟨_, rfl⟩
    obtain ⟨L2, hL2⟩ : ∃ L, L = pack (bestF Y t 19) := ⟨_, rfl⟩
    have HR1 : Hid ((L1, 0) = encOut xs s) := by show _ = _; rw [encOut_may hXm, hL1]
    have HR2 : Hid ((L2, 0) = encOut Y t) := by show _ = _; rw [encOut_may hYm, hL2]
    have hl1 : L1.length ≤ 10000 := by have := bestF_len xs s 19; rw [hL1]; simp; omega
    obtain ⟨q, hq⟩ : ∃ q, q = decide (xs = Y) := ⟨_, rfl⟩
    have HQ1 := hid_of hq
    have HQ2 : Hid (q = decide (L1 = L2)) := by
      show _ = _
      rw [hq, hL1, hL2]
      exact decide_eq_decide.2 (enc_iff hXm hYm hs ht).symm
    clear hk3 HO3 HX2 HB2 HSET HV2 hXm hYm hs ht hL1 hL2 hq HXB HYB HLT1 HG HWR HD
    go_wp2_with fail
    refine (fenc_any wc s a1 c1 xs HX3.out (by omega) HSX.out _ HR1.out).mono ?_
    rintro e w4 ⟨v4, rfl, h4, hb4⟩
    have HS4 := hid_of (SlAt.of_owns h4)
    have HB4 : Hid (Below wc.heap.size wc w4) := hb4
    clear h4 hb4
    go_wp2_with fail
    refine (fenc_at w4 t xs.length _ c2 Y HYL.out (HY3.out.mono HB4.out) (by rw [HYL.out]; omega) HSY.out _ HR2.out).mono ?_
    rintro e w5 ⟨v5, rfl, h5, hb5⟩
    have HS5 := hid_of (SlAt.of_owns h5)
    have HT5 := hid_of (HS4.out.below hb5)
    have HB5 : Hid (Below wc.heap.size wc w5) := HB4.out.trans (hb5.mono HB4.out.size)
    have HBW5 : Hid (Below W.heap.size W w5) := HB3.out.trans (HB5.out.mono hs3)
    have hs5 : W.heap.size ≤ w5.heap.size := HBW5.out.size
    have HX5 : Hid (IntsAt w5 a1 xs) := HX3.out.at_.mono HB5.out
    have HY5 : Hid (IntsAt w5 (some ⟨g, 0, none⟩) Y) := HY3.out.at_.mono HB5.out
    clear h5 hb5 HB4 HB5 HS4
    cases q
    all_goals
      go_wp2_with fail
      refine (same_all w5 v4 v5 L1 L2 HT5.out HS5.out (by omega) _ HQ2.out).mono ?_
      rintro e w6 ⟨rfl, n6, rfl⟩
      go_wp2_with fail
      refine (sameInt_all (w5.drewN n6) a1 _ c1 c2 xs.length xs Y rfl HYL.out (HX5.out.drewN n6) (HY5.out.drewN n6) (by omega) _ HQ1.out).mono ?_
      rintro e w7 ⟨rfl, n7, rfl⟩
      go_wp2_with fail
      refine (wakes8_any _).mono ?_
      rintro e w8 ⟨rfl, hb8⟩
      have HB8 : Hid (Below W.heap.size W w8) := (below_drewN HBW5.out (n6 + n7)).trans (hb8.mono hs5)
      clear hb8
      go_wp2
      go_ret
      exact ⟨rfl, HB8.out⟩

end Go.Proofs.Ythkfaackkcdcoaa
