/- The texts Lev4, LevSym, FrmMath, Enc1, one behind the other. -/
import Derived.Test.YthkfaackkcdcoaaPart06
import Derived.Test.YthkfaackkcdcoaaPart03
import Derived.Test.YthkfaackkcdcoaaPart04
import Derived.Test.YthkfaackkcdcoaaPart05

/- Coefficients of levin. -/
namespace Go.Proofs.Ythkfaackkcdcoaa
set_option linter.unusedVariables false
set_option linter.unusedSimpArgs false
open Go.RowKit Dg

/-- A list and a yes or no that were given. -/
def GaveB (w w' : World) (R : List Int × Bool) (e : Ending) : Prop :=
  ∃ v, e = .returned (.tuple #[v, .bool R.2]) ∧ OwnInts w' w.heap.size v R.1 ∧ Below w.heap.size w w'
theorem GaveB.none {w w' : World} {R : List Int × Bool} (hR : R = ([], false)) (hb : Below w.heap.size w w') : GaveB w w' R (.returned (.tuple #[.slice none 0 0, .bool false])) := by
  subst hR
  exact ⟨_, rfl, OwnInts.nil _ _, hb⟩
theorem GaveB.ok {w w' : World} {L : List Int} {k : Bool} {e : Ending} (h : GaveB w w' (L, k) e) : ∃ a cap, e = .returned (.tuple #[.slice a L.length cap, .bool k]) ∧ OwnInts w' w.heap.size (.slice a L.length cap) L ∧ Ns w' a cap L ∧ Below w.heap.size w w' := by
  obtain ⟨v, rfl, ho, hb⟩ := h
  obtain ⟨a, cap, rfl, hn, -, -⟩ := ho.ns
  exact ⟨a, cap, rfl, ho, hn, hb⟩
theorem coOut_bad {x : List Int} {o : Int} {s : Nat} (h : o < 1 ∨ 12 < o ∨ (x.length : Int) ≤ o ∨ ¬ allS x ∨ 64 < x.length ∨ autoZ x 0 / 2 ^ s < 1) : coOut x o s = ([], false) := by
  unfold coOut
  rw [if_pos h]
theorem coOut_good {x : List Int} {n s : Nat} (h1 : 1 ≤ n) (h12 : n ≤ 12) (hl : n < x.length) (hS : allS x) (h64 : x.length ≤ 64) (h0 : ¬ autoZ x 0 / 2 ^ s < 1) (L : List Int) (hL : L = (lev (scaleL (autoL x (n + 1)) s) n).1) :
    coOut x (n : Int) s = if allC L then (L, true) else ([], false) := by
  unfold coOut
  rw [if_neg (fun h => by
    rcases h with h | h | h | h | h | h
    · omega
    · omega
    · omega
    · exact h hS
    · omega
    · exact h0 h), Int.toNat_natCast, ← hL]
theorem scale_first (x : List Int) (n s : Nat) : (scaleL (autoL x (n + 1)) s)[0]? = some (autoZ x 0 / 2 ^ s) := scaleL_get (autoL_get x (by omega))
theorem scOut_auto {x : List Int} (hS : allS x) (h64 : x.length ≤ 64) (n s : Nat) : scOut (autoL x (n + 1)) s = (scaleL (autoL x (n + 1)) s, (s : Int)) := by
  unfold scOut
  rw [if_pos (auto_R hS h64 (n + 1) (by omega))]
theorem lev_next (r : List Int) (i : Nat) (cs : List Int) (e k : Int) (hcs : cs = (lev r i).1) (he : e = (lev r i).2) (hk : k = kOf r cs e) : (lev r (i + 1)).1 = turnL cs k ++ [k] ∧ (lev r (i + 1)).2 = eNext k e := by
  subst hcs he hk
  exact ⟨rfl, rfl⟩

set_option maxRecDepth 100000 in
set_option maxHeartbeats 4000000 in
theorem vco_any (w : World) (a : Option Addr) (cap : Nat) (l : List Int) (o : Int) (s : Nat) (h : IntsAt w a l) (hl : l.length ≤ 1000000) (hs : allS l → l.length ≤ 64 → IsShift (autoZ l 0) s) (R : List Int × Bool) (hR : R = coOut l o s) :
    Calls Try.prog 59 #[.slice a l.length cap, .int .i64 o] w fun e w' => GaveB w w' R e := by
  have H : Hid (IntsAt w a l) := h
  clear h
  by_cases h1 : o < 1 ∨ 12 < o ∨ (l.length : Int) ≤ o
  · rw [coOut_bad (by omega)] at hR
    have HR := hid_of hR
    clear hR hs
    rcases (by omega : o < 1 ∨ (1 ≤ o ∧ 12 < o) ∨ (1 ≤ o ∧ o ≤ 12 ∧ (l.length : Int) ≤ o)) with h2 | ⟨h2, h3⟩ | ⟨h2, h3, h4⟩
    all_goals
      clear h1
      go_enter Try.func59, Try.ntmps59
      go_wp2_with fail
      go_ret2
      exact GaveB.none HR.out (Below.refl _ _)
  obtain ⟨n, hn⟩ : ∃ n : Nat, o = (n : Int) := ⟨o.toNat, by omega⟩
  subst hn
  have hn1 : 1 ≤ n := by omega
  have hn12 : n ≤ 12 := by omega
  have hnl : n < l.length := by omega
  clear h1
  by_cases hS : allS l ∧ l.length ≤ 64
  case neg =>
    rw [coOut_bad (by by_cases h : allS l <;> simp_all)] at hR
    have HR := hid_of hR
    obtain ⟨q, hq, hq0⟩ : ∃ q : Int, ([], q) = autoOut l (n : Int) ∧ (q != 0) = true := by
      unfold autoOut
      rw [if_neg (by omega)]
      by_cases h : allS l
      · rw [if_pos h, if_pos (by by_cases h6 : 64 < l.length; exact h6; exact absurd ⟨h, by omega⟩ hS)]
        exact ⟨4, rfl, rfl⟩
      · rw [if_neg h]
        exact ⟨8, rfl, rfl⟩
    have HQ := hid_of hq
    clear hR hs hS hq
    go_enter Try.func59, Try.ntmps59
    go_wp2_with fail
    refine (vauto_any w a cap l _ H.out hl _ HQ.out).mono ?_
    rintro e w1 hg
    obtain ⟨a1, c1, rfl, -, -, hb1⟩ := hg.ok
    have HB1 := hid_of hb1
    clear hg hb1
    go_wp2_with fail
    go_ret2
    exact GaveB.none HR.out HB1.out
  obtain ⟨hS, h64⟩ := hS
  have hsh := hs hS h64
  obtain ⟨A, hA⟩ : ∃ A, A = autoL l (n + 1) := ⟨_, rfl⟩
  have HA : Hid ((A, 0) = autoOut l (n : Int)) := by
    show _ = _
    unfold autoOut
    rw [if_neg (by omega), if_pos hS, if_neg (by omega), Int.toNat_natCast, hA]
  obtain ⟨r, hr⟩ : ∃ r, r = scaleL (autoL l (n + 1)) s := ⟨_, rfl⟩
  have HRS : Hid ((r, (s : Int)) = scOut A s) := by show _ = _; rw [hA, scOut_auto hS h64 n s, hr]
  have HSH : Hid (isR A → IsShift (A.getD 0 0) s) := by
    intro _
    rw [hA, autoL_getD l (by omega)]
    exact hsh
  have hA13 : A.length ≤ 1000000 := by rw [hA]; simp; omega
  obtain ⟨L, hL⟩ : ∃ L, L = (lev r n).1 := ⟨_, rfl⟩
  have HRA : Hid (allR r) := by rw [hr]; exact scale_R hsh
  obtain ⟨x0, hx0⟩ : ∃ x, x = autoZ l 0 / 2 ^ s := ⟨_, rfl⟩
  have HX0 : Hid (r[0]? = some x0) := by show _ = _; rw [hr, hx0]; exact scale_first l n s
  have HRL : Hid (r.length = n + 1) := by show _ = _; rw [hr]; simp
  have hrn : n < r.length := by rw [HRL.out]; omega
  have hrl : r.length ≤ 1000000 := by rw [HRL.out]; omega
  have hxb := HRA.out x0 (List.mem_of_getElem? HX0.out)
  obtain ⟨hxb1, hxb2⟩ := hxb
  by_cases hx1 : x0 < 1
  · rw [coOut_bad (by rw [← hx0]; exact .inr (.inr (.inr (.inr (.inr hx1)))))] at hR
    have HR := hid_of hR
    clear hR hs hS hA hr hL hx0 hsh
    go_enter Try.func59, Try.ntmps59
    go_wp2_with fail
    refine (vauto_any w a cap l _ H.out hl _ HA.out).mono ?_
    rintro e w1 hg
    obtain ⟨a1, c1, rfl, -, hn1', hb1⟩ := hg.ok
    have HN1 := hid_of hn1'
    have HB1 := hid_of hb1
    have hs1 := hb1.size
    clear hg hb1 hn1'
    go_wp2_with fail
    refine (vscaled_any w1 a1 c1 A s HN1.out.at_ hA13 HSH.out _ HRS.out).mono ?_
    rintro e w2 hg
    obtain ⟨a2, c2, rfl, -, hn2', hb2⟩ := hg.ok
    have HB2 : Hid (Below w.heap.size w w2) := HB1.out.trans (hb2.mono hs1)
    obtain ⟨b0, o0, rfl, hc0⟩ := hn2'.at_ 0 x0 HX0.out
    rw [Nat.add_zero] at hc0
    clear hg hb2 hn2' HN1 HB1
    go_wp2_with fail
    go_loopw [10, 11, 42] (fun e v i wr => e = .int .i64 x0 ∧ v = .slice none 0 0 ∧ i = .int .i64 0 ∧ w2 = wr) (fun _ _ _ _ => 0)
    case atStart => exact ⟨rfl, rfl, rfl, rfl⟩
    case round =>
      obtain ⟨rfl, rfl, rfl, rfl⟩ := hrel
      go_wp2_with fail
      go_ret2
      exact GaveB.none HR.out HB2.out
  have hx1' : 1 ≤ x0 := by omega
  have hR2 := coOut_good hn1 hn12 hnl hS h64 (by rw [← hx0]; omega) L (by rw [hL, hr])
  rw [hR2] at hR
  have HR := hid_of hR
  have HL := hid_of hL
  have HE0 : Hid (∀ i, 1 ≤ (lev r i).2 ∧ (lev r i).2 ≤ x0) := by
    intro i
    have := lev_e (r := r) (by rw [getD_of HX0.out]; exact hx1') i
    rw [getD_of HX0.out] at this
    exact this
  have HL0 : Hid (x0 = (lev r 0).2) := by show _ = _; rw [lev, getD_of HX0.out]
  clear hR hs hS hA hr hL hx0 hx1 hR2 hsh
  go_enter Try.func59, Try.ntmps59
  go_wp2_with fail
  refine (vauto_any w a cap l _ H.out hl _ HA.out).mono ?_
  rintro e w1 hg
  obtain ⟨a1, c1, rfl, -, hn1', hb1⟩ := hg.ok
  have HN1 := hid_of hn1'
  have HB1 := hid_of hb1
  have hs1 := hb1.size
  clear hg hb1 hn1'
  go_wp2_with fail
  refine (vscaled_any w1 a1 c1 A s HN1.out.at_ hA13 HSH.out _ HRS.out).mono ?_
  rintro e w2 hg
  obtain ⟨a2, c2, rfl, -, hn2', hb2⟩ := hg.ok
  have HB2 : Hid (Below w.heap.size w w2) := HB1.out.trans (hb2.mono hs1)
  obtain ⟨b0, o0, rfl, hc0⟩ := hn2'.at_ 0 x0 HX0.out
  rw [Nat.add_zero] at hc0
  have HN2 := hid_of hn2'.at_
  have hs2 : w.heap.size ≤ w2.heap.size := HB2.out.size
  clear hg hb2 hn2' HN1 HB1
  go_wp2_with fail
  go_loopw [10, 11, 42] (fun e v i wr => ∃ (j : Nat) (z : Int) (cs : List Int), j ≤ n ∧ e = .int .i64 z ∧ i = .int .i64 (j : Int) ∧ Hid (z = (lev r j).2) ∧ Hid (cs = (lev r j).1) ∧ Hid (OwnInts wr w.heap.size v cs) ∧ Hid (Below w2.heap.size w2 wr)) (fun _ _ i _ => n - (intOf i).toNat)
  case atStart => exact ⟨0, x0, [], Nat.zero_le _, rfl, rfl, HL0.out, rfl, OwnInts.nil _ _, Below.refl _ _⟩
  case round =>
    obtain ⟨j, z, cs, hj, rfl, rfl, hz, hcs, ho, hb⟩ := hrel
    obtain ⟨aa, ac, rfl, hna, -, -⟩ := ho.out.ns
    have HAA := hid_of hna.at_
    have HCL : Hid (cs.length = j) := by show _ = _; rw [hcs.out]; simp
    have hzb := HE0.out j
    rw [← hz.out] at hzb
    obtain ⟨hz1, hz2⟩ := hzb
    have HBW : Hid (Below w.heap.size w wr) := HB2.out.trans (hb.out.mono hs2)
    have hsr : w.heap.size ≤ wr.heap.size := HBW.out.size
    clear hna
    by_cases hjn : j < n
    · have HRR : Hid (IntsAt wr (some ⟨b0, o0, none⟩) r) := HN2.out.mono hb.out
      have HW : Hid (within cs 16777216) := by rw [hcs.out]; exact lev_bound r (by omega)
      obtain ⟨k, hk⟩ : ∃ k, k = kOf r cs z := ⟨_, rfl⟩
      have hkb := kOf_small r cs z
      rw [← hk] at hkb
      obtain ⟨hk1, hk2⟩ := hkb
      have hnx := lev_next r j cs z k hcs.out hz.out hk
      have HK := hid_of hk
      obtain ⟨T, hT⟩ : ∃ T, T = turnL cs k ++ [k] := ⟨_, rfl⟩
      have HT := hid_of hT
      have HNX1 : Hid (T = (lev r (j + 1)).1) := by show _ = _; rw [hnx.1, hT]
      obtain ⟨kk, hkk⟩ : ∃ kk, kk = k * k := ⟨_, rfl⟩
      have hkkb := kk_small hk1 hk2
      rw [← hkk] at hkkb
      obtain ⟨hkk1, hkk2⟩ := hkkb
      have HKK : Hid (k * k = kk) := hkk.symm
      obtain ⟨qe, hqe⟩ : ∃ qe, qe = kk / 4096 * z := ⟨_, rfl⟩
      have hqeb := qe_small (q := kk / 4096) (e := z) (by omega) (by omega) hz1
      rw [← hqe] at hqeb
      obtain ⟨hqe1, hqe2⟩ := hqeb
      have HQE : Hid (kk / 4096 * z = qe) := hqe.symm
      have HNX2 : Hid (z - qe / 4096 = (lev r (j + 1)).2) := by show _ = _; rw [hnx.2, eNext, ← hkk, ← hqe]
      have hcl12 : cs.length ≤ 12 := by rw [HCL.out]; omega
      have hclr : cs.length + 1 < r.length := by rw [HCL.out, HRL.out]; omega
      clear hk hT hkk hqe hnx
      go_wp2_with fail
      refine (vturn_any wr _ _ _ _ _ _ cs r z k rfl rfl HAA.out HRR.out hcl12 hclr hrl HRA.out HW.out hz1 (by omega) HK.out).mono ?_
      rintro e w3 ⟨rfl, rfl⟩
      go_wp2_with fail
      refine (vturned_any wr _ _ _ cs k rfl HAA.out hcl12 HW.out hk1 hk2 T HT.out).mono ?_
      rintro e w4 ⟨v4, rfl, ho4, hb4⟩
      have HO4 : Hid (OwnInts w4 w.heap.size v4 T) := ho4.base hsr
      have HB4 : Hid (Below w2.heap.size w2 w4) := hb.out.trans (hb4.mono hb.out.size)
      clear ho4 hb4
      go_wp2_with fail
      rw [HKK.out, Go.IntWalk.wrap64_in kk (by omega), HQE.out, Go.IntWalk.wrap64_in qe (by omega), Go.IntWalk.wrap64_in (z - qe / 4096) (by omega)]
      exact ⟨⟨j + 1, z - qe / 4096, T, by omega, rfl, by go_num, HNX2, HNX1, HO4, HB4⟩, by (simp [intOf]) <;> omega⟩
    · have e0 : j = n := by omega
      have HCSL : Hid (cs = L) := by show _ = _; rw [hcs.out, HL.out, e0]
      have hcl12 : cs.length ≤ 1000000 := by rw [HCL.out]; omega
      by_cases hC : allC L
      · have HT : Hid (true = decide (allC cs)) := by show _ = _; rw [HCSL.out]; exact (decide_eq_true hC).symm
        have HRR : Hid (R = (cs, true)) := by show _ = _; rw [HR.out, if_pos hC, HCSL.out]
        clear hC
        go_wp2_with fail
        refine (vcoefs_any wr _ _ cs HAA.out hcl12 true HT.out).mono ?_
        rintro e w3 ⟨rfl, rfl⟩
        go_wp2_with fail
        go_ret2
        rw [HRR.out]
        exact ⟨_, rfl, ho.out, HBW.out⟩
      · have HT : Hid (false = decide (allC cs)) := by show _ = _; rw [HCSL.out]; exact (decide_eq_false hC).symm
        have HRR : Hid (R = ([], false)) := by show _ = _; rw [HR.out, if_neg hC]
        clear hC
        go_wp2_with fail
        refine (vcoefs_any wr _ _ cs HAA.out hcl12 false HT.out).mono ?_
        rintro e w3 ⟨rfl, rfl⟩
        go_wp2_with fail
        go_ret2
        exact GaveB.none HRR.out HBW.out

end Go.Proofs.Ythkfaackkcdcoaa

/- Samples with all signs turned, and backwards, have the same sums and coefficients; samples that are all alike; no program. -/
namespace Go.Proofs.Ythkfaackkcdcoaa
set_option linter.unusedVariables false
set_option linter.unusedSimpArgs false
open Go.RowKit Dg

def sumTo (f : Nat → Int) : Nat → Int
  | 0 => 0
  | m + 1 => sumTo f m + f m
theorem sumTo_congr {f g : Nat → Int} : ∀ m, (∀ i, i < m → f i = g i) → sumTo f m = sumTo g m
  | 0, _ => rfl
  | m + 1, h => by rw [sumTo, sumTo, sumTo_congr m (fun i hi => h i (by omega)), h m (by omega)]
theorem sumTo_shift (f : Nat → Int) : ∀ m, sumTo f (m + 1) = f 0 + sumTo (fun i => f (i + 1)) m
  | 0 => by simp [sumTo]
  | m + 1 => by rw [sumTo, sumTo_shift f m, sumTo, Int.add_assoc]
theorem sumTo_rev : ∀ (m : Nat) (f : Nat → Int), sumTo f m = sumTo (fun i => f (m - 1 - i)) m
  | 0, f => rfl
  | m + 1, f => by
    rw [sumTo_shift, sumTo_rev m, sumTo]
    have e : sumTo (fun i => f (m - 1 - i + 1)) m = sumTo (fun i => f (m + 1 - 1 - i)) m := sumTo_congr m (fun i hi => by rw [show m - 1 - i + 1 = m + 1 - 1 - i by omega])
    rw [e, show m + 1 - 1 - m = 0 by omega, Int.add_comm]
theorem corr_sum (x : List Int) (k m : Nat) : corr x k m = sumTo (fun i => x.getD (k + i) 0 * x.getD i 0) m := by
  induction m with
  | zero => rfl
  | succ m ih => simp only [corr, sumTo]; rw [ih]
theorem getD_rev (x : List Int) {i : Nat} (h : i < x.length) : x.reverse.getD i 0 = x.getD (x.length - 1 - i) 0 := by
  rw [List.getD, List.getD, List.getElem?_reverse h]
theorem autoZ_rev (x : List Int) (k : Nat) : autoZ x.reverse k = autoZ x k := by
  unfold autoZ
  rw [List.length_reverse, corr_sum, corr_sum, sumTo_rev (x.length - k) (fun i => x.getD (k + i) 0 * x.getD i 0)]
  refine sumTo_congr _ (fun i hi => ?_)
  rw [getD_rev x (by omega), getD_rev x (by omega), show k + (x.length - k - 1 - i) = x.length - 1 - i by omega, show x.length - k - 1 - i = x.length - 1 - (k + i) by omega, Int.mul_comm]
theorem getD_neg (x : List Int) (i : Nat) : (x.map fun v => -v).getD i 0 = -x.getD i 0 := by
  rw [List.getD, List.getD, List.getElem?_map]
  cases x[i]? <;> simp
theorem autoZ_neg (x : List Int) (k : Nat) : autoZ (x.map fun v => -v) k = autoZ x k := by
  unfold autoZ
  rw [List.length_map, corr_sum, corr_sum]
  refine sumTo_congr _ (fun i _ => ?_)
  simp only [getD_neg]
  rw [Int.neg_mul_neg]
/-- Lists of samples whose sums are the same. -/
def Alike (x y : List Int) : Prop := y.length = x.length ∧ allS y ∧ ∀ k, autoZ y k = autoZ x k
theorem Alike.autoL {x y : List Int} (h : Alike x y) (n : Nat) : autoL y n = autoL x n := by
  unfold Go.Proofs.Ythkfaackkcdcoaa.autoL
  refine List.map_congr_left (fun k _ => h.2.2 k)
theorem Alike.out {x y : List Int} (h : Alike x y) (hx : allS x) (o : Int) : autoOut y o = autoOut x o := by
  unfold autoOut
  rw [h.autoL, h.1]
  simp [hx, h.2.1]
theorem Alike.co {x y : List Int} (h : Alike x y) (hx : allS x) (o : Int) (s : Nat) : coOut y o s = coOut x o s := by
  unfold coOut
  rw [h.autoL, h.1, h.2.2 0]
  simp [hx, h.2.1]
theorem alike_rev {x : List Int} (h : allS x) : Alike x x.reverse := ⟨by simp, fun v hv => h v (by simpa using hv), autoZ_rev x⟩
theorem alike_neg {x : List Int} (h : ∀ v ∈ x, -8388607 ≤ v ∧ v ≤ 8388607) : Alike x (x.map fun v => -v) := by
  refine ⟨by simp, fun v hv => ?_, autoZ_neg x⟩
  obtain ⟨u, hu, rfl⟩ := List.mem_map.1 hv
  have := h u hu
  unfold isS
  omega

theorem corr_same (n : Nat) (v : Int) (k m : Nat) (h : k + m ≤ n) : corr (List.replicate n v) k m = v * v * (m : Int) := by
  induction m with
  | zero => simp [corr]
  | succ m ih =>
    simp only [corr]
    have e1 : (List.replicate n v).getD (k + m) 0 = v := by simp [List.getD, List.getElem?_replicate, show k + m < n by omega]
    have e2 : (List.replicate n v).getD m 0 = v := by simp [List.getD, List.getElem?_replicate, show m < n by omega]
    rw [ih (by omega), e1, e2]
    have e3 : ((m + 1 : Nat) : Int) = (m : Int) + 1 := by omega
    rw [e3, Int.mul_add, Int.mul_one]
theorem autoZ_same (n : Nat) (v : Int) (k : Nat) (h : k ≤ n) : autoZ (List.replicate n v) k = v * v * ((n : Int) - (k : Int)) := by
  unfold autoZ
  rw [List.length_replicate, corr_same n v k (n - k) (by omega), show ((n - k : Nat) : Int) = (n : Int) - (k : Int) by omega]
theorem near {A C P r0 r1 : Int} {s : Nat} (hA : 1 ≤ A) (hC0 : 0 ≤ C) (hC : 19 * A ≤ 20 * C) (hP : P = 2 ^ s) (h0 : r0 = A / P) (h1 : r1 = C / P) (hs : IsShift A s) : 1 ≤ r0 ∧ 3801 * r0 ≤ 4096 * r1 := by
  have hP1 : (1 : Int) ≤ P := by rw [hP]; exact Int.pow_pos (by decide)
  rcases Nat.eq_zero_or_pos s with e | e
  · subst e
    have : P = 1 := by rw [hP]; rfl
    subst this
    rw [Int.ediv_one] at h0 h1
    omega
  · have h2 : 536870912 ≤ r0 := by
      have g1 := hs.2 (s - 1) (by omega)
      have e2 : (2 : Int) ^ s = 2 ^ (s - 1) * 2 := by
        have : s = (s - 1) + 1 := by omega
        rw [this, Int.pow_succ]
        simp
      have hp : (0 : Int) ≤ 2 ^ (s - 1) := Int.le_of_lt (Int.pow_pos (by decide))
      rw [h0, hP, e2, ← Int.ediv_ediv_of_nonneg hp]
      omega
    have f1 := Int.mul_ediv_add_emod A P
    have f2 := Int.emod_nonneg A (show P ≠ 0 by omega)
    have f3 := Int.mul_ediv_add_emod C P
    have f4 := Int.emod_lt_of_pos C (show 0 < P by omega)
    rw [← h0] at f1
    rw [← h1] at f3
    have f5 : P * 536870912 ≤ P * r0 := Int.mul_le_mul_of_nonneg_left h2 (by omega)
    have f6 : P * (3801 * r0) ≤ P * (4096 * r1) := by
      have g1 : P * (3801 * r0) = 3801 * (P * r0) := by rw [← Int.mul_assoc, Int.mul_comm P 3801, Int.mul_assoc]
      have g2 : P * (4096 * r1) = 4096 * (P * r1) := by rw [← Int.mul_assoc, Int.mul_comm P 4096, Int.mul_assoc]
      rw [g1, g2]
      omega
    exact ⟨by omega, Int.le_of_mul_le_mul_left f6 (by omega)⟩
theorem coOut_same (n : Nat) (v : Int) (s : Nat) (hn : 20 ≤ n) (hn2 : n ≤ 63) (hv1 : 1 ≤ v) (hv2 : v ≤ 1000000) (hs : IsShift (autoZ (List.replicate n v) 0) s) : ∃ k, 3800 < k ∧ k ≤ 4095 ∧ coOut (List.replicate n v) 1 s = ([k], true) := by
  obtain ⟨x, hx⟩ : ∃ x, x = List.replicate n v := ⟨_, rfl⟩
  rw [← hx] at hs ⊢
  have hS : allS x := fun y hy => by
    rw [hx] at hy
    have := List.eq_of_mem_replicate hy
    unfold isS
    omega
  have hl : x.length = n := by rw [hx]; simp
  obtain ⟨r, hr⟩ : ∃ r, r = scaleL (autoL x (1 + 1)) s := ⟨_, rfl⟩
  obtain ⟨r0, hr0⟩ : ∃ r0, r0 = autoZ x 0 / 2 ^ s := ⟨_, rfl⟩
  obtain ⟨r1, hr1⟩ : ∃ r1, r1 = autoZ x 1 / 2 ^ s := ⟨_, rfl⟩
  have e0 : r.getD 0 0 = r0 := by rw [hr0]; exact getD_of (by rw [hr]; exact scaleL_get (autoL_get x (by omega)))
  have e1 : r.getD 1 0 = r1 := by rw [hr1]; exact getD_of (by rw [hr]; exact scaleL_get (autoL_get x (by omega)))
  have hvv : 1 ≤ v * v := by
    have := Int.mul_le_mul_of_nonneg_left hv1 (show (0 : Int) ≤ v by omega)
    omega
  obtain ⟨q, hq⟩ : ∃ q, q = v * v := ⟨_, rfl⟩
  rw [← hq] at hvv
  have hn' : (20 : Int) ≤ (n : Int) := by omega
  have ha : autoZ x 0 = q * (n : Int) := by rw [hx, autoZ_same n v 0 (by omega), hq]; simp
  have hc : autoZ x 1 = q * ((n : Int) - 1) := by rw [hx, autoZ_same n v 1 (by omega), hq]; simp
  have hqn : q * 20 ≤ q * (n : Int) := Int.mul_le_mul_of_nonneg_left hn' (by omega)
  have hc2 : autoZ x 1 = q * (n : Int) - q := by rw [hc, Int.mul_sub, Int.mul_one]
  have hk := near (A := autoZ x 0) (C := autoZ x 1) (P := 2 ^ s) (r0 := r0) (r1 := r1) (s := s) (by omega) (by omega) (by omega) rfl hr0 hr1 hs
  obtain ⟨k, hkk⟩ : ∃ k, k = kOf r [] r0 := ⟨_, rfl⟩
  have hkb := kOf_small r [] r0
  have hk2 : 3801 ≤ k := by
    have g1 : kOf r [] r0 = min (max (r1 * 4096 / r0) (-4095)) 4095 := by
      unfold kOf
      simp only [List.length_nil, numTo, Nat.zero_add]
      rw [e1]
    have g2 : 3801 ≤ r1 * 4096 / r0 := by
      rw [Int.le_ediv_iff_mul_le (by omega)]
      omega
    omega
  refine ⟨k, by omega, by omega, ?_⟩
  have hL : [k] = (lev r 1).1 := by
    simp only [lev]
    rw [e0, ← hkk]
    rfl
  have := coOut_good (x := x) (n := 1) (s := s) (by omega) (by omega) (by omega) hS (by omega) (by rw [← hr0]; omega) [k] (by rw [hL, hr])
  have hAC : allC [k] := fun y hy => by simp at hy; subst hy; unfold isC; omega
  rw [if_pos hAC] at this
  exact this

end Go.Proofs.Ythkfaackkcdcoaa

/- Frames: the digits of samples by each kind, the shortest of them, and the samples of digits; no program. -/
namespace Go.Proofs.Ythkfaackkcdcoaa
set_option linter.unusedVariables false
set_option linter.unusedSimpArgs false
open Go.RowKit Dg

/-- A sample's digits; a coefficient's. -/
def sampD (v : Int) : List Bool := dig (v + 8388608) 24
def coefD (c : Int) : List Bool := dig (c + 32768) 16
def sampsD (l : List Int) : List Bool := (l.map sampD).flatten
def coefsD (l : List Int) : List Bool := (l.map coefD).flatten
@[simp] theorem sampsD_nil : sampsD [] = [] := rfl
@[simp] theorem coefsD_nil : coefsD [] = [] := rfl
theorem sampsD_cons (v : Int) (l : List Int) : sampsD (v :: l) = sampD v ++ sampsD l := by simp [sampsD]
theorem coefsD_cons (v : Int) (l : List Int) : coefsD (v :: l) = coefD v ++ coefsD l := by simp [coefsD]
theorem sampsD_snoc (l : List Int) (v : Int) : sampsD (l ++ [v]) = sampsD l ++ sampD v := by simp [sampsD]
theorem coefsD_snoc (l : List Int) (v : Int) : coefsD (l ++ [v]) = coefsD l ++ coefD v := by simp [coefsD]
@[simp] theorem length_sampD (v : Int) : (sampD v).length = 24 := by simp [sampD]
@[simp] theorem length_coefD (v : Int) : (coefD v).length = 16 := by simp [coefD]
@[simp] theorem length_sampsD (l : List Int) : (sampsD l).length = 24 * l.length := by
  induction l with
  | nil => rfl
  | cons v l ih => rw [sampsD_cons]; simp [ih]; omega
@[simp] theorem length_coefsD (l : List Int) : (coefsD l).length = 16 * l.length := by
  induction l with
  | nil => rfl
  | cons v l ih => rw [coefsD_cons]; simp [ih]; omega
/-- Residuals as numbers without signs; may they all be put? -/
def zigs (l : List Int) : List Int := l.map zigOf
@[simp] theorem length_zigs (l : List Int) : (zigs l).length = l.length := by simp [zigs]
def okZ (l : List Int) : Prop := ∀ z ∈ zigs l, z < 4294967296
instance (l : List Int) : Decidable (okZ l) := by unfold okZ; infer_instance
theorem zigOf_nn (n : Int) : 0 ≤ zigOf n := by
  unfold zigOf
  split
  · omega
  · split <;> omega
theorem okZ_num {l : List Int} (h : okZ l) : ∀ z ∈ zigs l, isNum z = true := by
  intro z hz
  have h1 := h z hz
  obtain ⟨n, -, rfl⟩ := List.mem_map.1 hz
  have h2 := zigOf_nn n
  simp [isNum]
  omega
def parOf (l : List Int) : Nat := (bestTo (zigs l) 24).1
theorem parOf_le (l : List Int) : parOf l ≤ 24 := bestTo_le _ _
/-- The residuals' digits. -/
def residD (l : List Int) : List Bool := dig (parOf l : Int) 5 ++ digs (zigs l) (parOf l)
/-- What every frame begins with. -/
def headD (kind : Int) (n : Nat) : List Bool := dig kind 8 ++ dig (n : Int) 8
@[simp] theorem length_headD (kind : Int) (n : Nat) : (headD kind n).length = 16 := by simp [headD]
def mayX (x : List Int) : Prop := 1 ≤ x.length ∧ x.length ≤ 64 ∧ allS x
instance (l : List Int) : Decidable (mayX l) := by unfold mayX; infer_instance
def allOne (x : List Int) : Prop := ∀ v ∈ x, v = x.getD 0 0
instance (l : List Int) : Decidable (allOne l) := by unfold allOne; infer_instance
/-- The digits of a frame of a kind, if there is one; s is the power of two of levin's Scaled. -/
def frm (kind : Int) (x : List Int) (s : Nat) : Option (List Bool) :=
  if ¬ mayX x ∨ kind < 0 ∨ 18 < kind then none
  else if kind = 0 then (if allOne x then some (headD kind x.length ++ sampD (x.getD 0 0)) else none)
  else if kind = 1 then some (headD kind x.length ++ sampsD x)
  else if kind ≤ 6 then
    (if (x.length : Int) < kind - 2 then none
     else if okZ (residZ x (kind - 2).toNat) then some (headD kind x.length ++ sampsD (x.take (kind - 2).toNat) ++ residD (residZ x (kind - 2).toNat)) else none)
  else if (coOut x (kind - 6) s).2 = true then
    (if okZ (lresidZ x (coOut x (kind - 6) s).1) then some (headD kind x.length ++ sampsD (x.take (kind - 6).toNat) ++ coefsD (coOut x (kind - 6) s).1 ++ residD (lresidZ x (coOut x (kind - 6) s).1)) else none)
  else none
/-- As: the bytes, and whether there are any. -/
def asOut (kind : Int) (x : List Int) (s : Nat) : List Nat × Bool := match frm kind x s with | none => ([], false) | some ds => (pack ds, true)
/-- The shortest frame of the first kinds; none yet: no digits. -/
def bestF (x : List Int) (s : Nat) : Nat → List Bool
  | 0 => []
  | j + 1 => match frm (j : Int) x s with
    | none => bestF x s j
    | some b => if (bestF x s j).length = 0 ∨ b.length < (bestF x s j).length then b else bestF x s j
/-- Encode: the bytes, and how it ends. -/
def encOut (x : List Int) (s : Nat) : List Nat × Int :=
  if x.length < 1 ∨ 64 < x.length then ([], 4) else if allS x then (pack (bestF x s 19), 0) else ([], 8)

/-- A number of so many digits, and what is left. -/
def takeD (ds : List Bool) (n : Nat) : Option (Nat × List Bool) := if n ≤ ds.length then some (num (ds.take n), ds.drop n) else none
def sampsT : Nat → List Bool → Option (List Int × List Bool)
  | 0, ds => some ([], ds)
  | n + 1, ds => (takeD ds 24).bind fun r => (sampsT n r.2).map fun q => ((((r.1 : Nat) : Int) - 8388608) :: q.1, q.2)
def coefsT : Nat → List Bool → Option (List Int × List Bool)
  | 0, ds => some ([], ds)
  | n + 1, ds => (takeD ds 16).bind fun r => (coefsT n r.2).map fun q => ((((r.1 : Nat) : Int) - 32768) :: q.1, q.2)
def ricesT (k : Nat) : Nat → List Bool → Option (List Int × List Bool)
  | 0, ds => some ([], ds)
  | n + 1, ds => if (riceOut ds (k : Int)).2.2 = true then (ricesT k n (ds.drop (riceOut ds (k : Int)).2.1)).map fun q => (zagOf ((riceOut ds (k : Int)).1 : Nat) :: q.1, q.2) else none
/-- How many samples a frame of a kind begins with. -/
def ordOf (kind n : Nat) : Nat := if kind = 0 then 1 else if kind = 1 then n else if kind ≤ 6 then kind - 2 else kind - 6
/-- The residuals and what is left. -/
def resT (n : Nat) (ds : List Bool) : Option (List Int × List Bool) := (takeD ds 5).bind fun r => if 24 < r.1 then none else ricesT r.1 n r.2
/-- What is behind the samples that a frame begins with: all its samples, and what is left. -/
def bodyT (kind n : Nat) (x : List Int) (ds : List Bool) : Option (List Int × List Bool) :=
  if kind = 0 then some (List.replicate n (x.getD 0 0), ds)
  else if kind = 1 then some (x, ds)
  else if kind ≤ 6 then (resT (n - ordOf kind n) ds).bind fun q => if (restOut x q.1).2 = 0 then some ((restOut x q.1).1, q.2) else none
  else (coefsT (ordOf kind n) ds).bind fun c => (resT (n - ordOf kind n) c.2).bind fun q => if (lrestOut x q.1 c.1).2 = 0 then some ((lrestOut x q.1 c.1).1, q.2) else none
/-- The samples of a frame's digits. -/
def decD (ds : List Bool) : Option (List Int) :=
  (takeD ds 8).bind fun r1 => (takeD r1.2 8).bind fun r2 =>
    if 18 < r1.1 ∨ r2.1 < 1 ∨ 64 < r2.1 ∨ r2.1 < ordOf r1.1 r2.1 ∨ (6 < r1.1 ∧ r2.1 ≤ ordOf r1.1 r2.1) then none
    else (sampsT (ordOf r1.1 r2.1) r2.2).bind fun q => (bodyT r1.1 r2.1 q.1 q.2).bind fun y => if noOnes y.2 = true then some y.1 else none
/-- The same without a look at what is left. -/
def decP (ds : List Bool) : Option (List Int × List Bool) :=
  (takeD ds 8).bind fun r1 => (takeD r1.2 8).bind fun r2 =>
    if 18 < r1.1 ∨ r2.1 < 1 ∨ 64 < r2.1 ∨ r2.1 < ordOf r1.1 r2.1 ∨ (6 < r1.1 ∧ r2.1 ≤ ordOf r1.1 r2.1) then none
    else (sampsT (ordOf r1.1 r2.1) r2.2).bind fun q => bodyT r1.1 r2.1 q.1 q.2
theorem decD_P (ds : List Bool) : decD ds = (decP ds).bind fun y => if noOnes y.2 = true then some y.1 else none := by
  unfold decD decP
  cases takeD ds 8 with
  | none => rfl
  | some r1 =>
    simp only [Option.bind_some]
    cases takeD r1.2 8 with
    | none => rfl
    | some r2 =>
      simp only [Option.bind_some]
      split
      · rfl
      · cases sampsT (ordOf r1.1 r2.1) r2.2 with
        | none => rfl
        | some q => rfl
/-- Decode: the samples, and how it ends (E: the number of the error). -/
def decOut (E : Int) (l : List Nat) : List Int × Int := match decD (unpack l) with | none => ([], E) | some x => (x, 0)
def kindOut (l : List Nat) : Int := match decD (unpack l) with | none => -1 | some _ => (l.getD 0 0 : Nat)

theorem takeD_app (v : Int) (n : Nat) (rest : List Bool) : takeD (dig v n ++ rest) n = some (num (dig v n), rest) := by
  unfold takeD
  rw [if_pos (by simp), List.take_left' (by simp), List.drop_left' (by simp)]
theorem takeD_dig {v : Int} {n : Nat} (h0 : 0 ≤ v) (h1 : v < 2 ^ n) (rest : List Bool) : takeD (dig v n ++ rest) n = some (v.toNat, rest) := by
  rw [takeD_app]
  have h2 := num_dig v n
  rw [Int.emod_eq_of_lt h0 h1] at h2
  have : num (dig v n) = v.toNat := by omega
  rw [this]
theorem sampsT_app (l : List Int) (h : allS l) (rest : List Bool) : sampsT l.length (sampsD l ++ rest) = some (l, rest) := by
  induction l with
  | nil => rfl
  | cons v l ih =>
    have hv := h v (by simp)
    unfold isS at hv
    rw [sampsD_cons, List.append_assoc, List.length_cons, sampsT]
    unfold sampD
    rw [takeD_dig (by omega) (by omega)]
    simp only [Option.bind_some]
    rw [ih (fun x hx => h x (by simp [hx]))]
    simp only [Option.map_some]
    have e : (((v + 8388608).toNat : Nat) : Int) - 8388608 = v := by omega
    rw [e]
theorem coefsT_app (l : List Int) (h : allC l) (rest : List Bool) : coefsT l.length (coefsD l ++ rest) = some (l, rest) := by
  induction l with
  | nil => rfl
  | cons v l ih =>
    have hv := h v (by simp)
    unfold isC at hv
    rw [coefsD_cons, List.append_assoc, List.length_cons, coefsT]
    unfold coefD
    rw [takeD_dig (by omega) (by omega)]
    simp only [Option.bind_some]
    rw [ih (fun x hx => h x (by simp [hx]))]
    simp only [Option.map_some]
    have e : (((v + 32768).toNat : Nat) : Int) - 32768 = v := by omega
    rw [e]
/-- Numbers with signs that are small enough for Zig. -/
def smallZ (l : List Int) : Prop := ∀ n ∈ l, -1099511627776 ≤ n ∧ n < 1099511627776
theorem zig_back {n : Int} (h1 : -1099511627776 ≤ n) (h2 : n < 1099511627776) : zagOf (zigOf n) = n := by
  unfold zigOf
  rw [if_neg (by omega)]
  split
  · unfold zagOf
    rw [if_neg (by omega), if_pos (by omega)]
    omega
  · unfold zagOf
    rw [if_neg (by omega), if_neg (by omega)]
    omega
theorem ricesT_app (l : List Int) (k : Nat) (hk : k ≤ 24) (hs : smallZ l) (hz : okZ l) (rest : List Bool) : ricesT k l.length (digs (zigs l) k ++ rest) = some (l, rest) := by
  induction l with
  | nil => rfl
  | cons n l ih =>
    have e : zigs (n :: l) = zigOf n :: zigs l := rfl
    have hn := hs n (by simp)
    have hz1 : zigOf n < 4294967296 := hz (zigOf n) (by rw [e]; simp)
    have hz0 := zigOf_nn n
    rw [e, digs_cons, List.append_assoc, List.length_cons, ricesT, riceOut_dig (zigOf n) k _ hz0 hz1 hk]
    simp only [if_true, List.drop_left']
    rw [ih (fun m hm => hs m (by simp [hm])) (fun z hzz => hz z (by rw [e]; simp [hzz]))]
    simp only [Option.map_some]
    have e2 : (((zigOf n).toNat : Nat) : Int) = zigOf n := by omega
    rw [e2, zig_back hn.1 hn.2]
theorem resT_app (l : List Int) (hs : smallZ l) (hz : okZ l) (rest : List Bool) : resT l.length (residD l ++ rest) = some (l, rest) := by
  have hp := parOf_le l
  unfold resT residD
  rw [List.append_assoc, takeD_dig (by omega) (by omega)]
  simp only [Option.bind_some, Int.toNat_natCast]
  rw [if_neg (by omega)]
  exact ricesT_app l (parOf l) hp hs hz rest
theorem noOnes_zeros (m : Nat) : noOnes (List.replicate m false) = true := by
  unfold noOnes
  simp
theorem residZ_smallZ (x : List Int) (n : Nat) (h4 : n ≤ 4) (hS : allS x) : smallZ (residZ x n) := fun y hy => by
  have := residZ_small x n h4 hS y hy
  omega
theorem lresidZ_smallZ (x c : List Int) (hS : allS x) : smallZ (lresidZ x c) := fun y hy => by
  unfold lresidZ at hy
  obtain ⟨j, hj, rfl⟩ := List.mem_map.1 hy
  have hj' := List.mem_range.1 hj
  have h1 := hS.at (k := c.length + j) (by omega)
  have h2 := lguess_small (x.take (c.length + j)) c
  unfold isS at h1
  omega
theorem coOut_true {x c : List Int} {o : Int} {s : Nat} (h : coOut x o s = (c, true)) : 1 ≤ o ∧ o ≤ 12 ∧ o < (x.length : Int) ∧ allC c ∧ (c.length : Int) = o := by
  unfold coOut at h
  split at h
  · cases h
  · rename_i hn
    split at h
    · rename_i hc
      cases h
      refine ⟨by omega, by omega, by omega, hc, ?_⟩
      rw [length_lev]
      omega
    · cases h
theorem decP_key {K : Nat} {t : List Bool} {x : List Int} (hK : K ≤ 18) (hm : mayX x) (D body : List Bool) (q : List Int × List Bool) (e : D = headD (K : Int) x.length ++ body) (h1 : ordOf K x.length ≤ x.length) (h2 : ¬ (6 < K ∧ x.length ≤ ordOf K x.length))
    (h3 : sampsT (ordOf K x.length) body = some q) (h4 : bodyT K x.length q.1 q.2 = some (x, t)) : decP D = some (x, t) := by
  obtain ⟨hx1, hx64, hS⟩ := hm
  rw [e]
  unfold decP headD
  rw [List.append_assoc, takeD_dig (by omega) (by omega)]
  simp only [Option.bind_some, Int.toNat_natCast]
  rw [takeD_dig (by omega) (by omega)]
  simp only [Option.bind_some, Int.toNat_natCast]
  rw [if_neg (by omega), h3]
  simp only [Option.bind_some]
  rw [h4]
theorem decP_const {x : List Int} {t : List Bool} (hm : mayX x) (hall : allOne x) : decP (headD 0 x.length ++ sampD (x.getD 0 0) ++ t) = some (x, t) := by
  refine decP_key (K := 0) (t := t) (by decide) hm _ (sampD (x.getD 0 0) ++ t) ([x.getD 0 0], t) (by rw [List.append_assoc]; rfl) (by have := hm.1; simp [ordOf]; omega) (by omega) ?_ ?_
  · have := sampsT_app [x.getD 0 0] (fun y hy => by simp at hy; subst hy; exact hm.2.2.atD 0) (t)
    rw [sampsD_cons, sampsD_nil, List.append_nil] at this
    exact this
  · unfold bodyT
    rw [if_pos rfl]
    have : List.replicate x.length (x.getD 0 0) = x := (List.eq_replicate_iff.2 ⟨rfl, hall⟩).symm
    simp only [List.getD_cons_zero]
    rw [this]
theorem decP_verb {x : List Int} {t : List Bool} (hm : mayX x) : decP (headD 1 x.length ++ sampsD x ++ t) = some (x, t) := by
  refine decP_key (K := 1) (t := t) (by decide) hm _ (sampsD x ++ t) (x, t) (by rw [List.append_assoc]; rfl) (by simp [ordOf]) (by omega) ?_ ?_
  · have e : ordOf 1 x.length = x.length := by simp [ordOf]
    rw [e]
    exact sampsT_app x hm.2.2 _
  · unfold bodyT
    rw [if_neg (by decide), if_pos rfl]
theorem decP_fixed {x : List Int} {t : List Bool} {n : Nat} (hm : mayX x) (hn4 : n ≤ 4) (hnx : n ≤ x.length) (hz : okZ (residZ x n)) : decP (headD ((n + 2 : Nat) : Int) x.length ++ sampsD (x.take n) ++ residD (residZ x n) ++ t) = some (x, t) := by
  obtain ⟨K, hK⟩ : ∃ K, K = n + 2 := ⟨_, rfl⟩
  rw [← hK]
  have eo : ordOf K x.length = n := by unfold ordOf; rw [if_neg (by omega), if_neg (by omega), if_pos (by omega)]; omega
  have hrl : (residZ x n).length = x.length - n := by simp
  refine decP_key (K := K) (t := t) (by omega) hm _ (sampsD (x.take n) ++ (residD (residZ x n) ++ t)) (x.take n, residD (residZ x n) ++ t) (by simp only [List.append_assoc]) (by omega) (by omega) ?_ ?_
  · have := sampsT_app (x.take n) (hm.2.2.take n) (residD (residZ x n) ++ t)
    rw [show (x.take n).length = n by simp; omega] at this
    rw [eo]
    exact this
  · unfold bodyT
    rw [if_neg (by omega), if_neg (by omega), if_pos (by omega), eo, ← hrl, resT_app _ (residZ_smallZ x n hn4 hm.2.2) hz]
    simp only [Option.bind_some]
    have := restOut_resid x n hn4 hnx hm.2.1 hm.2.2
    rw [← this]
    simp
theorem decP_lpc {x c : List Int} {t : List Bool} {n : Nat} (hm : mayX x) (hn1 : 1 ≤ n) (hn12 : n ≤ 12) (hnx : n < x.length) (hcn : c.length = n) (hC : allC c) (hz : okZ (lresidZ x c)) : decP (headD ((n + 6 : Nat) : Int) x.length ++ sampsD (x.take n) ++ coefsD c ++ residD (lresidZ x c) ++ t) = some (x, t) := by
  obtain ⟨K, hK⟩ : ∃ K, K = n + 6 := ⟨_, rfl⟩
  rw [← hK]
  have eo : ordOf K x.length = n := by unfold ordOf; rw [if_neg (by omega), if_neg (by omega), if_neg (by omega)]; omega
  have hrl : (lresidZ x c).length = x.length - n := by simp [hcn]
  refine decP_key (K := K) (t := t) (by omega) hm _ (sampsD (x.take n) ++ (coefsD c ++ (residD (lresidZ x c) ++ t))) (x.take n, coefsD c ++ (residD (lresidZ x c) ++ t)) (by simp only [List.append_assoc]) (by omega) (by omega) ?_ ?_
  · have := sampsT_app (x.take n) (hm.2.2.take n) (coefsD c ++ (residD (lresidZ x c) ++ t))
    rw [show (x.take n).length = n by simp; omega] at this
    rw [eo]
    exact this
  · unfold bodyT
    rw [if_neg (by omega), if_neg (by omega), if_neg (by omega), eo]
    have e1 := coefsT_app c hC (residD (lresidZ x c) ++ t)
    rw [hcn] at e1
    rw [e1]
    simp only [Option.bind_some]
    rw [← hrl, resT_app _ (lresidZ_smallZ x c hm.2.2) hz]
    simp only [Option.bind_some]
    have e2 := lrestOut_resid x c ⟨by omega, by omega, hC⟩ (by omega) hm.2.1 hm.2.2
    rw [hcn] at e2
    rw [← e2]
    simp
/-- What a frame of any kind, with anything behind it, is decoded to. -/
theorem decP_tail {kind : Int} {x : List Int} {s : Nat} {ds : List Bool} (h : frm kind x s = some ds) (t : List Bool) : decP (ds ++ t) = some (x, t) := by
  unfold frm at h
  by_cases hk : ¬ mayX x ∨ kind < 0 ∨ 18 < kind
  · rw [if_pos hk] at h; cases h
  rw [if_neg hk] at h
  have hm : mayX x := by
    by_cases hm : mayX x
    · exact hm
    · exact absurd (Or.inl hm) hk
  by_cases h0 : kind = 0
  · rw [if_pos h0] at h
    subst h0
    by_cases ha : allOne x
    · rw [if_pos ha] at h
      cases h
      exact decP_const hm ha
    · rw [if_neg ha] at h; cases h
  rw [if_neg h0] at h
  by_cases h1 : kind = 1
  · rw [if_pos h1] at h
    subst h1
    cases h
    exact decP_verb hm
  rw [if_neg h1] at h
  by_cases h6 : kind ≤ 6
  · rw [if_pos h6] at h
    by_cases hl : (x.length : Int) < kind - 2
    · rw [if_pos hl] at h; cases h
    rw [if_neg hl] at h
    obtain ⟨n, hn⟩ : ∃ n : Nat, kind = ((n + 2 : Nat) : Int) := ⟨(kind - 2).toNat, by omega⟩
    have e : (kind - 2).toNat = n := by omega
    rw [e] at h
    by_cases hz : okZ (residZ x n)
    · rw [if_pos hz] at h
      cases h
      rw [hn]
      exact decP_fixed hm (by omega) (by omega) hz
    · rw [if_neg hz] at h; cases h
  rw [if_neg h6] at h
  obtain ⟨⟨c, b⟩, hc⟩ : ∃ R, R = coOut x (kind - 6) s := ⟨_, rfl⟩
  rw [← hc] at h
  simp only at h
  cases b with
  | false => simp at h
  | true =>
    rw [if_pos rfl] at h
    obtain ⟨g1, g2, g3, g4, g5⟩ := coOut_true hc.symm
    obtain ⟨n, hn⟩ : ∃ n : Nat, kind = ((n + 6 : Nat) : Int) := ⟨(kind - 6).toNat, by omega⟩
    have e : (kind - 6).toNat = n := by omega
    rw [e] at h
    by_cases hz : okZ (lresidZ x c)
    · rw [if_pos hz] at h
      cases h
      rw [hn]
      exact decP_lpc hm (by omega) (by omega) (by omega) (by omega) g4 hz
    · rw [if_neg hz] at h; cases h
theorem decD_tail {kind : Int} {x : List Int} {s : Nat} {ds : List Bool} (h : frm kind x s = some ds) (t : List Bool) : decD (ds ++ t) = if noOnes t = true then some x else none := by
  rw [decD_P, decP_tail h]
  rfl
theorem decD_frm {kind : Int} {x : List Int} {s : Nat} {ds : List Bool} (h : frm kind x s = some ds) (m : Nat) : decD (ds ++ List.replicate m false) = some x := by
  rw [decD_tail h, if_pos (noOnes_zeros m)]

end Go.Proofs.Ythkfaackkcdcoaa

/- frame: counts, samples, and what is put: samples, a constant, residuals. -/
namespace Go.Proofs.Ythkfaackkcdcoaa
set_option linter.unusedVariables false
set_option linter.unusedSimpArgs false
open Go.RowKit Dg

set_option maxHeartbeats 1000000 in
theorem pare_any (w : World) (a : Option Addr) (cap : Nat) (l : List Int) (h : IntsAt w a l) (hl : l.length ≤ 1000000) (t : Bool) (ht : t = decide (allS l)) :
    Calls Try.prog 25 #[.slice a l.length cap] w fun e w' => e = .returned (.bool t) ∧ w = w' := by
  have H : Hid (IntsAt w a l) := h
  have HT : Hid (t = decide (allS l)) := ht
  clear h ht
  go_enter Try.func25, Try.ntmps25
  go_wp2
  go_loopw [7] (fun i wr => ∃ k : Nat, k ≤ l.length ∧ i = .int .i64 k ∧ Hid (allS (l.take k)) ∧ w = wr) (fun i _ => l.length - (intOf i).toNat)
  case atStart => exact ⟨0, Nat.zero_le _, rfl, fun x hx => by simp at hx, rfl⟩
  case round =>
    obtain ⟨k, hk, rfl, hall, rfl⟩ := hrel
    by_cases hkn : k < l.length
    · obtain ⟨x, hx⟩ : ∃ x, l[k]? = some x := ⟨l[k], by simp [hkn]⟩
      obtain ⟨b, off, rfl, hc⟩ := H.out k x hx
      have HX : Hid (l[k]? = some x) := hx
      clear hx
      have hbad : ¬ isS x → t = false := fun hn => by
        rw [HT.out]
        exact decide_eq_false (fun ha => hn (ha x (List.mem_of_getElem? HX.out)))
      by_cases hlo : x < -8388608
      · have ht := hbad (by unfold isS; omega)
        subst ht
        clear hbad
        go_wp2_with fail
        go_ret
        exact ⟨rfl, rfl⟩
      · by_cases hhi : 8388607 < x
        · have ht := hbad (by unfold isS; omega)
          subst ht
          clear hbad
          go_wp2_with fail
          go_ret
          exact ⟨rfl, rfl⟩
        · clear hbad
          go_wp2_with fail
          refine ⟨⟨k + 1, by omega, by go_num, ?_, by trivial⟩, by (simp [intOf]) <;> omega⟩
          show allS _
          rw [take_next l k x HX.out]
          exact hall.out.snoc (by unfold isS; omega)
    · have e : k = l.length := by omega
      subst e
      have ht : t = true := by
        have := hall.out
        rw [List.take_length] at this
        rw [HT.out]; exact decide_eq_true this
      subst ht
      go_wp2_with fail
      go_ret
      exact ⟨rfl, rfl⟩

set_option maxHeartbeats 1000000 in
theorem pcount_any (w : World) (n : Int) (t : Bool) (ht : t = decide (1 ≤ n ∧ n ≤ 64)) :
    Calls Try.prog 24 #[.int .i64 n] w fun e w' => e = .returned (.bool t) ∧ w = w' := by
  have HT := hid_of ht
  clear ht
  rcases (by omega : n < 1 ∨ (1 ≤ n ∧ n ≤ 64) ∨ (1 ≤ n ∧ 64 < n)) with h | ⟨h1, h2⟩ | ⟨h1, h2⟩
  · have e : t = false := by rw [HT.out]; exact decide_eq_false (by omega)
    subst e
    go_enter Try.func24, Try.ntmps24
    go_wp2_with fail
    go_ret
    exact ⟨rfl, rfl⟩
  · have e : t = true := by rw [HT.out]; exact decide_eq_true (by omega)
    have hb : decide (n ≤ 64) = true := decide_eq_true (by omega)
    subst e
    go_enter Try.func24, Try.ntmps24
    go_wp2_with fail
    go_ret
    rw [← hb]
    exact ⟨rfl, rfl⟩
  · have e : t = false := by rw [HT.out]; exact decide_eq_false (by omega)
    have hb : decide (n ≤ 64) = false := decide_eq_false (by omega)
    subst e
    go_enter Try.func24, Try.ntmps24
    go_wp2_with fail
    go_ret
    rw [← hb]
    exact ⟨rfl, rfl⟩
theorem pfix_any (w : World) (kind : Int) (h0 : 0 ≤ kind) (h1 : kind ≤ 1000) (n : Int) (hn : n = kind - 2) :
    Calls Try.prog 40 #[.int .i64 kind] w fun e w' => e = .returned (.int .i64 n) ∧ w = w' := by
  subst hn
  go_enter Try.func40, Try.ntmps40
  go_wp2_with fail
  go_ret
  exact ⟨rfl, rfl⟩
theorem plpc_any (w : World) (kind : Int) (h0 : 0 ≤ kind) (h1 : kind ≤ 1000) (n : Int) (hn : n = kind - 6) :
    Calls Try.prog 42 #[.int .i64 kind] w fun e w' => e = .returned (.int .i64 n) ∧ w = w' := by
  have HN := hid_of hn
  clear hn
  go_enter Try.func42, Try.ntmps42
  go_wp2_with fail
  go_ret
  refine ⟨?_, rfl⟩
  rw [HN.out]
  exact ret_int (by omega)

/-- A block ahead of the writer is none of its own. -/
theorem ahead {w : World} {b : Nat} {rv : Value} {ds : List Bool} (h : WrAt w b rv ds) {a : Option Addr} (ha : ∀ y, a = some y → y.block < b) : ∀ y, a = some y → ¬ Wf b rv y.block := fun y hy hf => by
  have h1 := (h.foot _ hf).1
  have h2 := ha y hy
  omega
set_option maxRecDepth 100000 in
set_option maxHeartbeats 4000000 in
theorem pputs_any (w : World) (b n cap : Nat) (rv : Value) (ds : List Bool) (a : Option Addr) (l : List Int) (hn : l.length = n) (h : WrAt w b rv ds) (hl : IntsAt w a l) (ha : ∀ y, a = some y → ¬ Wf b rv y.block) (hS : allS l) (hd : ds.length ≤ 100000) (hll : n ≤ 1000) (D : List Bool) (hD : D = ds ++ sampsD l) :
    Calls Try.prog 38 #[.pointer (some ⟨b, 0, none⟩), .slice a n cap] w fun e w' => e = .returned (.tuple #[]) ∧ Wrote w w' b rv D := by
  have HN := hid_of hn
  have HW := hid_of h
  have HL := hid_of hl
  have HA := hid_of ha
  have HS := hid_of hS
  have HD := hid_of hD
  clear hn h hl ha hS hD
  go_enter Try.func38, Try.ntmps38
  go_wp2_with fail
  go_loopw [8] (fun i wr => ∃ k : Nat, k ≤ n ∧ i = .int .i64 (k : Int) ∧ Hid (Wrote w wr b rv (ds ++ sampsD (l.take k)))) (fun i _ => n - (intOf i).toNat)
  case atStart => exact ⟨0, Nat.zero_le _, rfl, by show Wrote _ _ _ _ _; simpa using Wrote.refl HW.out⟩
  case round =>
    obtain ⟨k, hk, rfl, hwr⟩ := hrel
    by_cases hkn : k < n
    · obtain ⟨x, hx⟩ : ∃ x, l[k]? = some x := ⟨l[k]'(by rw [HN.out]; exact hkn), by simp⟩
      obtain ⟨rv1, hw1, hk1, hn1⟩ := hwr.out
      obtain ⟨b0, off, rfl, hc⟩ := (HL.out.kept hk1 HA.out) k x hx
      obtain ⟨hx1, hx2⟩ := HS.out x (List.mem_of_getElem? hx)
      have HE : Hid (ds ++ sampsD (l.take (k + 1)) = ds ++ sampsD (l.take k) ++ dig (x + 8388608) 24) := by
        show _ = _
        rw [take_next l k x hx, sampsD_snoc, List.append_assoc]
        rfl
      have hlen : (ds ++ sampsD (l.take k)).length < 4398046511000 := by simp; omega
      have HW1 := hid_of hw1
      have HK1 := hid_of hk1
      have HN1 := hid_of hn1
      clear hx hw1 hk1 hn1 hwr
      go_wp2_with fail
      refine (put_at wr b rv1 _ (x + 8388608) 24 HW1.out hlen (by decide) _ rfl).mono ?_
      rw [← HE.out]
      rintro e w3 ⟨rfl, h3⟩
      have H3 : Hid (Wrote w w3 b rv (ds ++ sampsD (l.take (k + 1)))) := Wrote.trans HK1.out HN1.out h3
      clear h3
      go_wp2_with fail
      exact ⟨⟨k + 1, by omega, by go_num, H3⟩, by (simp [intOf]) <;> omega⟩
    · have e : k = n := by omega
      have HF : Hid (Wrote w wr b rv D) := by
        have h1 := hwr.out
        rw [e, ← HN.out, List.take_length, ← HD.out] at h1
        exact h1
      subst e
      clear hwr
      go_wp2_with fail
      go_end0
      exact ⟨rfl, HF.out⟩

/-- What is put, or that it is not: then the writer holds anything. -/
def PutB (w w' : World) (b : Nat) (rv : Value) (ds : List Bool) (o : Option (List Bool)) (e : Ending) : Prop :=
  match o with
  | none => e = .returned (.bool false) ∧ ∃ ds', Wrote w w' b rv ds'
  | some D => e = .returned (.bool true) ∧ Wrote w w' b rv (ds ++ D)

set_option maxRecDepth 100000 in
set_option maxHeartbeats 4000000 in
theorem pconst_any (w : World) (b cap : Nat) (rv : Value) (ds : List Bool) (a : Option Addr) (l : List Int) (h : WrAt w b rv ds) (hl : Ns w a cap l) (ha : ∀ y, a = some y → ¬ Wf b rv y.block) (hm : mayX l) (hd : ds.length ≤ 1000) (o : Option (List Bool)) (ho : o = if allOne l then some (sampD (l.getD 0 0)) else none) :
    Calls Try.prog 37 #[.pointer (some ⟨b, 0, none⟩), .slice a l.length cap] w fun e w' => PutB w w' b rv ds o e := by
  have HW := hid_of h
  have HL := hid_of hl.at_
  have HA := hid_of ha
  have HS := hid_of hm.2.2
  have hl1 : 1 ≤ l.length := hm.1
  have hl64 : l.length ≤ 64 := hm.2.1
  have hcap : l.length ≤ cap := hl.le
  obtain ⟨x0, hx0⟩ : ∃ x, l[0]? = some x := ⟨l[0]'(by omega), by simp⟩
  have HX0 := hid_of (getD_of hx0)
  have HXS := hid_of (HS.out x0 (List.mem_of_getElem? hx0))
  obtain ⟨b0, o0, rfl, hc0⟩ := hl.at_ 0 x0 hx0
  rw [Nat.add_zero] at hc0
  have HC0 : Hid (IntsAt w (some ⟨b0, o0, none⟩) [x0]) := by
    intro j x hx
    cases j with
    | zero => simp at hx; subst hx; exact ⟨b0, o0, rfl, hc0⟩
    | succ j => simp at hx
  have HO := hid_of ho
  have hsl := slice_ints (some ⟨b0, o0, none⟩) l.length cap 1 (by omega)
  clear h hl ha hm ho hx0
  go_enter Try.func37, Try.ntmps37
  go_wp2_with fail
  go_loopw [9] (fun i wr => ∃ k : Nat, k ≤ l.length ∧ i = .int .i64 (k : Int) ∧ Hid (∀ v ∈ l.take k, v = x0) ∧ w = wr) (fun i _ => l.length - (intOf i).toNat)
  case atStart => exact ⟨0, Nat.zero_le _, rfl, fun v hv => by simp at hv, rfl⟩
  case round =>
    obtain ⟨k, hk, rfl, hall, rfl⟩ := hrel
    by_cases hkn : k < l.length
    · obtain ⟨x, hx⟩ : ∃ x, l[k]? = some x := ⟨l[k], by simp [hkn]⟩
      have hc : w.cell? ⟨b0, o0 + k, none⟩ = some (.int .i64 x) := by
        obtain ⟨b2, o2, e2, hc2⟩ := HL.out k x hx
        cases e2
        exact hc2
      by_cases hxe : x = x0
      · have hb : (x != x0) = false := by simp [hxe]
        have HA : Hid (∀ v ∈ l.take (k + 1), v = x0) := by
          intro v hv
          rw [take_next l k x hx] at hv
          rcases List.mem_append.1 hv with h | h
          · exact hall.out v h
          · simp at h; rw [h]; exact hxe
        clear hx hxe hall
        go_wp2_with fail
        exact ⟨⟨k + 1, by omega, by go_num, HA, by trivial⟩, by (simp [intOf]) <;> omega⟩
      · have hb : (x != x0) = true := by simp [hxe]
        have HN : Hid (o = none) := by
          show _ = _
          rw [HO.out]
          refine if_neg (fun h => hxe ?_)
          rw [h x (List.mem_of_getElem? hx), HX0.out]
        clear hx hxe hall
        go_wp2_with fail
        go_ret
        rw [HN.out]
        exact ⟨rfl, ds, Wrote.refl HW.out⟩
    · have e : k = l.length := by omega
      subst e
      have HS' : Hid (o = some (sampD x0)) := by
        show _ = _
        have h1 := hall.out
        rw [List.take_length] at h1
        have hAO : allOne l := fun v hv => by rw [HX0.out]; exact h1 v hv
        rw [HO.out, if_pos hAO, HX0.out]
      clear hall
      go_wp2_with fail
      refine (pputs_any w b 1 cap rv ds _ [x0] rfl HW.out HC0.out HA.out (fun v hv => by simp at hv; subst hv; exact HXS.out) (by omega) (by decide) (ds ++ sampD x0) (by simp [sampsD])).mono ?_
      rintro e w3 ⟨rfl, h3⟩
      have H3 := hid_of h3
      clear h3
      go_wp2_with fail
      go_ret
      rw [HS'.out]
      exact ⟨rfl, H3.out⟩

end Go.Proofs.Ythkfaackkcdcoaa
