/- Coefficients of levin. -/
import Derived.Test.YtlonnoapbfjomabGreatLev3
namespace Go.Proofs.YtlonnoapbfjomabGreat
set_option linter.unusedVariables false
set_option linter.unusedSimpArgs false
open Go.RowKit Dg

/-- A list and a yes or no that were given. -/
def GaveB (w w' : World) (R : List Int × Bool) (e : Ending) : Prop :=
  ∃ v, e = .returned (.tuple #[v, .bool R.2]) ∧ OwnInts w' w.heap.size v R.1 ∧ Below w.heap.size w w'
theorem GaveB.none {w w' : World} {R : List Int × Bool} (hR : R = ([], false)) (hb : Below w.heap.size w w') : GaveB w w' R (.returned (.tuple #[.slice none 0 0, .bool false])) := by
  subst hR
  exact ⟨_, rfl, OwnInts.nil _ _, hb⟩
theorem GaveB.ok {w w' : World} {L : List Int} {k : Bool} {e : Ending} (h : GaveB w w' (L, k) e) : ∃ a cap, e = .returned (.tuple #[.slice a L.length cap, .bool k]) ∧ OwnInts w' w.heap.size (.slice a L.length cap) L ∧ Ns w' a cap L ∧ Below w.heap.size w w' := by
  obtain ⟨v, rfl, ho, hb⟩ := h
  obtain ⟨a, cap, rfl, hn, -, -⟩ := ho.ns
  exact ⟨a, cap, rfl, ho, hn, hb⟩
theorem coOut_bad {x : List Int} {o : Int} {s : Nat} (h : o < 1 ∨ 12 < o ∨ (x.length : Int) ≤ o ∨ ¬ allS x ∨ 64 < x.length ∨ autoZ x 0 / 2 ^ s < 1) : coOut x o s = ([], false) := by
  unfold coOut
  rw [if_pos h]
theorem coOut_good {x : List Int} {n s : Nat} (h1 : 1 ≤ n) (h12 : n ≤ 12) (hl : n < x.length) (hS : allS x) (h64 : x.length ≤ 64) (h0 : ¬ autoZ x 0 / 2 ^ s < 1) (L : List Int) (hL : L = (lev (scaleL (autoL x (n + 1)) s) n).1) :
    coOut x (n : Int) s = if allC L then (L, true) else ([], false) := by
  unfold coOut
  rw [if_neg (fun h => by
    rcases h with h | h | h | h | h | h
    · omega
    · omega
    · omega
    · exact h hS
    · omega
    · exact h0 h), Int.toNat_natCast, ← hL]
theorem scale_first (x : List Int) (n s : Nat) : (scaleL (autoL x (n + 1)) s)[0]? = some (autoZ x 0 / 2 ^ s) := scaleL_get (autoL_get x (by omega))
theorem scOut_auto {x : List Int} (hS : allS x) (h64 : x.length ≤ 64) (n s : Nat) : scOut (autoL x (n + 1)) s = (scaleL (autoL x (n + 1)) s, (s : Int)) := by
  unfold scOut
  rw [if_pos (auto_R hS h64 (n + 1) (by omega))]
theorem lev_next (r : List Int) (i : Nat) (cs : List Int) (e k : Int) (hcs : cs = (lev r i).1) (he : e = (lev r i).2) (hk : k = kOf r cs e) : (lev r (i + 1)).1 = turnL cs k ++ [k] ∧ (lev r (i + 1)).2 = eNext k e := by
  subst hcs he hk
  exact ⟨rfl, rfl⟩

set_option maxRecDepth 100000 in
set_option maxHeartbeats 4000000 in
theorem vco_any (w : World) (a : Option Addr) (cap : Nat) (l : List Int) (o : Int) (s : Nat) (h : IntsAt w a l) (hl : l.length ≤ 1000000) (hs : allS l → l.length ≤ 64 → IsShift (autoZ l 0) s) (R : List Int × Bool) (hR : R = coOut l o s) :
    Calls Tryz.prog 73 #[.slice a l.length cap, .int .i64 o] w fun e w' => GaveB w w' R e := by
  have H : Hid (IntsAt w a l) := h
  clear h
  by_cases h1 : o < 1 ∨ 12 < o ∨ (l.length : Int) ≤ o
  · rw [coOut_bad (by omega)] at hR
    have HR := hid_of hR
    clear hR hs
    rcases (by omega : o < 1 ∨ (1 ≤ o ∧ 12 < o) ∨ (1 ≤ o ∧ o ≤ 12 ∧ (l.length : Int) ≤ o)) with h2 | ⟨h2, h3⟩ | ⟨h2, h3, h4⟩
    all_goals
      clear h1
      go_enter Tryz.func73, Tryz.ntmps73
      go_wp2_with fail
      go_ret2
      exact GaveB.none HR.out (Below.refl _ _)
  obtain ⟨n, hn⟩ : ∃ n : Nat, o = (n : Int) := ⟨o.toNat, by omega⟩
  subst hn
  have hn1 : 1 ≤ n := by omega
  have hn12 : n ≤ 12 := by omega
  have hnl : n < l.length := by omega
  clear h1
  by_cases hS : allS l ∧ l.length ≤ 64
  case neg =>
    rw [coOut_bad (by by_cases h : allS l <;> simp_all)] at hR
    have HR := hid_of hR
    obtain ⟨q, hq, hq0⟩ : ∃ q : Int, ([], q) = autoOut l (n : Int) ∧ (q != 0) = true := by
      unfold autoOut
      rw [if_neg (by omega)]
      by_cases h : allS l
      · rw [if_pos h, if_pos (by by_cases h6 : 64 < l.length; exact h6; exact absurd ⟨h, by omega⟩ hS)]
        exact ⟨4, rfl, rfl⟩
      · rw [if_neg h]
        exact ⟨8, rfl, rfl⟩
    have HQ := hid_of hq
    clear hR hs hS hq
    go_enter Tryz.func73, Tryz.ntmps73
    go_wp2_with fail
    refine (vauto_any w a cap l _ H.out hl _ HQ.out).mono ?_
    rintro e w1 hg
    obtain ⟨a1, c1, rfl, -, -, hb1⟩ := hg.ok
    have HB1 := hid_of hb1
    clear hg hb1
    go_wp2_with fail
    go_ret2
    exact GaveB.none HR.out HB1.out
  obtain ⟨hS, h64⟩ := hS
  have hsh := hs hS h64
  obtain ⟨A, hA⟩ : ∃ A, A = autoL l (n + 1) := ⟨_, rfl⟩
  have HA : Hid ((A, 0) = autoOut l (n : Int)) := by
    show _ = _
    unfold autoOut
    rw [if_neg (by omega), if_pos hS, if_neg (by omega), Int.toNat_natCast, hA]
  obtain ⟨r, hr⟩ : ∃ r, r = scaleL (autoL l (n + 1)) s := ⟨_, rfl⟩
  have HRS : Hid ((r, (s : Int)) = scOut A s) := by show _ = _; rw [hA, scOut_auto hS h64 n s, hr]
  have HSH : Hid (isR A → IsShift (A.getD 0 0) s) := by
    intro _
    rw [hA, autoL_getD l (by omega)]
    exact hsh
  have hA13 : A.length ≤ 1000000 := by rw [hA]; simp; omega
  obtain ⟨L, hL⟩ : ∃ L, L = (lev r n).1 := ⟨_, rfl⟩
  have HRA : Hid (allR r) := by rw [hr]; exact scale_R hsh
  obtain ⟨x0, hx0⟩ : ∃ x, x = autoZ l 0 / 2 ^ s := ⟨_, rfl⟩
  have HX0 : Hid (r[0]? = some x0) := by show _ = _; rw [hr, hx0]; exact scale_first l n s
  have HRL : Hid (r.length = n + 1) := by show _ = _; rw [hr]; simp
  have hrn : n < r.length := by rw [HRL.out]; omega
  have hrl : r.length ≤ 1000000 := by rw [HRL.out]; omega
  have hxb := HRA.out x0 (List.mem_of_getElem? HX0.out)
  obtain ⟨hxb1, hxb2⟩ := hxb
  by_cases hx1 : x0 < 1
  · rw [coOut_bad (by rw [← hx0]; exact .inr (.inr (.inr (.inr (.inr hx1)))))] at hR
    have HR := hid_of hR
    clear hR hs hS hA hr hL hx0 hsh
    go_enter Tryz.func73, Tryz.ntmps73
    go_wp2_with fail
    refine (vauto_any w a cap l _ H.out hl _ HA.out).mono ?_
    rintro e w1 hg
    obtain ⟨a1, c1, rfl, -, hn1', hb1⟩ := hg.ok
    have HN1 := hid_of hn1'
    have HB1 := hid_of hb1
    have hs1 := hb1.size
    clear hg hb1 hn1'
    go_wp2_with fail
    refine (vscaled_any w1 a1 c1 A s HN1.out.at_ hA13 HSH.out _ HRS.out).mono ?_
    rintro e w2 hg
    obtain ⟨a2, c2, rfl, -, hn2', hb2⟩ := hg.ok
    have HB2 : Hid (Below w.heap.size w w2) := HB1.out.trans (hb2.mono hs1)
    obtain ⟨b0, o0, rfl, hc0⟩ := hn2'.at_ 0 x0 HX0.out
    rw [Nat.add_zero] at hc0
    clear hg hb2 hn2' HN1 HB1
    go_wp2_with fail
    go_loopw [10, 11, 42] (fun e v i wr => e = .int .i64 x0 ∧ v = .slice none 0 0 ∧ i = .int .i64 0 ∧ w2 = wr) (fun _ _ _ _ => 0)
    case atStart => exact ⟨rfl, rfl, rfl, rfl⟩
    case round =>
      obtain ⟨rfl, rfl, rfl, rfl⟩ := hrel
      go_wp2_with fail
      go_ret2
      exact GaveB.none HR.out HB2.out
  have hx1' : 1 ≤ x0 := by omega
  have hR2 := coOut_good hn1 hn12 hnl hS h64 (by rw [← hx0]; omega) L (by rw [hL, hr])
  rw [hR2] at hR
  have HR := hid_of hR
  have HL := hid_of hL
  have HE0 : Hid (∀ i, 1 ≤ (lev r i).2 ∧ (lev r i).2 ≤ x0) := by
    intro i
    have := lev_e (r := r) (by rw [getD_of HX0.out]; exact hx1') i
    rw [getD_of HX0.out] at this
    exact this
  have HL0 : Hid (x0 = (lev r 0).2) := by show _ = _; rw [lev, getD_of HX0.out]
  clear hR hs hS hA hr hL hx0 hx1 hR2 hsh
  go_enter Tryz.func73, Tryz.ntmps73
  go_wp2_with fail
  refine (vauto_any w a cap l _ H.out hl _ HA.out).mono ?_
  rintro e w1 hg
  obtain ⟨a1, c1, rfl, -, hn1', hb1⟩ := hg.ok
  have HN1 := hid_of hn1'
  have HB1 := hid_of hb1
  have hs1 := hb1.size
  clear hg hb1 hn1'
  go_wp2_with fail
  refine (vscaled_any w1 a1 c1 A s HN1.out.at_ hA13 HSH.out _ HRS.out).mono ?_
  rintro e w2 hg
  obtain ⟨a2, c2, rfl, -, hn2', hb2⟩ := hg.ok
  have HB2 : Hid (Below w.heap.size w w2) := HB1.out.trans (hb2.mono hs1)
  obtain ⟨b0, o0, rfl, hc0⟩ := hn2'.at_ 0 x0 HX0.out
  rw [Nat.add_zero] at hc0
  have HN2 := hid_of hn2'.at_
  have hs2 : w.heap.size ≤ w2.heap.size := HB2.out.size
  clear hg hb2 hn2' HN1 HB1
  go_wp2_with fail
  go_loopw [10, 11, 42] (fun e v i wr => ∃ (j : Nat) (z : Int) (cs : List Int), j ≤ n ∧ e = .int .i64 z ∧ i = .int .i64 (j : Int) ∧ Hid (z = (lev r j).2) ∧ Hid (cs = (lev r j).1) ∧ Hid (OwnInts wr w.heap.size v cs) ∧ Hid (Below w2.heap.size w2 wr)) (fun _ _ i _ => n - (intOf i).toNat)
  case atStart => exact ⟨0, x0, [], Nat.zero_le _, rfl, rfl, HL0.out, rfl, OwnInts.nil _ _, Below.refl _ _⟩
  case round =>
    obtain ⟨j, z, cs, hj, rfl, rfl, hz, hcs, ho, hb⟩ := hrel
    obtain ⟨aa, ac, rfl, hna, -, -⟩ := ho.out.ns
    have HAA := hid_of hna.at_
    have HCL : Hid (cs.length = j) := by show _ = _; rw [hcs.out]; simp
    have hzb := HE0.out j
    rw [← hz.out] at hzb
    obtain ⟨hz1, hz2⟩ := hzb
    have HBW : Hid (Below w.heap.size w wr) := HB2.out.trans (hb.out.mono hs2)
    have hsr : w.heap.size ≤ wr.heap.size := HBW.out.size
    clear hna
    by_cases hjn : j < n
    · have HRR : Hid (IntsAt wr (some ⟨b0, o0, none⟩) r) := HN2.out.mono hb.out
      have HW : Hid (within cs 16777216) := by rw [hcs.out]; exact lev_bound r (by omega)
      obtain ⟨k, hk⟩ : ∃ k, k = kOf r cs z := ⟨_, rfl⟩
      have hkb := kOf_small r cs z
      rw [← hk] at hkb
      obtain ⟨hk1, hk2⟩ := hkb
      have hnx := lev_next r j cs z k hcs.out hz.out hk
      have HK := hid_of hk
      obtain ⟨T, hT⟩ : ∃ T, T = turnL cs k ++ [k] := ⟨_, rfl⟩
      have HT := hid_of hT
      have HNX1 : Hid (T = (lev r (j + 1)).1) := by show _ = _; rw [hnx.1, hT]
      obtain ⟨kk, hkk⟩ : ∃ kk, kk = k * k := ⟨_, rfl⟩
      have hkkb := kk_small hk1 hk2
      rw [← hkk] at hkkb
      obtain ⟨hkk1, hkk2⟩ := hkkb
      have HKK : Hid (k * k = kk) := hkk.symm
      obtain ⟨qe, hqe⟩ : ∃ qe, qe = kk / 4096 * z := ⟨_, rfl⟩
      have hqeb := qe_small (q := kk / 4096) (e := z) (by omega) (by omega) hz1
      rw [← hqe] at hqeb
      obtain ⟨hqe1, hqe2⟩ := hqeb
      have HQE : Hid (kk / 4096 * z = qe) := hqe.symm
      have HNX2 : Hid (z - qe / 4096 = (lev r (j + 1)).2) := by show _ = _; rw [hnx.2, eNext, ← hkk, ← hqe]
      have hcl12 : cs.length ≤ 12 := by rw [HCL.out]; omega
      have hclr : cs.length + 1 < r.length := by rw [HCL.out, HRL.out]; omega
      clear hk hT hkk hqe hnx
      go_wp2_with fail
      refine (vturn_any wr _ _ _ _ _ _ cs r z k rfl rfl HAA.out HRR.out hcl12 hclr hrl HRA.out HW.out hz1 (by omega) HK.out).mono ?_
      rintro e w3 ⟨rfl, rfl⟩
      go_wp2_with fail
      refine (vturned_any wr _ _ _ cs k rfl HAA.out hcl12 HW.out hk1 hk2 T HT.out).mono ?_
      rintro e w4 ⟨v4, rfl, ho4, hb4⟩
      have HO4 : Hid (OwnInts w4 w.heap.size v4 T) := ho4.base hsr
      have HB4 : Hid (Below w2.heap.size w2 w4) := hb.out.trans (hb4.mono hb.out.size)
      clear ho4 hb4
      go_wp2_with fail
      rw [HKK.out, Go.IntWalk.wrap64_in kk (by omega), HQE.out, Go.IntWalk.wrap64_in qe (by omega), Go.IntWalk.wrap64_in (z - qe / 4096) (by omega)]
      exact ⟨⟨j + 1, z - qe / 4096, T, by omega, rfl, by go_num, HNX2, HNX1, HO4, HB4⟩, by (simp [intOf]) <;> omega⟩
    · have e0 : j = n := by omega
      have HCSL : Hid (cs = L) := by show _ = _; rw [hcs.out, HL.out, e0]
      have hcl12 : cs.length ≤ 1000000 := by rw [HCL.out]; omega
      by_cases hC : allC L
      · have HT : Hid (true = decide (allC cs)) := by show _ = _; rw [HCSL.out]; exact (decide_eq_true hC).symm
        have HRR : Hid (R = (cs, true)) := by show _ = _; rw [HR.out, if_pos hC, HCSL.out]
        clear hC
        go_wp2_with fail
        refine (vcoefs_any wr _ _ cs HAA.out hcl12 true HT.out).mono ?_
        rintro e w3 ⟨rfl, rfl⟩
        go_wp2_with fail
        go_ret2
        rw [HRR.out]
        exact ⟨_, rfl, ho.out, HBW.out⟩
      · have HT : Hid (false = decide (allC cs)) := by show _ = _; rw [HCSL.out]; exact (decide_eq_false hC).symm
        have HRR : Hid (R = ([], false)) := by show _ = _; rw [HR.out, if_neg hC]
        clear hC
        go_wp2_with fail
        refine (vcoefs_any wr _ _ cs HAA.out hcl12 false HT.out).mono ?_
        rintro e w3 ⟨rfl, rfl⟩
        go_wp2_with fail
        go_ret2
        exact GaveB.none HRR.out HBW.out

end Go.Proofs.YtlonnoapbfjomabGreat
