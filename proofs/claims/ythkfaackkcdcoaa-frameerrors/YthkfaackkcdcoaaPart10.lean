/- The texts Lev6, Frm2, Frm3, Frm4, one behind the other. -/
import Derived.Test.YthkfaackkcdcoaaPart09
import Derived.Deep.CutRange
import Derived.Deep.RegionWith

/- The document's own Coefficients. -/
namespace Go.Proofs.Ythkfaackkcdcoaa
set_option linter.unusedVariables false
set_option linter.unusedSimpArgs false
open Go.RowKit Dg

/-- The coefficients as the document keeps them: a nought ahead, noughts behind. -/
def row (cs : List Int) (n : Nat) : List Int := 0 :: (cs ++ List.replicate (n - cs.length) 0)
theorem length_row {cs : List Int} {n : Nat} (h : cs.length ≤ n) : (row cs n).length = n + 1 := by simp [row]; omega
theorem row_get {cs : List Int} {n j : Nat} {x : Int} (h : cs[j]? = some x) : (row cs n)[j + 1]? = some x := by
  unfold row
  have hj : j < cs.length := (List.getElem?_eq_some_iff.1 h).1
  rw [List.getElem?_cons_succ, List.getElem?_append_left hj]
  exact h
theorem row_none (n : Nat) : List.replicate (n + 1) 0 = row [] n := by simp [row, List.replicate_succ]
/-- The row within a step: the first numbers are new. -/
def mid (T cs : List Int) (n m : Nat) : List Int := 0 :: (T.take m ++ cs.drop m ++ List.replicate (n - cs.length) 0)
theorem mid_zero (T cs : List Int) (n : Nat) : mid T cs n 0 = row cs n := by simp [mid, row]
theorem mid_get {T cs : List Int} {n m : Nat} {x : Int} (hT : cs.length ≤ T.length) (h : cs[m]? = some x) : (mid T cs n m)[m + 1]? = some x := by
  unfold mid
  have hm : m < cs.length := (List.getElem?_eq_some_iff.1 h).1
  have hl : (T.take m).length = m := by simp; omega
  rw [List.getElem?_cons_succ, List.append_assoc, List.getElem?_append_right (by omega), hl, Nat.sub_self, List.getElem?_append_left (by simp; omega), List.getElem?_drop, Nat.add_zero]
  exact h
theorem mid_set {T cs : List Int} {n m : Nat} {y : Int} (hT : cs.length ≤ T.length) (hm : m < cs.length) (hy : T[m]? = some y) : (mid T cs n m).set (m + 1) y = mid T cs n (m + 1) := by
  unfold mid
  have hl : (T.take m).length = m := by simp; omega
  rw [List.set_cons_succ, List.append_assoc, List.set_append_right _ _ (by omega), hl, Nat.sub_self, take_next T m y hy]
  have e : cs.drop m = cs[m] :: cs.drop (m + 1) := List.drop_eq_getElem_cons hm
  rw [e, List.cons_append, List.set_cons_zero]
  simp
theorem mid_end {T cs : List Int} {n : Nat} {y : Int} (hT : T.length = cs.length + 1) (hn : cs.length < n) (hy : T[cs.length]? = some y) : (mid T cs n cs.length).set (cs.length + 1) y = row T n := by
  unfold mid row
  have hl : (T.take cs.length).length = cs.length := by simp; omega
  have e : n - cs.length = (n - T.length) + 1 := by omega
  rw [List.drop_length, List.append_nil, List.set_cons_succ, List.set_append_right _ _ (by omega), hl, Nat.sub_self, e, List.replicate_succ, List.set_cons_zero]
  have e2 : T = T.take cs.length ++ [y] := by
    have := take_next T cs.length y hy
    rw [List.take_of_length_le (by omega)] at this
    exact this
  conv => rhs; rw [e2]
  simp
  omega
theorem mid_last {T cs : List Int} {n : Nat} (hT : cs.length ≤ T.length) (hn : cs.length < n) : (mid T cs n cs.length)[cs.length + 1]? = some 0 := by
  unfold mid
  have hl : (T.take cs.length).length = cs.length := by simp; omega
  have e : n - cs.length = (n - cs.length - 1) + 1 := by omega
  rw [List.drop_length, List.append_nil, List.getElem?_cons_succ, List.getElem?_append_right (by omega), hl, Nat.sub_self, e, List.replicate_succ]
  rfl
theorem length_mid {T cs : List Int} {n m : Nat} (hT : cs.length ≤ T.length) (hm : m ≤ cs.length) (hn : cs.length ≤ n) : (mid T cs n m).length = n + 1 := by
  simp [mid]; omega
theorem row_drop {cs : List Int} {n : Nat} (h : cs.length = n) : (row cs n).drop 1 = cs := by
  simp [row, h]

set_option maxRecDepth 100000 in
set_option maxHeartbeats 8000000 in
theorem rco_any (w : World) (a : Option Addr) (cap : Nat) (l : List Int) (o : Int) (s : Nat) (h : IntsAt w a l) (hl : l.length ≤ 1000000) (hs : allS l → l.length ≤ 64 → IsShift (autoZ l 0) s) (R : List Int × Bool) (hR : R = coOut l o s) :
    Calls Try.prog 54 #[.slice a l.length cap, .int .i64 o] w fun e w' => ∃ a' c, e = .returned (.tuple #[.slice a' R.1.length c, .bool R.2]) ∧ IntsAt w' a' R.1 ∧ Below w.heap.size w w' := by
  obtain ⟨i0, hi, hz0, hz1, hz2⟩ := info_parts Try.info3
  have H : Hid (IntsAt w a l) := h
  clear h
  by_cases h1 : o < 1 ∨ 12 < o ∨ (l.length : Int) ≤ o
  · rw [coOut_bad (by omega)] at hR
    subst hR
    clear hs
    rcases (by omega : o < 1 ∨ (1 ≤ o ∧ 12 < o) ∨ (1 ≤ o ∧ o ≤ 12 ∧ (l.length : Int) ≤ o)) with h2 | ⟨h2, h3⟩ | ⟨h2, h3, h4⟩
    all_goals
      clear h1
      go_enter Try.func54, Try.ntmps54
      go_wp2_with fail
      go_ret2
      exact ⟨_, _, rfl, IntsAt.nil _ _, Below.refl _ _⟩
  obtain ⟨n, hn⟩ : ∃ n : Nat, o = (n : Int) := ⟨o.toNat, by omega⟩
  subst hn
  have hn1 : 1 ≤ n := by omega
  have hn12 : n ≤ 12 := by omega
  have hnl : n < l.length := by omega
  clear h1
  by_cases hS : allS l ∧ l.length ≤ 64
  case neg =>
    rw [coOut_bad (by by_cases h : allS l <;> simp_all)] at hR
    subst hR
    obtain ⟨q, hq, hq0⟩ : ∃ q : Int, ([], q) = autoOut l (n : Int) ∧ (q != 0) = true := by
      unfold autoOut
      rw [if_neg (by omega)]
      by_cases h : allS l
      · rw [if_pos h, if_pos (by by_cases h6 : 64 < l.length; exact h6; exact absurd ⟨h, by omega⟩ hS)]
        exact ⟨4, rfl, rfl⟩
      · rw [if_neg h]
        exact ⟨8, rfl, rfl⟩
    have HQ := hid_of hq
    clear hs hS hq
    go_enter Try.func54, Try.ntmps54
    go_wp2_with fail
    refine (rauto_any w a cap l _ H.out hl _ HQ.out).mono ?_
    rintro e w1 hg
    obtain ⟨a1, c1, rfl, -, -, hb1⟩ := hg.ok
    have HB1 := hid_of hb1
    clear hg hb1
    go_wp2_with fail
    go_ret2
    exact ⟨_, _, rfl, IntsAt.nil _ _, HB1.out⟩
  obtain ⟨hS, h64⟩ := hS
  have hsh := hs hS h64
  obtain ⟨A, hA⟩ : ∃ A, A = autoL l (n + 1) := ⟨_, rfl⟩
  have HA : Hid ((A, 0) = autoOut l (n : Int)) := by
    show _ = _
    unfold autoOut
    rw [if_neg (by omega), if_pos hS, if_neg (by omega), Int.toNat_natCast, hA]
  obtain ⟨r, hr⟩ : ∃ r, r = scaleL (autoL l (n + 1)) s := ⟨_, rfl⟩
  have HRS : Hid ((r, (s : Int)) = scOut A s) := by show _ = _; rw [hA, scOut_auto hS h64 n s, hr]
  have HSH : Hid (isR A → IsShift (A.getD 0 0) s) := by
    intro _
    rw [hA, autoL_getD l (by omega)]
    exact hsh
  have hA13 : A.length ≤ 1000000 := by rw [hA]; simp; omega
  obtain ⟨L, hL⟩ : ∃ L, L = (lev r n).1 := ⟨_, rfl⟩
  have HRA : Hid (allR r) := by rw [hr]; exact scale_R hsh
  obtain ⟨x0, hx0⟩ : ∃ x, x = autoZ l 0 / 2 ^ s := ⟨_, rfl⟩
  have HX0 : Hid (r[0]? = some x0) := by show _ = _; rw [hr, hx0]; exact scale_first l n s
  have HRL : Hid (r.length = n + 1) := by show _ = _; rw [hr]; simp
  have hrn : n < r.length := by rw [HRL.out]; omega
  have hrl : r.length ≤ 1000000 := by rw [HRL.out]; omega
  have hxb := HRA.out x0 (List.mem_of_getElem? HX0.out)
  obtain ⟨hxb1, hxb2⟩ := hxb
  obtain ⟨N, hN⟩ : ∃ N, N = n + 1 := ⟨_, rfl⟩
  have hNI : (n : Int) + 1 = (N : Int) := by omega
  have hN13 : N ≤ 13 := by omega
  have HNE := hid_of hN
  clear hN
  by_cases hx1 : x0 < 1
  · rw [coOut_bad (by rw [← hx0]; exact .inr (.inr (.inr (.inr (.inr hx1)))))] at hR
    subst hR
    clear hs hS hA hr hL hx0 hsh
    go_enter Try.func54, Try.ntmps54
    go_wp2_with fail
    refine (rauto_any w a cap l _ H.out hl _ HA.out).mono ?_
    rintro e w1 hg
    obtain ⟨a1, c1, rfl, -, hn1', hb1⟩ := hg.ok
    have HN1 := hid_of hn1'
    have HB1 := hid_of hb1
    have hs1 := hb1.size
    clear hg hb1 hn1'
    go_wp2_with fail
    refine (rscaled_any w1 a1 c1 A s HN1.out.at_ hA13 HSH.out _ HRS.out).mono ?_
    rintro e w2 hg
    obtain ⟨a2, c2, rfl, -, hn2', hb2⟩ := hg.ok
    have HB2 : Hid (Below w.heap.size w w2) := HB1.out.trans (hb2.mono hs1)
    obtain ⟨b0, o0, rfl, hc0⟩ := hn2'.at_ 0 x0 HX0.out
    rw [Nat.add_zero] at hc0
    have hs2 := HB2.out.size
    clear hg hb2 hn2' HN1 HB1
    go_wp2_with (at_make; go_must (refine wpList_make_full _ rfl _ _ 22 rfl w2.heap.size 3 i0 (.int .i64 0) 1 Try.underlying22 hi hz0 hz1 _ _ _ _ N rfl rfl rfl rfl (by rw [hz2]; omega) (by unfold maxLen; omega) (Nat.le_refl _) ?_))
    intro w3 hown hgr
    have HB3 : Hid (Below w.heap.size w w3) := HB2.out.trans (((Below.refl _ _).grown hgr (Nat.le_refl _) (fun k hk => by cases hk)).mono hs2)
    clear hown hgr
    go_wp2_with fail
    go_loopw [10, 12] (fun e i wr => e = .int .i64 x0 ∧ i = .int .i64 1 ∧ w3 = wr) (fun _ _ _ => 0)
    case atStart => exact ⟨rfl, rfl, rfl⟩
    case round =>
      obtain ⟨rfl, rfl, rfl⟩ := hrel
      go_wp2_with fail
      go_ret2
      exact ⟨_, _, rfl, IntsAt.nil _ _, HB3.out⟩
  have hx1' : 1 ≤ x0 := by omega
  have hR2 := coOut_good hn1 hn12 hnl hS h64 (by rw [← hx0]; omega) L (by rw [hL, hr])
  rw [hR2] at hR
  have HR := hid_of hR
  have HL := hid_of hL
  have HE0 : Hid (∀ i, 1 ≤ (lev r i).2 ∧ (lev r i).2 ≤ x0) := by
    intro i
    have := lev_e (r := r) (by rw [getD_of HX0.out]; exact hx1') i
    rw [getD_of HX0.out] at this
    exact this
  have HL0 : Hid (x0 = (lev r 0).2) := by show _ = _; rw [lev, getD_of HX0.out]
  clear hR hs hS hA hr hL hx0 hx1 hR2 hsh
  go_enter Try.func54, Try.ntmps54
  go_wp2_with fail
  refine (rauto_any w a cap l _ H.out hl _ HA.out).mono ?_
  rintro e w1 hg
  obtain ⟨a1, c1, rfl, -, hn1', hb1⟩ := hg.ok
  have HN1 := hid_of hn1'
  have HB1 := hid_of hb1
  have hs1 := hb1.size
  clear hg hb1 hn1'
  go_wp2_with fail
  refine (rscaled_any w1 a1 c1 A s HN1.out.at_ hA13 HSH.out _ HRS.out).mono ?_
  rintro e w2 hg
  obtain ⟨a2, c2, rfl, -, hn2', hb2⟩ := hg.ok
  have HB2 : Hid (Below w.heap.size w w2) := HB1.out.trans (hb2.mono hs1)
  obtain ⟨b0, o0, rfl, hc0⟩ := hn2'.at_ 0 x0 HX0.out
  rw [Nat.add_zero] at hc0
  have HN2 := hid_of hn2'.at_
  have hs2 : w.heap.size ≤ w2.heap.size := HB2.out.size
  clear hg hb2 hn2' HN1 HB1
  go_wp2_with (at_make; go_must (refine wpList_make_full _ rfl _ _ 22 rfl w2.heap.size 3 i0 (.int .i64 0) 1 Try.underlying22 hi hz0 hz1 _ _ _ _ N rfl rfl rfl rfl (by rw [hz2]; omega) (by unfold maxLen; omega) (Nat.le_refl _) ?_))
  intro w3 hown hgr
  have HB3 : Hid (Below w2.heap.size w2 w3) := (Below.refl _ _).grown hgr (Nat.le_refl _) (fun k hk => by cases hk)
  obtain ⟨g, hg⟩ : ∃ g, g = w2.heap.size := ⟨_, rfl⟩
  have HO3 : Hid (OwnInts w3 g (.slice (some ⟨g, 0, none⟩) N N) (row [] n)) := by
    show World.ownsRow _ _ _ _ _ _ _
    rw [← row_none, ← HNE.out]
    have e := madeI N
    rw [Nat.mul_one] at e
    rw [← e, List.length_replicate, hg]; exact hown
  rw [← hg] at HB3 hs2 ⊢
  have HGE : Hid (g = w2.heap.size) := hg
  clear hown hgr hg
  go_wp2_with fail
  go_loopw [10, 12] (fun e i wr => ∃ (j I : Nat) (z : Int) (cs : List Int), I ≤ n + 1 ∧ Hid (I = j + 1) ∧ e = .int .i64 z ∧ i = .int .i64 (I : Int) ∧ Hid (z = (lev r j).2) ∧ Hid (cs = (lev r j).1) ∧ Hid (OwnInts wr g (.slice (some ⟨g, 0, none⟩) N N) (row cs n)) ∧ Hid (Below g w2 wr)) (fun _ i _ => n + 1 - (intOf i).toNat)
  case atStart => exact ⟨0, 1, x0, [], by omega, rfl, rfl, rfl, HL0.out, rfl, HO3.out, HB3.out⟩
  case round =>
    obtain ⟨j, I, z, cs, hI, HI, rfl, rfl, hz, hcs, ho, hb⟩ := hrel
    have HCL : Hid (cs.length = j) := by show _ = _; rw [hcs.out]; simp
    have hzb := HE0.out j
    rw [← hz.out] at hzb
    obtain ⟨hzz1, hzz2⟩ := hzb
    have HBW : Hid (Below w.heap.size w wr) := HB2.out.trans (hb.out.mono hs2)
    have hsr : w.heap.size ≤ wr.heap.size := HBW.out.size
    have hgr : g < wr.heap.size := by obtain ⟨aa, ac, e1, e2, hor⟩ := ho.out.slice; rcases hor with ⟨e3, -⟩ | ⟨g', e3, -, h4⟩; (cases e1; cases e3); (cases e1; cases e3; exact h4)
    by_cases hjn : I ≤ n
    · have hkb : decide ((I : Int) ≤ (n : Int)) = true := decide_eq_true (by omega)
      have hkb2 : decide (I ≤ n) = true := decide_eq_true hjn
      have HRR : Hid (IntsAt wr (some ⟨b0, o0, none⟩) r) := by
        have := HN2.out.below hb.out (fun x hx => by rw [HGE.out]; cases hx; exact World.block_lt_of_cell? w2 _ hc0)
        exact this
      have hIr : I < r.length := by rw [HRL.out]; omega
      obtain ⟨x1, hx1⟩ : ∃ x, r[I]? = some x := ⟨r[I], by simp [hIr]⟩
      have hcI : wr.cell? ⟨b0, o0 + I, none⟩ = some (.int .i64 x1) := by
        obtain ⟨b2, o2, e2, hc2⟩ := HRR.out I x1 hx1
        cases e2
        exact hc2
      have hx1b := HRA.out.atD I
      rw [getD_of hx1] at hx1b
      obtain ⟨hx1b1, hx1b2⟩ := hx1b
      have HNUM : Hid (x1 * 4096 = numTo r cs 0) := by show _ = _; simp only [numTo]; rw [HCL.out, ← HI.out, getD_of hx1]
      have HW : Hid (within cs 16777216) := by rw [hcs.out]; exact lev_bound r (by have := HI.out; omega)
      clear hx1
      go_wp2_with fail
      go_loopw [13, 14] (fun v i ws => ∃ (m M d : Nat) (t : Int), M ≤ I ∧ Hid (M = m + 1) ∧ v = .int .i64 t ∧ i = .int .i64 (M : Int) ∧ Hid (t = numTo r cs m) ∧ ws = wr.drewN d) (fun _ i _ => I - (intOf i).toNat)
      case atStart => exact ⟨0, 1, 0, x1 * 4096, by have := HI.out; omega, rfl, rfl, rfl, HNUM.out, rfl⟩
      case round =>
        obtain ⟨m, M, d, t, hM, HM, rfl, rfl, ht, rfl⟩ := hrel
        have htb := numTo_small HRA.out HW.out m
        rw [← ht.out] at htb
        obtain ⟨ht1, ht2⟩ := htb
        have ht1' : -1152921504606846976 ≤ t := by have := HM.out; omega
        have ht2' : t ≤ 1152921504606846976 := by have := HM.out; omega
        clear ht1 ht2
        by_cases hMI : M < I
        · have hmj : m < cs.length := by have := HM.out; have := HI.out; rw [HCL.out]; omega
          obtain ⟨c, hcx⟩ : ∃ x, cs[m]? = some x := ⟨cs[m], by simp [hmj]⟩
          obtain ⟨hc1, -⟩ := owni_cell ho.out (row_get (n := n) hcx)
          rw [← HM.out] at hc1
          obtain ⟨q, hq⟩ : ∃ q, q = cs.length - m := ⟨_, rfl⟩
          have hql : q < r.length := by rw [HRL.out]; rw [HCL.out] at hq; have := HI.out; omega
          obtain ⟨x, hx⟩ : ∃ x, r[q]? = some x := ⟨r[q], by simp [hql]⟩
          have hc2 : wr.cell? ⟨b0, o0 + q, none⟩ = some (.int .i64 x) := by
            obtain ⟨b2, o2, e2, hc2⟩ := HRR.out q x hx
            cases e2
            exact hc2
          have hqI : (I : Int) - (M : Int) = (q : Int) := by have := HM.out; have := HI.out; rw [HCL.out] at hq; omega
          have hMN : M < N := by omega
          obtain ⟨p, hp⟩ : ∃ p, p = c * x := ⟨_, rfl⟩
          have g1 := HW.out.atD (by decide) m
          have g2 := HRA.out.atD q
          rw [getD_of hcx] at g1
          rw [getD_of hx] at g2
          have hp12 := ar_small g1.1 g1.2 g2.1 g2.2
          rw [← hp] at hp12
          obtain ⟨hp1, hp2⟩ := hp12
          have HP : Hid (c * x = p) := hp.symm
          have HN : Hid (t - p = numTo r cs (m + 1)) := by
            show _ = _
            simp only [numTo]
            rw [getD_of hcx, ← hq, getD_of hx, ← ht.out, hp]
          have HM1 : Hid (M + 1 = (m + 1) + 1) := by show _ = _; rw [HM.out]
          clear hq hcx hx hp g1 g2 hmj
          go_wp2_with fail
          go_quiet (fail)
          go_wp2_with fail
          rw [HP.out, Go.IntWalk.wrap64_in p (by omega), Go.IntWalk.wrap64_in (t - p) (by omega)]
          exact ⟨⟨m + 1, M + 1, d + nq, t - p, by omega, HM1, rfl, by go_num, HN, rfl⟩, by (simp [intOf]) <;> omega⟩
        · have eM : M = I := by omega
          have hmc : m = cs.length := by have := HM.out; have := HI.out; rw [HCL.out]; omega
          obtain ⟨q, hq⟩ : ∃ q, t / z = q := ⟨_, rfl⟩
          have HQ := hid_of hq
          obtain ⟨k, hk⟩ : ∃ k, k = kOf r cs z := ⟨_, rfl⟩
          have HKQ : Hid (k = min (max q (-4095)) 4095) := by show _ = _; rw [hk, ← hq, ht.out, hmc]; rfl
          have hkb := kOf_small r cs z
          rw [← hk] at hkb
          obtain ⟨hk1, hk2⟩ := hkb
          have HK := hid_of hk
          have hkq : (q < -4095 ∧ k = -4095) ∨ (-4095 ≤ q ∧ q ≤ 4095 ∧ k = q) ∨ (4095 < q ∧ k = 4095) := by have := HKQ.out; omega
          subst eM
          clear hq hk hmc HKQ hM hMI HM ht HNUM
          have hnx := lev_next r j cs z k hcs.out hz.out HK.out
          obtain ⟨T, hT⟩ : ∃ T, T = turnL cs k ++ [k] := ⟨_, rfl⟩
          have HNX1 : Hid (T = (lev r (j + 1)).1) := by show _ = _; rw [hnx.1, hT]
          obtain ⟨kk, hkk⟩ : ∃ kk, kk = k * k := ⟨_, rfl⟩
          have hkkb := kk_small hk1 hk2
          rw [← hkk] at hkkb
          obtain ⟨hkk1, hkk2⟩ := hkkb
          have HKK : Hid (k * k = kk) := hkk.symm
          obtain ⟨qe, hqe⟩ : ∃ qe, qe = kk / 4096 * z := ⟨_, rfl⟩
          have hqeb := qe_small (q := kk / 4096) (e := z) (by omega) (by omega) hzz1
          rw [← hqe] at hqeb
          obtain ⟨hqe1, hqe2⟩ := hqeb
          have HQE : Hid (kk / 4096 * z = qe) := hqe.symm
          have HNX2 : Hid (z - qe / 4096 = (lev r (j + 1)).2) := by show _ = _; rw [hnx.2, eNext, ← hkk, ← hqe]
          have HTL : Hid (T.length = cs.length + 1) := by show _ = _; rw [hT]; simp
          have HTG : Hid (∀ i, i < cs.length → T[i]? = some (cs.getD i 0 - k * cs.getD (cs.length - 1 - i) 0 / 4096)) := by
            intro i hi
            rw [hT, List.getElem?_append_left (by simpa using hi)]
            exact turnL_get cs k hi
          have HTE : Hid (T[cs.length]? = some k) := by
            show _ = _
            rw [hT, List.getElem?_append_right (by simp)]
            simp
          clear hT hkk hqe hnx
          go_upto_region 19 with fail
          go_cut [15] from 49 to 120 (fun v wx => v = .int .i64 k ∧ wx = wr.drewN d)
          case first =>
            rcases hkq with ⟨h1, rfl⟩ | ⟨h1, h2, rfl⟩ | ⟨h1, rfl⟩
            all_goals
              go_wp2_with (go_at_call 72; refine (rdown2_any _ _ _ _ (by omega) (by omega) hzz1 (by omega) HQ.out).mono ?_; rintro e w4 ⟨rfl, rfl⟩)
              go_meet
              exact ⟨rfl, rfl⟩
          case rest =>
            obtain ⟨rfl, rfl⟩ := hcut
            clear hkq HQ
            have HROW : Hid ((row cs n).length = N) := by show _ = _; rw [length_row (by rw [HCL.out]; have := HI.out; omega), HNE.out]
            have hcn : cs.length < n := by rw [HCL.out]; have := HI.out; omega
            go_wp2_with (at_builtin; go_must (refine wpList_append_ints (wr.drewN d) rfl _ (.tmp 84) rfl wr.heap.size _ [] rfl (OwnInts.nil _ _) (some ⟨g, 0, none⟩) N (row cs n) (by rw [HROW.out]; rfl) ⟨(ho.out.drewN d).at, by rw [HROW.out]; exact Nat.le_refl _, fun e => by cases e⟩ (by rw [HROW.out]; simp; omega) (Nat.le_refl _) ?_))
            intro v4 w4 hv4 hk4 hd4
            have hv4' : OwnInts w4 wr.heap.size v4 (row cs n) := by have := hv4.out; simpa using this
            obtain ⟨oa, oc, rfl, -, hor⟩ := hv4'.slice
            obtain ⟨g2, rfl, hg2⟩ : ∃ g2, oa = some ⟨g2, 0, none⟩ ∧ wr.heap.size ≤ g2 := by
              rcases hor with ⟨-, h2, -⟩ | ⟨g2, e, h2, -⟩
              · exact absurd h2 (by simp [row])
              · exact ⟨g2, e, h2⟩
            rw [HROW.out] at hv4' ⊢
            have HOLD := hid_of hv4'
            have HO4 : Hid (OwnInts w4 g (.slice (some ⟨g, 0, none⟩) N N) (row cs n)) := ownsRow_other (ho.out.drewN d) hk4.out (fun k hk e => by cases e)
            have HB4 : Hid (Below g w2 w4) := hk4.out.below_of (below_drewN hb.out d) (fun k hk => by cases hk) (Nat.le_of_lt hgr)
            have hg4 : g ≤ w4.heap.size := Nat.le_trans (Nat.le_of_lt hgr) hk4.out.size
            have hgg : g2 ≠ g := by omega
            obtain ⟨B0, hB0⟩ : ∃ B0, B0 = wr.heap.size := ⟨_, rfl⟩
            rw [← hB0] at HOLD
            clear hv4 hk4 hd4 hv4' hor ho hb HRR hB0 hg2
            go_wp2_with fail
            go_loopw [17] (fun i ws => ∃ (m m1 : Nat), m1 ≤ M ∧ Hid (m1 = m + 1) ∧ i = .int .i64 (m1 : Int) ∧ Hid (OwnInts ws g (.slice (some ⟨g, 0, none⟩) N N) (mid T cs n m)) ∧ Hid (Kept (fun k => k = g) w4 ws)) (fun i _ => M - (intOf i).toNat)
            case atStart => exact ⟨0, 1, by have := HI.out; omega, rfl, rfl, by rw [mid_zero]; exact HO4.out, Kept.refl _ _⟩
            case round =>
              obtain ⟨m, m1, hm1, HM1, rfl, ho, hk⟩ := hrel
              by_cases hmM : m1 < M
              · have hmj : m < cs.length := by have := HM1.out; have := HI.out; rw [HCL.out]; omega
                obtain ⟨c, hcx⟩ : ∃ x, cs[m]? = some x := ⟨cs[m], by simp [hmj]⟩
                have hOLD : OwnInts wr B0 (.slice (some ⟨g2, 0, none⟩) N oc) (row cs n) := ownsRow_other HOLD.out hk.out (fun k hk e => by cases hk; exact hgg e)
                obtain ⟨hc1, -⟩ := owni_cell hOLD (row_get (n := n) hcx)
                rw [← HM1.out] at hc1
                obtain ⟨q, hq⟩ : ∃ q, q = cs.length - 1 - m := ⟨_, rfl⟩
                have hql : q < cs.length := by omega
                obtain ⟨x, hx⟩ : ∃ x, cs[q]? = some x := ⟨cs[q], by simp [hql]⟩
                obtain ⟨q1, hq1⟩ : ∃ q1, q1 = q + 1 := ⟨_, rfl⟩
                obtain ⟨hc2, -⟩ := owni_cell hOLD (row_get (n := n) hx)
                rw [← hq1] at hc2
                have hqI : (M : Int) - (m1 : Int) = (q1 : Int) := by have := HM1.out; have := HI.out; rw [HCL.out] at hq; omega
                have hmN : m1 < N := by omega
                have hqN : q1 < N := by omega
                have hqw : IntKind.i64.wrap (q1 : Int) = (q1 : Int) := Go.IntWalk.i64_in _ (by omega)
                obtain ⟨hrc, hrf⟩ := owni_cell ho.out (mid_get (n := n) (by rw [HTL.out]; omega) hcx)
                rw [← HM1.out] at hrc hrf
                obtain ⟨p, hp⟩ : ∃ p, p = k * x := ⟨_, rfl⟩
                have g1 := HW.out.atD (by decide) m
                have g2' := HW.out.atD (by decide) q
                rw [getD_of hcx] at g1
                rw [getD_of hx] at g2'
                have hp12 := ka_small hk1 hk2 g2'.1 g2'.2
                rw [← hp] at hp12
                obtain ⟨hp1, hp2⟩ := hp12
                obtain ⟨g11, g12⟩ := g1
                have HP : Hid (k * x = p) := hp.symm
                have hTj := HTG.out m hmj
                rw [getD_of hcx, ← hq, getD_of hx, ← hp] at hTj
                have HMS : Hid ((mid T cs n m).set m1 (c - p / 4096) = mid T cs n (m + 1)) := by show _ = _; rw [HM1.out]; exact mid_set (by rw [HTL.out]; omega) hmj hTj
                have HM2 : Hid (m1 + 1 = (m + 1) + 1) := by show _ = _; rw [HM1.out]
                have HW1 : Hid (IntKind.i64.wrap (k * x) = p) := by show _ = _; rw [HP.out]; exact Go.IntWalk.i64_in _ (by omega)
                have HW2 : Hid (IntKind.i64.wrap (c - p / 4096) = c - p / 4096) := Go.IntWalk.i64_in _ (by omega)
                clear hq hcx hx hp g2' hq1 hTj hmj hql hOLD
                go_wp2_with fail
                go_region_law (go_simp; go_at_call 72; rw [HW1.out]; refine (rdown2_any _ p 4096 (p / 4096) (by omega) (by omega) (by decide) (by decide) rfl).mono ?_; rintro e w6 ⟨rfl, rfl⟩)
                all_goals
                  rw [HW2.out]
                  go_wp2_with fail
                  refine ⟨⟨m + 1, m1 + 1, by omega, HM2, by go_num, ?_, ?_⟩, by (simp [intOf]) <;> omega⟩
                  · show OwnInts _ _ _ _
                    rw [← HMS.out]
                    exact OwnInts.set (w := wr.drew) (World.ownsRow.drew ho.out) m1 _ hmN
                  · exact hk.out.drew.trans (Kept.setCell _ _ _ rfl)
              · have em : m1 = M := by omega
                have emc : m = cs.length := by have := HM1.out; have := HI.out; rw [HCL.out]; omega
                have HMC : Hid (M = cs.length + 1) := by show _ = _; rw [HCL.out]; exact HI.out
                have HO5 : Hid (OwnInts wr g (.slice (some ⟨g, 0, none⟩) N N) (mid T cs n cs.length)) := by rw [← emc]; exact ho.out
                obtain ⟨hrc, hrf⟩ := owni_cell HO5.out (mid_last (by rw [HTL.out]; omega) hcn)
                rw [← HMC.out] at hrc hrf
                have hMN : M < N := by omega
                have HO6 : Hid (OwnInts (wr.setCell ⟨g, M, none⟩ (.int .i64 k)) g (.slice (some ⟨g, 0, none⟩) N N) (row T n)) := by
                  have h1 := HO5.out.set M k hMN
                  rw [HMC.out, mid_end HTL.out hcn HTE.out, ← HMC.out] at h1
                  exact h1
                have HB6 : Hid (Below g w2 (wr.setCell ⟨g, M, none⟩ (.int .i64 k))) := (hk.out.trans (Kept.setCell _ _ _ rfl)).below_of HB4.out (fun i hi => by rw [hi]; exact Nat.le_refl _) hg4
                have HI2 : Hid (M + 1 = (j + 1) + 1) := by show _ = _; rw [HI.out]
                subst em
                clear ho hk HO5 emc HOLD HO4 HM1 hmM hm1
                go_wp2_with fail
                rw [HKK.out, Go.IntWalk.wrap64_in kk (by omega)]
                refine (rdown2_any _ kk 4096 (kk / 4096) (by omega) (by omega) (by decide) (by decide) rfl).mono ?_
                rintro e w6 ⟨rfl, rfl⟩
                go_wp2_with fail
                rw [HQE.out, Go.IntWalk.wrap64_in qe (by omega)]
                refine (rdown2_any _ qe 4096 (qe / 4096) (by omega) (by omega) (by decide) (by decide) rfl).mono ?_
                rintro e w6 ⟨rfl, rfl⟩
                go_wp2_with fail
                exact ⟨⟨j + 1, m1 + 1, z - qe / 4096, T, by omega, HI2, rfl, by go_num, HNX2, HNX1, HO6, HB6⟩, by (simp [intOf]) <;> omega⟩
    · have eI : I = n + 1 := by omega
      have hkb : decide ((I : Int) ≤ (n : Int)) = false := decide_eq_false (by omega)
      have hkb2 : decide (I ≤ n) = false := decide_eq_false hjn
      have HCN : Hid (cs.length = n) := by show _ = _; rw [HCL.out]; have := HI.out; omega
      have HCSL : Hid (cs = L) := by show _ = _; rw [hcs.out, HL.out]; have := HI.out; rw [show j = n by omega]
      obtain ⟨A1, hA1⟩ : ∃ A1, A1 = lowI (some ⟨g, 0, none⟩) N 1 := ⟨_, rfl⟩
      obtain ⟨C1, hC1⟩ : ∃ C1, C1 = N - 1 := ⟨_, rfl⟩
      have hsl : ∀ W : World, (Instr.sliceAt 22 (.slice (some ⟨g, 0, none⟩) N N) (some (.int .i64 1)) none none).run Try.prog W = .ok (.slice A1 cs.length C1) W := by
        intro W
        have h1 := slice_ints_lo (some ⟨g, 0, none⟩) N N 1 (by omega) W
        rw [hA1, hC1, HCN.out, show n = N - 1 by omega]
        exact h1
      have HAC : Hid (IntsAt wr A1 cs) := by
        have h1 := ho.out.at.drop (cap := N) (by rw [length_row (by rw [HCN.out]; omega)]; omega) 1
        rw [row_drop HCN.out, ← hA1] at h1
        exact h1
      have hcl12 : cs.length ≤ 1000000 := by rw [HCN.out]; omega
      have HAR : Hid (areC cs ↔ allC L) := by
        show _ ↔ _
        rw [← HCSL.out]
        exact ⟨fun h => h.2.2, fun h => ⟨by rw [HCN.out]; omega, by rw [HCN.out]; omega, h⟩⟩
      clear hA1 hC1 ho eI hI
      by_cases hC : allC L
      · have HT : Hid (true = decide (areC cs)) := (decide_eq_true (HAR.out.2 hC)).symm
        have HRR : Hid (R = (cs, true)) := by show _ = _; rw [HR.out, if_pos hC, HCSL.out]
        clear hC
        go_wp2_with fail
        refine (rcoefs6_any wr _ _ cs HAC.out hcl12 true HT.out).mono ?_
        rintro e w4 ⟨rfl, rfl⟩
        go_wp2_with fail
        go_ret2
        rw [HRR.out]
        exact ⟨_, _, rfl, HAC.out, HBW.out⟩
      · have HT : Hid (false = decide (areC cs)) := (decide_eq_false (fun h => hC (HAR.out.1 h))).symm
        have HRR : Hid (R = ([], false)) := by show _ = _; rw [HR.out, if_neg hC]
        clear hC
        go_wp2_with fail
        refine (rcoefs6_any wr _ _ cs HAC.out hcl12 false HT.out).mono ?_
        rintro e w4 ⟨rfl, rfl⟩
        go_wp2_with fail
        go_ret2
        rw [HRR.out]
        exact ⟨_, _, rfl, IntsAt.nil _ _, HBW.out⟩

end Go.Proofs.Ythkfaackkcdcoaa

/- The document's own digits of a frame, kind by kind. -/
namespace Go.Proofs.Ythkfaackkcdcoaa
set_option linter.unusedVariables false
set_option linter.unusedSimpArgs false
open Go.RowKit Dg

theorem mayZ_of {x : List Int} (h : mayX x) : 0 = mayZ x := by
  unfold mayZ
  rw [if_pos h.2.2, if_neg (by have := h.2.1; omega)]
theorem mayZ_not {x : List Int} (h1 : 1 ≤ x.length) (h : ¬ mayX x) : (mayZ x != 0) = true := by
  unfold mayZ
  by_cases hS : allS x
  · rw [if_pos hS]
    by_cases h64 : 64 < x.length
    · rw [if_pos h64]; rfl
    · exact absurd ⟨h1, by omega, hS⟩ h
  · rw [if_neg hS]; rfl
/-- What digits answers. -/
def DigAt (w w' : World) (F : Option (List Bool)) (e : Ending) : Prop :=
  match F with
  | none => ∃ v', e = .returned (.tuple #[v', .bool false]) ∧ Below w.heap.size w w'
  | some D => ∃ v', e = .returned (.tuple #[v', .bool true]) ∧ OfAt w w' v' D

set_option maxRecDepth 100000 in
set_option maxHeartbeats 4000000 in
theorem dig_bad (w : World) (kind : Int) (a : Option Addr) (cap : Nat) (l : List Int) (hl : IntsAt w a l) (hll : l.length ≤ 1000000) (hbad : ¬ mayX l ∨ kind < 0 ∨ 18 < kind) :
    Calls Try.prog 32 #[.int .i64 kind, .slice a l.length cap] w fun e w' => DigAt w w' none e := by
  have HL := hid_of hl
  clear hl
  obtain ⟨t, ht⟩ : ∃ t, t = mayZ l := ⟨_, rfl⟩
  have HT := hid_of ht
  rcases (by by_cases h1 : l.length < 1; exact .inl h1; by_cases h2 : mayX l; exact .inr (.inr ⟨by omega, by rw [ht, ← mayZ_of h2]; rfl, by rcases hbad with h | h; exact absurd h2 h; exact h⟩); exact .inr (.inl ⟨by omega, by rw [ht]; exact mayZ_not (by omega) h2⟩) : l.length < 1 ∨ (1 ≤ l.length ∧ (t != 0) = true) ∨ (1 ≤ l.length ∧ (t != 0) = false ∧ (kind < 0 ∨ 18 < kind))) with h1 | ⟨h1, h2⟩ | ⟨h1, h2, h3⟩
  · clear hbad ht
    go_enter Try.func32, Try.ntmps32
    go_wp2_with fail
    go_ret2
    exact ⟨_, rfl, Below.refl _ _⟩
  · clear hbad ht
    go_enter Try.func32, Try.ntmps32
    go_wp2_with (go_at_call 34; refine (rmay_any _ _ _ _ HL.out hll t HT.out).mono ?_; rintro e w1 ⟨rfl, rfl⟩)
    go_ret2
    exact ⟨_, rfl, Below.refl _ _⟩
  · clear hbad ht
    rcases (by omega : kind < 0 ∨ (0 ≤ kind ∧ 18 < kind)) with h4 | ⟨h4, h5⟩
    all_goals
      clear h3
      go_enter Try.func32, Try.ntmps32
      go_wp2_with (go_at_call 34; refine (rmay_any _ _ _ _ HL.out hll t HT.out).mono ?_; rintro e w1 ⟨rfl, rfl⟩)
      go_ret2
      exact ⟨_, rfl, Below.refl _ _⟩

set_option maxRecDepth 100000 in
set_option maxHeartbeats 4000000 in
theorem dig_const (w : World) (a : Option Addr) (cap : Nat) (l : List Int) (hl : IntsAt w a l) (hm : mayX l) (F : Option (List Bool)) (hF : F = if allOne l then some (headD 0 l.length ++ sampD (l.getD 0 0)) else none) :
    Calls Try.prog 32 #[.int .i64 0, .slice a l.length cap] w fun e w' => DigAt w w' F e := by
  have HL := hid_of hl
  have HT := hid_of (mayZ_of hm)
  have HS := hid_of hm.2.2
  have hl1 : 1 ≤ l.length := hm.1
  have hl64 : l.length ≤ 64 := hm.2.1
  obtain ⟨x0, hx0⟩ : ∃ x, l[0]? = some x := ⟨l[0]'(by omega), by simp⟩
  have HX0 := hid_of (getD_of hx0)
  have HXS := hid_of (HS.out x0 (List.mem_of_getElem? hx0))
  obtain ⟨b0, o0, rfl, hc0⟩ := hl 0 x0 hx0
  rw [Nat.add_zero] at hc0
  have HF := hid_of hF
  clear hl hm hF hx0
  go_enter Try.func32, Try.ntmps32
  go_wp2_with (go_at_call 34; refine (rmay_any _ _ _ _ HL.out (by omega) 0 HT.out).mono ?_; rintro e w1 ⟨rfl, rfl⟩)
  refine (rput_of w _ [] 0 8 (BtAt.none w) (by simp) (by decide) _ rfl).mono ?_
  rintro e w1 ⟨v1, rfl, h1⟩
  have H1 := hid_of h1
  clear h1
  go_wp2_with fail
  refine (rput_of w1 v1 _ (l.length : Int) 8 H1.out.bt (by simp) (by decide) (headD 0 l.length) (by simp [headD])).mono ?_
  rintro e w2 ⟨v2, rfl, h2⟩
  have H2 : Hid (OfAt w w2 v2 (headD 0 l.length)) := h2.low H1.out.2
  clear h2 H1
  go_wp2_with fail
  have hc2 : w2.cell? ⟨b0, o0, none⟩ = some (.int .i64 x0) := (H2.out.2.cell (p := ⟨b0, o0, none⟩) (World.block_lt_of_cell? w _ hc0)).trans hc0
  go_loopw [52] (fun i wr => ∃ k d : Nat, k ≤ l.length ∧ i = .int .i64 (k : Int) ∧ Hid (∀ v ∈ l.take k, v = x0) ∧ wr = w2.drewN d) (fun i _ => l.length - (intOf i).toNat)
  case atStart => exact ⟨0, 0, Nat.zero_le _, rfl, fun v hv => by simp at hv, rfl⟩
  case round =>
    obtain ⟨k, d, hk, rfl, hall, rfl⟩ := hrel
    by_cases hkn : k < l.length
    · obtain ⟨x, hx⟩ : ∃ x, l[k]? = some x := ⟨l[k], by simp [hkn]⟩
      have hc : w2.cell? ⟨b0, o0 + k, none⟩ = some (.int .i64 x) := by
        obtain ⟨b2, o2, e2, hc2⟩ := HL.out.mono H2.out.2 k x hx
        cases e2
        exact hc2
      by_cases hxe : x = x0
      · have hb : (x != x0) = false := by simp [hxe]
        have HA : Hid (∀ v ∈ l.take (k + 1), v = x0) := by
          intro v hv
          rw [take_next l k x hx] at hv
          rcases List.mem_append.1 hv with h | h
          · exact hall.out v h
          · simp at h; rw [h]; exact hxe
        clear hx hxe hall
        go_wp2_with fail
        go_quiet (fail)
        go_wp2_with fail
        exact ⟨⟨k + 1, d + nq, by omega, by go_num, HA, rfl⟩, by (simp [intOf]) <;> omega⟩
      · have hb : (x != x0) = true := by simp [hxe]
        have HN : Hid (F = none) := by
          show _ = _
          rw [HF.out]
          refine if_neg (fun h => hxe ?_)
          rw [h x (List.mem_of_getElem? hx), HX0.out]
        clear hx hxe hall
        go_wp2_with fail
        go_quiet (fail)
        go_wp2_with fail
        go_ret2
        rw [HN.out]
        exact ⟨_, rfl, below_drewN (below_drewN H2.out.2 d) nq⟩
    · have e : k = l.length := by omega
      subst e
      have HS' : Hid (F = some (headD 0 l.length ++ sampD x0)) := by
        show _ = _
        have h1 := hall.out
        rw [List.take_length] at h1
        have hAO : allOne l := fun v hv => by rw [HX0.out]; exact h1 v hv
        rw [HF.out, if_pos hAO, HX0.out]
      clear hall
      go_wp2_with fail
      refine (rsample_any (w2.drewN d) v2 (headD 0 l.length) x0 (H2.out.bt.drewN d) (by simp) HXS.out _ rfl).mono ?_
      rintro e w3 ⟨v3, rfl, h3⟩
      have H3 : Hid (OfAt w w3 v3 (headD 0 l.length ++ sampD x0)) := h3.low (below_drewN H2.out.2 d)
      clear h3
      go_wp2_with fail
      go_ret2
      rw [HS'.out]
      exact ⟨_, rfl, H3.out⟩

set_option maxRecDepth 100000 in
set_option maxHeartbeats 4000000 in
theorem dig_verb (w : World) (a : Option Addr) (cap : Nat) (l : List Int) (hl : IntsAt w a l) (hm : mayX l) :
    Calls Try.prog 32 #[.int .i64 1, .slice a l.length cap] w fun e w' => DigAt w w' (some (headD 1 l.length ++ sampsD l)) e := by
  have HL := hid_of hl
  have HT := hid_of (mayZ_of hm)
  have HS := hid_of hm.2.2
  have hl1 : 1 ≤ l.length := hm.1
  have hl64 : l.length ≤ 64 := hm.2.1
  clear hl hm
  go_enter Try.func32, Try.ntmps32
  go_wp2_with (go_at_call 34; refine (rmay_any _ _ _ _ HL.out (by omega) 0 HT.out).mono ?_; rintro e w1 ⟨rfl, rfl⟩)
  refine (rput_of w _ [] 1 8 (BtAt.none w) (by simp) (by decide) _ rfl).mono ?_
  rintro e w1 ⟨v1, rfl, h1⟩
  have H1 := hid_of h1
  clear h1
  go_wp2_with fail
  refine (rput_of w1 v1 _ (l.length : Int) 8 H1.out.bt (by simp) (by decide) (headD 1 l.length) (by simp [headD])).mono ?_
  rintro e w2 ⟨v2, rfl, h2⟩
  have H2 : Hid (OfAt w w2 v2 (headD 1 l.length)) := h2.low H1.out.2
  clear h2 H1
  go_wp2_with fail
  go_loopw [6, 74] (fun v i wr => ∃ k : Nat, k ≤ l.length ∧ i = .int .i64 (k : Int) ∧ Hid (OfAt w wr v (headD 1 l.length ++ sampsD (l.take k)))) (fun _ i _ => l.length - (intOf i).toNat)
  case atStart => exact ⟨0, Nat.zero_le _, rfl, by show OfAt _ _ _ _; simpa using H2.out⟩
  case round =>
    obtain ⟨k, hk, rfl, hof⟩ := hrel
    by_cases hkn : k < l.length
    · obtain ⟨x, hx⟩ : ∃ x, l[k]? = some x := ⟨l[k], by simp [hkn]⟩
      obtain ⟨b, off, rfl, hc⟩ := HL.out.mono hof.out.2 k x hx
      have HXS := hid_of (HS.out x (List.mem_of_getElem? hx))
      have HE : Hid (headD 1 l.length ++ sampsD (l.take (k + 1)) = headD 1 l.length ++ sampsD (l.take k) ++ sampD x) := by
        show _ = _
        rw [take_next l k x hx, sampsD_snoc, List.append_assoc]
      have hlen : (headD 1 l.length ++ sampsD (l.take k)).length ≤ 1000000 := by simp; omega
      have HBT := hid_of hof.out.bt
      have HB2 := hid_of hof.out.2
      clear hx
      go_wp2_with fail
      refine (rsample_any wr _ _ x HBT.out hlen HXS.out _ HE.out).mono ?_
      rintro e w3 ⟨v3, rfl, h3⟩
      have H3 : Hid (OfAt w w3 v3 (headD 1 l.length ++ sampsD (l.take (k + 1)))) := h3.low HB2.out
      clear h3
      go_wp2_with fail
      exact ⟨⟨k + 1, by omega, by go_num, H3⟩, by (simp [intOf]) <;> omega⟩
    · have e : k = l.length := by omega
      have HF : Hid (OfAt w wr u6 (headD 1 l.length ++ sampsD l)) := by
        have h1 := hof.out
        rw [e, List.take_length] at h1
        exact h1
      subst e
      clear hof
      go_wp2_with fail
      go_ret2
      exact ⟨_, rfl, HF.out⟩

end Go.Proofs.Ythkfaackkcdcoaa

/- The document's own digits of a frame: the fixed kinds. -/
namespace Go.Proofs.Ythkfaackkcdcoaa
set_option linter.unusedVariables false
set_option linter.unusedSimpArgs false
open Go.RowKit Dg

set_option maxRecDepth 100000 in
set_option maxHeartbeats 4000000 in
theorem dig_fixed (w : World) (kind : Int) (n : Nat) (a : Option Addr) (cap : Nat) (l : List Int) (hl : Ns w a cap l) (hm : mayX l) (h2 : 2 ≤ kind) (h6 : kind ≤ 6) (hkn : kind - 2 = (n : Int)) (F : Option (List Bool))
    (hF : F = if l.length < n then none else if okZ (residZ l n) then some (headD kind l.length ++ sampsD (l.take n) ++ residD (residZ l n)) else none) :
    Calls Try.prog 32 #[.int .i64 kind, .slice a l.length cap] w fun e w' => DigAt w w' F e := by
  have HL := hid_of hl
  have HT := hid_of (mayZ_of hm)
  have HS := hid_of hm.2.2
  have hl1 : 1 ≤ l.length := hm.1
  have hl64 : l.length ≤ 64 := hm.2.1
  have HF := hid_of hF
  have hn4 : n ≤ 4 := by omega
  have hkb0 : (kind == 0) = false := beq_eq_false_iff_ne.2 (by omega)
  have hkb1 : (kind == 1) = false := beq_eq_false_iff_ne.2 (by omega)
  obtain ⟨⟨L, q⟩, hR⟩ : ∃ R, R = resOut l (n : Int) := ⟨_, rfl⟩
  have HR := hid_of hR
  have hq : (l.length < n ∧ (q != 0) = true) ∨ (n ≤ l.length ∧ q = 0 ∧ L = residZ l n) := by
    unfold resOut at hR
    by_cases h : l.length < n
    · rw [if_pos (by omega)] at hR
      cases hR
      exact .inl ⟨h, rfl⟩
    · rw [if_neg (by omega), if_pos HS.out, if_neg (by omega), Int.toNat_natCast] at hR
      cases hR
      exact .inr ⟨by omega, rfl, rfl⟩
  clear hl hm hF hR
  go_enter Try.func32, Try.ntmps32
  go_wp2_with (go_at_call 34; refine (rmay_any _ _ _ _ HL.out.at_ (by omega) 0 HT.out).mono ?_; rintro e w1 ⟨rfl, rfl⟩)
  refine (rput_of w _ [] kind 8 (BtAt.none w) (by simp) (by decide) _ rfl).mono ?_
  rintro e w1 ⟨v1, rfl, h1⟩
  have H1 := hid_of h1
  clear h1
  go_wp2_with fail
  refine (rput_of w1 v1 _ (l.length : Int) 8 H1.out.bt (by simp) (by decide) (headD kind l.length) (by simp [headD])).mono ?_
  rintro e w2 ⟨v2, rfl, h2'⟩
  have H2 : Hid (OfAt w w2 v2 (headD kind l.length)) := h2'.low H1.out.2
  have HL2 : Hid (Ns w2 a cap l) := HL.out.mono H2.out.2
  clear h2' H1
  go_wp2_with fail
  refine (rresid_any w2 a cap l _ HL2.out (by omega) _ HR.out).mono ?_
  rintro e w3 hg
  obtain ⟨a3, c3, rfl, -, hn3, hb3⟩ := hg.ok
  have HN3 := hid_of hn3.at_
  have HB3 : Hid (Below w.heap.size w w3) := H2.out.2.trans (hb3.mono H2.out.2.size)
  have HBT3 : Hid (BtAt w3 v2 (headD kind l.length)) := H2.out.bt.below hb3
  clear hg hb3 hn3
  rcases hq with ⟨hlt, hq0⟩ | ⟨hge, rfl, hLe⟩
  · have HN : Hid (F = none) := by show _ = _; rw [HF.out, if_pos hlt]
    go_wp2_with fail
    go_ret2
    rw [HN.out]
    exact ⟨_, rfl, HB3.out⟩
  · have HFF : Hid (F = if okZ L then some (headD kind l.length ++ sampsD (l.take n) ++ residD L) else none) := by show _ = _; rw [HF.out, if_neg (by omega), hLe]
    have hrl : L.length ≤ 1000 := by rw [hLe]; simp; omega
    clear hLe
    go_wp2_with fail
    go_loopw [6, 12] (fun v i wr => ∃ k : Nat, k ≤ n ∧ i = .int .i64 (k : Int) ∧ Hid (BtAt wr v (headD kind l.length ++ sampsD (l.take k))) ∧ Hid (Below w3.heap.size w3 wr)) (fun _ i _ => n - (intOf i).toNat)
    case atStart => exact ⟨0, Nat.zero_le _, rfl, by show BtAt _ _ _; simpa using HBT3.out, Below.refl _ _⟩
    case round =>
      obtain ⟨k, hk, rfl, hbt, hb⟩ := hrel
      have HB4 : Hid (Below w.heap.size w wr) := HB3.out.trans (hb.out.mono HB3.out.size)
      by_cases hkn' : k < n
      · obtain ⟨x, hx⟩ : ∃ x, l[k]? = some x := ⟨l[k]'(by omega), by simp⟩
        obtain ⟨b, off, rfl, hc⟩ := HL.out.at_.mono HB4.out k x hx
        have HXS := hid_of (HS.out x (List.mem_of_getElem? hx))
        have HE : Hid (headD kind l.length ++ sampsD (l.take (k + 1)) = headD kind l.length ++ sampsD (l.take k) ++ sampD x) := by
          show _ = _
          rw [take_next l k x hx, sampsD_snoc, List.append_assoc]
        have hlen : (headD kind l.length ++ sampsD (l.take k)).length ≤ 1000000 := by simp; omega
        have hkl : k < l.length := by omega
        clear hx
        go_wp2_with fail
        refine (rsample_any wr _ _ x hbt.out hlen HXS.out _ HE.out).mono ?_
        rintro e w5 ⟨v5, rfl, h5⟩
        have H5 : Hid (BtAt w5 v5 (headD kind l.length ++ sampsD (l.take (k + 1)))) := h5.bt
        have HB5 : Hid (Below w3.heap.size w3 w5) := hb.out.trans (h5.2.mono hb.out.size)
        clear h5
        go_wp2_with fail
        exact ⟨⟨k + 1, by omega, by go_num, H5, HB5⟩, by (simp [intOf]) <;> omega⟩
      · have e : k = n := by omega
        subst e
        have hlen : (headD kind l.length ++ sampsD (l.take k)).length ≤ 100000 := by simp; omega
        have HN4 : Hid (IntsAt wr a3 L) := HN3.out.mono hb.out
        go_wp2_with fail
        refine (rresiduals_any wr _ _ a3 c3 L hbt.out hlen HN4.out hrl _ rfl).mono ?_
        rintro e w5 ⟨v5, rfl, h5, hb5⟩
        have H5 := hid_of h5
        have HB5 := hid_of hb5
        clear h5 hb5
        by_cases hz : okZ L
        · have HD : Hid (decide (okZ L) = true) := decide_eq_true hz
          have HOF : Hid (OfAt w w5 v5 (headD kind l.length ++ sampsD (l.take k) ++ residD L)) := (H5.out hz).low HB4.out
          rw [HD.out]
          go_wp2_with fail
          go_ret2
          rw [HFF.out, if_pos hz]
          exact ⟨_, rfl, HOF.out⟩
        · have HD : Hid (decide (okZ L) = false) := decide_eq_false hz
          rw [HD.out]
          go_wp2_with fail
          go_ret2
          rw [HFF.out, if_neg hz]
          exact ⟨_, rfl, HB4.out.trans (HB5.out.mono HB4.out.size)⟩

end Go.Proofs.Ythkfaackkcdcoaa

/- The document's own digits of a frame: LPC, and any kind. -/
namespace Go.Proofs.Ythkfaackkcdcoaa
set_option linter.unusedVariables false
set_option linter.unusedSimpArgs false
open Go.RowKit Dg

set_option maxRecDepth 100000 in
set_option maxHeartbeats 8000000 in
theorem dig_lpc (w : World) (kind : Int) (n s : Nat) (a : Option Addr) (cap : Nat) (l c : List Int) (ok : Bool) (hl : Ns w a cap l) (hm : mayX l) (h7 : 7 ≤ kind) (h18 : kind ≤ 18) (hkn : kind - 6 = (n : Int)) (hs : IsShift (autoZ l 0) s) (hR : (c, ok) = coOut l (n : Int) s) (F : Option (List Bool))
    (hF : F = if ok = true then (if okZ (lresidZ l c) then some (headD kind l.length ++ sampsD (l.take n) ++ coefsD c ++ residD (lresidZ l c)) else none) else none) :
    Calls Try.prog 32 #[.int .i64 kind, .slice a l.length cap] w fun e w' => DigAt w w' F e := by
  have HL := hid_of hl
  have HT := hid_of (mayZ_of hm)
  have HS := hid_of hm.2.2
  have hl1 : 1 ≤ l.length := hm.1
  have hl64 : l.length ≤ 64 := hm.2.1
  have HF := hid_of hF
  have HR := hid_of hR
  have HSH : Hid (allS l → l.length ≤ 64 → IsShift (autoZ l 0) s) := fun _ _ => hs
  have hkb0 : (kind == 0) = false := beq_eq_false_iff_ne.2 (by omega)
  have hkb1 : (kind == 1) = false := beq_eq_false_iff_ne.2 (by omega)
  clear hl hm hF hR hs
  go_enter Try.func32, Try.ntmps32
  go_wp2_with (go_at_call 34; refine (rmay_any _ _ _ _ HL.out.at_ (by omega) 0 HT.out).mono ?_; rintro e w1 ⟨rfl, rfl⟩)
  refine (rput_of w _ [] kind 8 (BtAt.none w) (by simp) (by decide) _ rfl).mono ?_
  rintro e w1 ⟨v1, rfl, h1⟩
  have H1 := hid_of h1
  clear h1
  go_wp2_with fail
  refine (rput_of w1 v1 _ (l.length : Int) 8 H1.out.bt (by simp) (by decide) (headD kind l.length) (by simp [headD])).mono ?_
  rintro e w2 ⟨v2, rfl, h2'⟩
  have H2 : Hid (OfAt w w2 v2 (headD kind l.length)) := h2'.low H1.out.2
  have HL2 : Hid (Ns w2 a cap l) := HL.out.mono H2.out.2
  clear h2' H1
  go_wp2_with fail
  refine (rco_any w2 a cap l _ s HL2.out.at_ (by omega) HSH.out _ HR.out).mono ?_
  rintro e w3 ⟨a3, c3, rfl, hn3, hb3⟩
  have HN3 := hid_of hn3
  have HB3 : Hid (Below w.heap.size w w3) := H2.out.2.trans (hb3.mono H2.out.2.size)
  have HBT3 : Hid (BtAt w3 v2 (headD kind l.length)) := H2.out.bt.below hb3
  have HL3 : Hid (Ns w3 a cap l) := HL2.out.mono hb3
  clear hb3 hn3 HL2
  cases ok with
  | false =>
    have HN : Hid (F = none) := by show _ = _; rw [HF.out]; simp
    go_wp2_with fail
    go_ret2
    rw [HN.out]
    exact ⟨_, rfl, HB3.out⟩
  | true =>
    obtain ⟨g1, g2, g3, g4, g5⟩ := coOut_true HR.out.symm
    have HFF : Hid (F = if okZ (lresidZ l c) then some (headD kind l.length ++ sampsD (l.take n) ++ coefsD c ++ residD (lresidZ l c)) else none) := by show _ = _; rw [HF.out, if_pos rfl]
    have HCN : Hid (c.length = n) := by show _ = _; omega
    have HCC := hid_of g4
    have hc12 : c.length ≤ 12 := by omega
    have hcl : c.length < l.length := by omega
    obtain ⟨L, hLe⟩ : ∃ L, L = lresidZ l c := ⟨_, rfl⟩
    have HLR : Hid ((L, 0) = lresOut l c) := by show _ = _; rw [hLe]; exact lresOut_ok l c ⟨by omega, by omega, g4⟩ (by omega) hl64 HS.out
    have hrl : L.length ≤ 1000 := by rw [hLe]; simp; omega
    rw [← hLe] at HFF
    clear hLe
    clear g1 g2 g3 g4 g5
    go_wp2_with fail
    refine (rlresid_any w3 a a3 cap c3 l c HL3.out HN3.out (by omega) (by omega) _ HLR.out).mono ?_
    rintro e w4 hg
    obtain ⟨a4, c4, rfl, -, hn4, hb4⟩ := hg.ok
    have HN4 := hid_of hn4.at_
    have HB4 : Hid (Below w.heap.size w w4) := HB3.out.trans (hb4.mono HB3.out.size)
    have HBT4 : Hid (BtAt w4 v2 (headD kind l.length)) := HBT3.out.below hb4
    have HC4 : Hid (IntsAt w4 a3 c) := HN3.out.mono hb4
    clear hg hb4 hn4 HN3 HBT3 HL3 HB3
    go_wp2_with fail
    go_loopw [6, 131] (fun v i wr => ∃ k : Nat, k ≤ c.length ∧ i = .int .i64 (k : Int) ∧ Hid (BtAt wr v (headD kind l.length ++ sampsD (l.take k))) ∧ Hid (Below w4.heap.size w4 wr)) (fun _ i _ => c.length - (intOf i).toNat)
    case atStart => exact ⟨0, Nat.zero_le _, rfl, by show BtAt _ _ _; simpa using HBT4.out, Below.refl _ _⟩
    case round =>
      obtain ⟨k, hk, rfl, hbt, hb⟩ := hrel
      have HB5 : Hid (Below w.heap.size w wr) := HB4.out.trans (hb.out.mono HB4.out.size)
      by_cases hkn' : k < c.length
      · obtain ⟨x, hx⟩ : ∃ x, l[k]? = some x := ⟨l[k]'(by omega), by simp⟩
        obtain ⟨b, off, rfl, hc⟩ := HL.out.at_.mono HB5.out k x hx
        have HXS := hid_of (HS.out x (List.mem_of_getElem? hx))
        have HE : Hid (headD kind l.length ++ sampsD (l.take (k + 1)) = headD kind l.length ++ sampsD (l.take k) ++ sampD x) := by
          show _ = _
          rw [take_next l k x hx, sampsD_snoc, List.append_assoc]
        have hlen : (headD kind l.length ++ sampsD (l.take k)).length ≤ 1000000 := by simp; omega
        have hkl : k < l.length := by omega
        clear hx
        go_wp2_with fail
        refine (rsample_any wr _ _ x hbt.out hlen HXS.out _ HE.out).mono ?_
        rintro e w6 ⟨v6, rfl, h6⟩
        have H6 : Hid (BtAt w6 v6 (headD kind l.length ++ sampsD (l.take (k + 1)))) := h6.bt
        have HB6 : Hid (Below w4.heap.size w4 w6) := hb.out.trans (h6.2.mono hb.out.size)
        clear h6
        go_wp2_with fail
        exact ⟨⟨k + 1, by omega, by go_num, H6, HB6⟩, by (simp [intOf]) <;> omega⟩
      · have e : k = c.length := by omega
        subst e
        have HBT5 := hid_of hbt.out
        have HB45 := hid_of hb.out
        clear hbt hb hk hkn'
        go_wp2_with fail
        go_loopw [6, 143] (fun v i ws => ∃ k : Nat, k ≤ c.length ∧ i = .int .i64 (k : Int) ∧ Hid (BtAt ws v (headD kind l.length ++ sampsD (l.take c.length) ++ coefsD (c.take k))) ∧ Hid (Below w4.heap.size w4 ws)) (fun _ i _ => c.length - (intOf i).toNat)
        case atStart => exact ⟨0, Nat.zero_le _, rfl, by show BtAt _ _ _; simpa using HBT5.out, HB45.out⟩
        case round =>
          obtain ⟨k, hk, rfl, hbt, hb⟩ := hrel
          have HB6 : Hid (Below w.heap.size w wr) := HB4.out.trans (hb.out.mono HB4.out.size)
          by_cases hkn' : k < c.length
          · obtain ⟨x, hx⟩ : ∃ x, c[k]? = some x := ⟨c[k], by simp [hkn']⟩
            obtain ⟨b, off, rfl, hc⟩ := HC4.out.mono hb.out k x hx
            obtain ⟨hx1, hx2⟩ := HCC.out x (List.mem_of_getElem? hx)
            have HE : Hid (headD kind l.length ++ sampsD (l.take c.length) ++ coefsD (c.take (k + 1)) = headD kind l.length ++ sampsD (l.take c.length) ++ coefsD (c.take k) ++ dig (x + 32768) 16) := by
              show _ = _
              rw [take_next c k x hx, coefsD_snoc]
              simp only [List.append_assoc]
              rfl
            have hlen : (headD kind l.length ++ sampsD (l.take c.length) ++ coefsD (c.take k)).length ≤ 1000000 := by simp; omega
            clear hx
            go_wp2_with fail
            refine (rput_of wr _ _ (x + 32768) 16 hbt.out hlen (by decide) _ HE.out).mono ?_
            rintro e w6 ⟨v6, rfl, h6⟩
            have H6 : Hid (BtAt w6 v6 (headD kind l.length ++ sampsD (l.take c.length) ++ coefsD (c.take (k + 1)))) := h6.bt
            have HB7 : Hid (Below w4.heap.size w4 w6) := hb.out.trans (h6.2.mono hb.out.size)
            clear h6
            go_wp2_with fail
            exact ⟨⟨k + 1, by omega, by go_num, H6, HB7⟩, by (simp [intOf]) <;> omega⟩
          · have e : k = c.length := by omega
            obtain ⟨E, hE⟩ : ∃ E, E = headD kind l.length ++ sampsD (l.take n) ++ coefsD c := ⟨_, rfl⟩
            have HBE : Hid (BtAt wr u6 E) := by
              have h1 := hbt.out
              rw [e, List.take_length, HCN.out] at h1
              rw [hE]; exact h1
            have hlen : E.length ≤ 100000 := by rw [hE]; simp; omega
            rw [← hE] at HFF
            subst e
            have HN5 : Hid (IntsAt wr a4 L) := HN4.out.mono hb.out
            clear hE hbt
            go_wp2_with fail
            refine (rresiduals_any wr _ E a4 c4 L HBE.out hlen HN5.out hrl _ rfl).mono ?_
            rintro e w7 ⟨v7, rfl, h7', hb7⟩
            have H7 := hid_of h7'
            have HB7 := hid_of hb7
            clear h7' hb7
            by_cases hz : okZ L
            · have HD : Hid (decide (okZ L) = true) := decide_eq_true hz
              have HOF : Hid (OfAt w w7 v7 (E ++ residD L)) := (H7.out hz).low HB6.out
              rw [HD.out]
              go_wp2_with fail
              go_ret2
              rw [HFF.out, if_pos hz]
              exact ⟨_, rfl, HOF.out⟩
            · have HD : Hid (decide (okZ L) = false) := decide_eq_false hz
              rw [HD.out]
              go_wp2_with fail
              go_ret2
              rw [HFF.out, if_neg hz]
              exact ⟨_, rfl, HB6.out.trans (HB7.out.mono HB6.out.size)⟩

/-- digits of any kind. -/
theorem dig_any (w : World) (kind : Int) (s : Nat) (a : Option Addr) (cap : Nat) (l : List Int) (hl : Ns w a cap l) (hll : l.length ≤ 1000000) (hs : mayX l → IsShift (autoZ l 0) s) :
    Calls Try.prog 32 #[.int .i64 kind, .slice a l.length cap] w fun e w' => DigAt w w' (frm kind l s) e := by
  by_cases hk : ¬ mayX l ∨ kind < 0 ∨ 18 < kind
  · have e : frm kind l s = none := by unfold frm; rw [if_pos hk]
    rw [e]
    exact dig_bad w kind a cap l hl.at_ hll hk
  have hm : mayX l := by
    by_cases hm : mayX l
    · exact hm
    · exact absurd (Or.inl hm) hk
  by_cases h0 : kind = 0
  · have e : frm kind l s = if allOne l then some (headD 0 l.length ++ sampD (l.getD 0 0)) else none := by unfold frm; rw [if_neg hk, if_pos h0, h0]
    subst h0
    exact dig_const w a cap l hl.at_ hm _ e
  by_cases h1 : kind = 1
  · have e : frm kind l s = some (headD 1 l.length ++ sampsD l) := by unfold frm; rw [if_neg hk, if_neg h0, if_pos h1, h1]
    rw [e]
    subst h1
    exact dig_verb w a cap l hl.at_ hm
  by_cases h6 : kind ≤ 6
  · obtain ⟨n, hn⟩ : ∃ n : Nat, kind - 2 = (n : Int) := ⟨(kind - 2).toNat, by omega⟩
    refine dig_fixed w kind n a cap l hl hm (by omega) h6 hn _ ?_
    unfold frm
    rw [if_neg hk, if_neg h0, if_neg h1, if_pos h6, hn, Int.toNat_natCast]
    by_cases h : l.length < n
    · rw [if_pos h, if_pos (by omega)]
    · rw [if_neg h, if_neg (by omega)]
  · obtain ⟨n, hn⟩ : ∃ n : Nat, kind - 6 = (n : Int) := ⟨(kind - 6).toNat, by omega⟩
    refine dig_lpc w kind n s a cap l (coOut l (n : Int) s).1 (coOut l (n : Int) s).2 hl hm (by omega) (by omega) hn (hs hm) rfl _ ?_
    unfold frm
    rw [if_neg hk, if_neg h0, if_neg h1, if_neg h6, hn, Int.toNat_natCast]

end Go.Proofs.Ythkfaackkcdcoaa
