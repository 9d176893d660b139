/- The texts Lev1, Lev2, Lev3, Lev4, LevSym, one behind the other. -/
import Derived.Test.YthkfaackkcdcoabPart06

/- The small functions of levin: which numbers may be, quotients, a step. -/
namespace Go.Proofs.Ythkfaackkcdcoab
set_option linter.unusedVariables false
set_option linter.unusedSimpArgs false
open Go.RowKit Dg

set_option maxHeartbeats 1000000 in
theorem vare_any (w : World) (a : Option Addr) (cap : Nat) (l : List Int) (h : IntsAt w a l) (hl : l.length ≤ 1000000) (t : Bool) (ht : t = decide (allS l)) :
    Calls Try.prog 107 #[.slice a l.length cap] w fun e w' => e = .returned (.bool t) ∧ w = w' := by
  have H : Hid (IntsAt w a l) := h
  have HT : Hid (t = decide (allS l)) := ht
  clear h ht
  go_enter Try.func107, Try.ntmps107
  go_wp2
  go_loopw [7] (fun i wr => ∃ k : Nat, k ≤ l.length ∧ i = .int .i64 k ∧ Hid (allS (l.take k)) ∧ w = wr) (fun i _ => l.length - (intOf i).toNat)
  case atStart => exact ⟨0, Nat.zero_le _, rfl, fun x hx => by simp at hx, rfl⟩
  case round =>
    obtain ⟨k, hk, rfl, hall, rfl⟩ := hrel
    by_cases hkn : k < l.length
    · obtain ⟨x, hx⟩ : ∃ x, l[k]? = some x := ⟨l[k], by simp [hkn]⟩
      obtain ⟨b, off, rfl, hc⟩ := H.out k x hx
      have HX : Hid (l[k]? = some x) := hx
      clear hx
      have hbad : ¬ isS x → t = false := fun hn => by
        rw [HT.out]
        exact decide_eq_false (fun ha => hn (ha x (List.mem_of_getElem? HX.out)))
      by_cases hlo : x < -8388608
      · have ht := hbad (by unfold isS; omega)
        subst ht
        clear hbad
        go_wp2_with fail
        go_ret
        exact ⟨rfl, rfl⟩
      · by_cases hhi : 8388607 < x
        · have ht := hbad (by unfold isS; omega)
          subst ht
          clear hbad
          go_wp2_with fail
          go_ret
          exact ⟨rfl, rfl⟩
        · clear hbad
          go_wp2_with fail
          refine ⟨⟨k + 1, by omega, by go_num, ?_, by trivial⟩, by (simp [intOf]) <;> omega⟩
          show allS _
          rw [take_next l k x HX.out]
          exact hall.out.snoc (by unfold isS; omega)
    · have e : k = l.length := by omega
      subst e
      have ht : t = true := by
        have := hall.out
        rw [List.take_length] at this
        rw [HT.out]; exact decide_eq_true this
      subst ht
      go_wp2_with fail
      go_ret
      exact ⟨rfl, rfl⟩

set_option maxHeartbeats 1000000 in
theorem vsmall_any (w : World) (a : Option Addr) (cap : Nat) (l : List Int) (h : IntsAt w a l) (hl : l.length ≤ 1000000) (t : Bool) (ht : t = decide (allB l)) :
    Calls Try.prog 108 #[.slice a l.length cap] w fun e w' => e = .returned (.bool t) ∧ w = w' := by
  have H : Hid (IntsAt w a l) := h
  have HT : Hid (t = decide (allB l)) := ht
  clear h ht
  go_enter Try.func108, Try.ntmps108
  go_wp2
  go_loopw [7] (fun i wr => ∃ k : Nat, k ≤ l.length ∧ i = .int .i64 k ∧ Hid (allB (l.take k)) ∧ w = wr) (fun i _ => l.length - (intOf i).toNat)
  case atStart => exact ⟨0, Nat.zero_le _, rfl, fun x hx => by simp at hx, rfl⟩
  case round =>
    obtain ⟨k, hk, rfl, hall, rfl⟩ := hrel
    by_cases hkn : k < l.length
    · obtain ⟨x, hx⟩ : ∃ x, l[k]? = some x := ⟨l[k], by simp [hkn]⟩
      obtain ⟨b, off, rfl, hc⟩ := H.out k x hx
      have HX : Hid (l[k]? = some x) := hx
      clear hx
      have hbad : ¬ isB x → t = false := fun hn => by
        rw [HT.out]
        exact decide_eq_false (fun ha => hn (ha x (List.mem_of_getElem? HX.out)))
      by_cases hlo : x < -1152921504606846976
      · have ht := hbad (by unfold isB; omega)
        subst ht
        clear hbad
        go_wp2_with fail
        go_ret
        exact ⟨rfl, rfl⟩
      · by_cases hhi : 1152921504606846976 < x
        · have ht := hbad (by unfold isB; omega)
          subst ht
          clear hbad
          go_wp2_with fail
          go_ret
          exact ⟨rfl, rfl⟩
        · clear hbad
          go_wp2_with fail
          refine ⟨⟨k + 1, by omega, by go_num, ?_, by trivial⟩, by (simp [intOf]) <;> omega⟩
          show allB _
          rw [take_next l k x HX.out]
          exact hall.out.snoc (by unfold isB; omega)
    · have e : k = l.length := by omega
      subst e
      have ht : t = true := by
        have := hall.out
        rw [List.take_length] at this
        rw [HT.out]; exact decide_eq_true this
      subst ht
      go_wp2_with fail
      go_ret
      exact ⟨rfl, rfl⟩

set_option maxHeartbeats 1000000 in
theorem vcoefs_any (w : World) (a : Option Addr) (cap : Nat) (l : List Int) (h : IntsAt w a l) (hl : l.length ≤ 1000000) (t : Bool) (ht : t = decide (allC l)) :
    Calls Try.prog 97 #[.slice a l.length cap] w fun e w' => e = .returned (.bool t) ∧ w = w' := by
  have H : Hid (IntsAt w a l) := h
  have HT : Hid (t = decide (allC l)) := ht
  clear h ht
  go_enter Try.func97, Try.ntmps97
  go_wp2
  go_loopw [7] (fun i wr => ∃ k : Nat, k ≤ l.length ∧ i = .int .i64 k ∧ Hid (allC (l.take k)) ∧ w = wr) (fun i _ => l.length - (intOf i).toNat)
  case atStart => exact ⟨0, Nat.zero_le _, rfl, fun x hx => by simp at hx, rfl⟩
  case round =>
    obtain ⟨k, hk, rfl, hall, rfl⟩ := hrel
    by_cases hkn : k < l.length
    · obtain ⟨x, hx⟩ : ∃ x, l[k]? = some x := ⟨l[k], by simp [hkn]⟩
      obtain ⟨b, off, rfl, hc⟩ := H.out k x hx
      have HX : Hid (l[k]? = some x) := hx
      clear hx
      have hbad : ¬ isC x → t = false := fun hn => by
        rw [HT.out]
        exact decide_eq_false (fun ha => hn (ha x (List.mem_of_getElem? HX.out)))
      by_cases hlo : x < -32768
      · have ht := hbad (by unfold isC; omega)
        subst ht
        clear hbad
        go_wp2_with fail
        go_ret
        exact ⟨rfl, rfl⟩
      · by_cases hhi : 32767 < x
        · have ht := hbad (by unfold isC; omega)
          subst ht
          clear hbad
          go_wp2_with fail
          go_ret
          exact ⟨rfl, rfl⟩
        · clear hbad
          go_wp2_with fail
          refine ⟨⟨k + 1, by omega, by go_num, ?_, by trivial⟩, by (simp [intOf]) <;> omega⟩
          show allC _
          rw [take_next l k x HX.out]
          exact hall.out.snoc (by unfold isC; omega)
    · have e : k = l.length := by omega
      subst e
      have ht : t = true := by
        have := hall.out
        rw [List.take_length] at this
        rw [HT.out]; exact decide_eq_true this
      subst ht
      go_wp2_with fail
      go_ret
      exact ⟨rfl, rfl⟩

theorem floor_low {n d : Int} (hd : 0 < d) (h : n.tmod d < 0) : n.tdiv d - 1 = n / d := by
  have h1 := Int.mul_tdiv_add_tmod n d
  have h2 := Int.tmod_lt_of_pos n hd
  have h3 : -d < n.tmod d := by
    have := Int.neg_tmod n d
    have h4 := Int.tmod_lt_of_pos (-n) hd
    omega
  have h5 : d * (n.tdiv d - 1) = d * n.tdiv d - d := by rw [Int.mul_sub, Int.mul_one]
  exact (((Int.ediv_emod_unique hd (r := n.tmod d + d) (q := n.tdiv d - 1)).2 ⟨by omega, by omega, by omega⟩).1).symm
theorem floor_up {n d : Int} (hd : 0 < d) (h : 0 ≤ n.tmod d) : n.tdiv d = n / d := by
  have h1 := Int.mul_tdiv_add_tmod n d
  have h2 := Int.tmod_lt_of_pos n hd
  exact (((Int.ediv_emod_unique hd (r := n.tmod d) (q := n.tdiv d)).2 ⟨by omega, by omega, by omega⟩).1).symm
theorem div_in {n d M : Int} (hd : 1 ≤ d) (h1 : -M ≤ n) (h2 : n ≤ M) : -M ≤ n / d ∧ n / d ≤ M := by
  constructor
  · rw [Int.le_ediv_iff_mul_le (by omega)]
    have := Int.mul_le_mul_of_nonneg_left hd (show (0 : Int) ≤ M by omega)
    have h3 : -M * d = -(M * d) := by rw [Int.neg_mul]
    omega
  · rw [← Int.lt_add_one_iff, Int.ediv_lt_iff_lt_mul (by omega)]
    have := Int.mul_le_mul_of_nonneg_left hd (show (0 : Int) ≤ M + 1 by omega)
    omega
set_option maxHeartbeats 1000000 in
theorem vfloor_any (w : World) (n d g : Int) (hn1 : -4611686018427387904 ≤ n) (hn2 : n ≤ 4611686018427387904) (hd : 1 ≤ d) (hd2 : d ≤ 4611686018427387904) (hg : n / d = g) :
    Calls Try.prog 109 #[.int .i64 n, .int .i64 d] w fun e w' => e = .returned (.int .i64 g) ∧ w = w' := by
  have HG := hid_of hg
  have hb := div_in hd hn1 hn2
  rw [hg] at hb
  clear hg
  have hd0 : d ≠ 0 := by omega
  have hdn : d ≠ -1 := by omega
  by_cases hm : n.tmod d < 0
  · have HT : Hid (n.tdiv d - 1 = g) := by show _ = _; rw [← HG.out]; exact floor_low (by omega) hm
    have hq : n.tdiv d = g + 1 := by have := HT.out; omega
    go_enter Try.func109, Try.ntmps109
    go_wp2_with fail
    go_ret
    exact ⟨rfl, rfl⟩
  · have HT : Hid (n.tdiv d = g) := by show _ = _; rw [← HG.out]; exact floor_up (by omega) (by omega)
    have hq : n.tdiv d = g := HT.out
    go_enter Try.func109, Try.ntmps109
    go_wp2_with fail
    go_ret
    exact ⟨rfl, rfl⟩
set_option maxHeartbeats 1000000 in
theorem rdown2_any (w : World) (n d g : Int) (hn1 : -4611686018427387904 ≤ n) (hn2 : n ≤ 4611686018427387904) (hd : 1 ≤ d) (hd2 : d ≤ 4611686018427387904) (hg : n / d = g) :
    Calls Try.prog 71 #[.int .i64 n, .int .i64 d] w fun e w' => e = .returned (.int .i64 g) ∧ w = w' := by
  have HG := hid_of hg
  have hb := div_in hd hn1 hn2
  rw [hg] at hb
  clear hg
  have hd0 : d ≠ 0 := by omega
  have hdn : d ≠ -1 := by omega
  by_cases h0 : 0 ≤ n
  · have hq : n.tdiv d = g := by rw [← HG.out]; exact floor_up (by omega) (Int.tmod_nonneg d h0)
    go_enter Try.func71, Try.ntmps71
    go_wp2_with fail
    all_goals
      go_ret
      exact ⟨rfl, rfl⟩
  · have hneg : n < 0 := by omega
    by_cases hm : n.tmod d = 0
    · have hq : n.tdiv d = g := by rw [← HG.out]; exact floor_up (by omega) (by omega)
      have hmb : (n.tmod d != 0) = false := by simpa using hm
      go_enter Try.func71, Try.ntmps71
      go_wp2_with fail
      go_ret
      exact ⟨rfl, rfl⟩
    · have hm2 : n.tmod d < 0 := by
        have := Int.tmod_nonneg d (show 0 ≤ -n by omega)
        rw [Int.neg_tmod] at this
        omega
      have hq : n.tdiv d = g + 1 := by have h1 := floor_low (n := n) (d := d) (by omega) hm2; rw [HG.out] at h1; omega
      have hmb : (n.tmod d != 0) = true := by simpa using hm
      go_enter Try.func71, Try.ntmps71
      go_wp2_with fail
      go_ret
      exact ⟨rfl, rfl⟩

end Go.Proofs.Ythkfaackkcdcoab

/- A step of levin: turn, turned. -/
namespace Go.Proofs.Ythkfaackkcdcoab
set_option linter.unusedVariables false
set_option linter.unusedSimpArgs false
open Go.RowKit Dg

theorem owni_cell {w : World} {base g n c : Nat} {l : List Int} {j : Nat} {x : Int} (h : OwnInts w base (.slice (some ⟨g, 0, none⟩) n c) l) (hx : l[j]? = some x) :
    w.cell? ⟨g, j, none⟩ = some (.int .i64 x) ∧ w.frozen? ⟨g, j, none⟩ = false := by
  have hj : j < l.length := (List.getElem?_eq_some_iff.1 hx).1
  rcases h.2 with ⟨e1, e2⟩ | ⟨g', cap', cur, hv, hgb, hh, hncap, _, hcs, htake⟩
  · cases e1
  · cases hv
    refine ⟨?_, by simp [World.frozen?, hh]⟩
    have e : (i64s l)[j]? = some (.int .i64 x) := by rw [i64s_get, hx]; rfl
    rw [← htake, List.getElem?_take, if_pos (by omega)] at e
    simp only [World.cell?, hh]
    simpa using e
theorem i64s_set (l : List Int) (k : Nat) (x : Int) : (i64s l).set k (.int .i64 x) = i64s (l.set k x) := by simp [i64s]
theorem OwnInts.len {w : World} {base g n c : Nat} {l : List Int} (h : OwnInts w base (.slice (some ⟨g, 0, none⟩) n c) l) : n = l.length := by
  rcases h.2 with ⟨e1, _⟩ | ⟨g', cap', cur, hv, _⟩
  · cases e1
  · cases hv; rfl
theorem OwnInts.set {w : World} {base g n c : Nat} {l : List Int} (h : OwnInts w base (.slice (some ⟨g, 0, none⟩) n c) l) (j : Nat) (y : Int) (hj : j < n) :
    OwnInts (w.setCell ⟨g, j, none⟩ (.int .i64 y)) base (.slice (some ⟨g, 0, none⟩) n c) (l.set j y) := by
  have e := h.len
  subst e
  show World.ownsRow _ _ _ _ _ _ _
  rw [← i64s_set, List.length_set]
  exact ownsRow_set h j hj _
/-- A row of noughts whose first numbers are laid. -/
def filled (T : List Int) (N k : Nat) : List Int := T.take k ++ List.replicate (N - k) 0
theorem length_filled {T : List Int} {N k : Nat} (hT : T.length = N) (hk : k ≤ N) : (filled T N k).length = N := by simp [filled]; omega
theorem filled_set {T : List Int} {N k : Nat} {y : Int} (hT : T.length = N) (hy : T[k]? = some y) : (filled T N k).set k y = filled T N (k + 1) := by
  have hk : k < T.length := (List.getElem?_eq_some_iff.1 hy).1
  unfold filled
  have e : N - k = (N - (k + 1)) + 1 := by omega
  have hl : (T.take k).length = k := by simp; omega
  rw [e, List.replicate_succ, List.set_append_right _ _ (by omega), hl, Nat.sub_self, List.set_cons_zero, take_next T k y hy]
  simp
theorem filled_same {T : List Int} {N k : Nat} (hT : T.length = N) (hk : k < N) : (filled T N k).set k 0 = filled T N k := by
  unfold filled
  have e : N - k = (N - (k + 1)) + 1 := by omega
  have hl : (T.take k).length = k := by simp; omega
  rw [e, List.replicate_succ, List.set_append_right _ _ (by omega), hl, Nat.sub_self, List.set_cons_zero]
theorem filled_get {T : List Int} {N k : Nat} (hT : T.length = N) (hk : k < N) : (filled T N k)[k]? = some 0 := by
  unfold filled
  have hl : (T.take k).length = k := by simp; omega
  rw [List.getElem?_append_right (by omega), hl, Nat.sub_self]
  have e : N - k = (N - (k + 1)) + 1 := by omega
  rw [e, List.replicate_succ]
  rfl
theorem filled_zero (T : List Int) (N : Nat) : filled T N 0 = List.replicate N 0 := by simp [filled]
theorem filled_end {T : List Int} {N : Nat} (hT : T.length = N) : filled T N N = T := by
  unfold filled
  rw [Nat.sub_self, List.take_of_length_le (by omega)]
  simp

set_option maxHeartbeats 2000000 in
theorem vturn_any (w : World) (a ra : Option Addr) (n m cap rc : Nat) (cs r : List Int) (e k : Int) (hn : cs.length = n) (hm : r.length = m) (h : IntsAt w a cs) (hr : IntsAt w ra r) (h12 : cs.length ≤ 12) (hlr : cs.length + 1 < r.length) (hlr2 : r.length ≤ 1000000)
    (hR : allR r) (hW : within cs 16777216) (he1 : 1 ≤ e) (he2 : e ≤ 1073741824) (hk : k = kOf r cs e) :
    Calls Try.prog 95 #[.slice a n cap, .slice ra m rc, .int .i64 e] w fun e w' => e = .returned (.int .i64 k) ∧ w = w' := by
  subst hn hm
  have H : Hid (IntsAt w a cs) := h
  have HR : Hid (IntsAt w ra r) := hr
  have HA : Hid (allR r) := hR
  have HW : Hid (within cs 16777216) := hW
  have HK := hid_of hk
  clear h hr hR hW hk
  obtain ⟨x0, hx0⟩ : ∃ x, r[cs.length + 1]? = some x := ⟨r[cs.length + 1], by simp [hlr]⟩
  obtain ⟨b0, o0, rfl, hc0⟩ := HR.out (cs.length + 1) x0 hx0
  have hxb := HA.out.atD (cs.length + 1)
  rw [getD_of hx0] at hxb
  obtain ⟨hxb1, hxb2⟩ := hxb
  have HX0 : Hid (x0 * 4096 = numTo r cs 0) := by show _ = _; simp only [numTo]; rw [getD_of hx0]
  clear hx0
  go_enter Try.func95, Try.ntmps95
  go_wp2_with fail
  go_loopw [8, 21] (fun s i wr => ∃ (k : Nat) (t : Int), k ≤ cs.length ∧ s = .int .i64 t ∧ i = .int .i64 k ∧ Hid (t = numTo r cs k) ∧ w = wr) (fun _ i _ => cs.length - (intOf i).toNat)
  case atStart => exact ⟨0, x0 * 4096, Nat.zero_le _, rfl, rfl, HX0.out, rfl⟩
  case round =>
    obtain ⟨j, t, hj, rfl, rfl, ht, rfl⟩ := hrel
    have htb := numTo_small HA.out HW.out j
    rw [← ht.out] at htb
    obtain ⟨ht1, ht2⟩ := htb
    have ht1' : -1152921504606846976 ≤ t := by omega
    have ht2' : t ≤ 1152921504606846976 := by omega
    clear ht1 ht2
    by_cases hjn : j < cs.length
    · obtain ⟨c, hcx⟩ : ∃ x, cs[j]? = some x := ⟨cs[j], by simp [hjn]⟩
      obtain ⟨b1, o1, rfl, hc1⟩ := H.out j c hcx
      obtain ⟨m, hm⟩ : ∃ m, m = cs.length - j := ⟨_, rfl⟩
      have hml : m < r.length := by omega
      obtain ⟨x, hx⟩ : ∃ x, r[m]? = some x := ⟨r[m], by simp [hml]⟩
      have hc2 : w.cell? ⟨b0, o0 + m, none⟩ = some (.int .i64 x) := by
        obtain ⟨b2, o2, e2, hc2⟩ := HR.out m x hx
        cases e2
        exact hc2
      have hmI : (cs.length : Int) - (j : Int) = (m : Int) := by omega
      obtain ⟨p, hp⟩ : ∃ p, p = c * x := ⟨_, rfl⟩
      have g1 := HW.out.atD (by decide) j
      have g2 := HA.out.atD m
      rw [getD_of hcx] at g1
      rw [getD_of hx] at g2
      have hp12 := ar_small g1.1 g1.2 g2.1 g2.2
      rw [← hp] at hp12
      obtain ⟨hp1, hp2⟩ := hp12
      have HP : Hid (c * x = p) := hp.symm
      have HN : Hid (t - p = numTo r cs (j + 1)) := by
        show _ = _
        simp only [numTo]
        rw [getD_of hcx, ← hm, getD_of hx, ← ht.out, hp]
      clear hm hcx hx hp g1 g2
      go_wp2_with fail
      rw [HP.out, Go.IntWalk.wrap64_in p (by omega), Go.IntWalk.wrap64_in (t - p) (by omega)]
      exact ⟨⟨j + 1, t - p, by omega, rfl, by go_num, HN, by trivial⟩, by (simp [intOf]) <;> omega⟩
    · have e0 : j = cs.length := by omega
      obtain ⟨q, hq⟩ : ∃ q, t / e = q := ⟨_, rfl⟩
      have HQ := hid_of hq
      have HKQ : Hid (k = min (max q (-4095)) 4095) := by show _ = _; rw [HK.out, ← hq, ht.out, e0]; rfl
      clear hq HK
      rcases (by omega : q < -4095 ∨ (-4095 ≤ q ∧ q ≤ 4095) ∨ 4095 < q) with h1 | ⟨h1, h2⟩ | h1
      · have e1 : k = -4095 := by have := HKQ.out; omega
        subst e1
        go_wp2_with (go_at_call 109; refine (vfloor_any _ _ _ q (by omega) (by omega) he1 (by omega) HQ.out).mono ?_; rintro e w1 ⟨rfl, rfl⟩)
        go_ret
        exact ⟨rfl, rfl⟩
      · have e1 : k = q := by have := HKQ.out; omega
        subst e1
        go_wp2_with (go_at_call 109; refine (vfloor_any _ _ _ k (by omega) (by omega) he1 (by omega) HQ.out).mono ?_; rintro e w1 ⟨rfl, rfl⟩)
        go_ret
        exact ⟨rfl, rfl⟩
      · have e1 : k = 4095 := by have := HKQ.out; omega
        subst e1
        go_wp2_with (go_at_call 109; refine (vfloor_any _ _ _ q (by omega) (by omega) he1 (by omega) HQ.out).mono ?_; rintro e w1 ⟨rfl, rfl⟩)
        go_ret
        exact ⟨rfl, rfl⟩

set_option maxHeartbeats 2000000 in
theorem vturned_any (w : World) (a : Option Addr) (n cap : Nat) (cs : List Int) (k : Int) (hn : cs.length = n) (h : IntsAt w a cs) (h12 : cs.length ≤ 12)
    (hW : within cs 16777216) (hk1 : -4095 ≤ k) (hk2 : k ≤ 4095) (T : List Int) (hT : T = turnL cs k ++ [k]) :
    Calls Try.prog 96 #[.slice a n cap, .int .i64 k] w fun e w' => ∃ v, e = .returned v ∧ OwnInts w' w.heap.size v T ∧ Below w.heap.size w w' := by
  obtain ⟨i0, hi, hz0, hz1, hz2⟩ := info_parts Try.info3
  subst hn
  have H : Hid (IntsAt w a cs) := h
  have HW : Hid (within cs 16777216) := hW
  have HT := hid_of hT
  obtain ⟨N, hN⟩ : ∃ N, N = cs.length + 1 := ⟨_, rfl⟩
  have HTL : Hid (T.length = N) := by show _ = _; rw [hT]; simp [hN]
  have hNI : (cs.length : Int) + 1 = (N : Int) := by omega
  have hcN : cs.length < N := by omega
  have hN13 : N ≤ 13 := by omega
  have HTG : Hid (∀ j, j < cs.length → T[j]? = some (cs.getD j 0 - k * cs.getD (cs.length - 1 - j) 0 / 4096)) := by
    intro j hj
    rw [hT, List.getElem?_append_left (by simpa using hj)]
    exact turnL_get cs k hj
  have HTE : Hid (T[cs.length]? = some k) := by
    show _ = _
    rw [hT, List.getElem?_append_right (by simp)]
    simp
  clear h hW hT
  have HNE : Hid (N = cs.length + 1) := hN
  clear hN
  go_enter Try.func96, Try.ntmps96
  go_wp2_with (at_make; go_must (refine wpList_make_full _ rfl _ _ 24 rfl w.heap.size 3 i0 (.int .i64 0) 1 Try.underlying24 hi hz0 hz1 _ _ _ _ N rfl rfl rfl rfl (by rw [hz2]; omega) (by unfold maxLen; omega) (Nat.le_refl _) ?_))
  intro w1 hown hgr
  have HB1 : Hid (Below w.heap.size w w1) := (Below.refl _ _).grown hgr (Nat.le_refl _) (fun k hk => by cases hk)
  have HO1 : Hid (OwnInts w1 w.heap.size (.slice (some ⟨w.heap.size, 0, none⟩) N N) (filled T N 0)) := by
    show World.ownsRow _ _ _ _ _ _ _
    rw [filled_zero]
    have e := madeI N
    rw [Nat.mul_one] at e
    rw [← e, List.length_replicate]; exact hown
  obtain ⟨g, hg⟩ : ∃ g, g = w.heap.size := ⟨_, rfl⟩
  have HG : Hid (w.heap.size ≤ g) := by rw [hg]; exact Nat.le_refl _
  rw [← hg] at HO1 ⊢
  have HGE : Hid (g = w.heap.size) := hg
  clear hown hgr hg
  go_wp2_with fail
  go_loopw [16] (fun i wr => ∃ j : Nat, j ≤ cs.length ∧ i = .int .i64 (j : Int) ∧ Hid (OwnInts wr g (.slice (some ⟨g, 0, none⟩) N N) (filled T N j)) ∧ Hid (Below w.heap.size w wr)) (fun i _ => cs.length - (intOf i).toNat)
  case atStart => exact ⟨0, Nat.zero_le _, rfl, HO1.out, HB1.out⟩
  case round =>
    obtain ⟨j, hj, rfl, ho, hb⟩ := hrel
    by_cases hjn : j < cs.length
    · obtain ⟨c, hcx⟩ : ∃ x, cs[j]? = some x := ⟨cs[j], by simp [hjn]⟩
      obtain ⟨b1, o1, rfl, hc1⟩ := H.out.mono hb.out j c hcx
      obtain ⟨m, hm⟩ : ∃ m, m = cs.length - 1 - j := ⟨_, rfl⟩
      have hml : m < cs.length := by omega
      obtain ⟨x, hx⟩ : ∃ x, cs[m]? = some x := ⟨cs[m], by simp [hml]⟩
      have hc2 : wr.cell? ⟨b1, o1 + m, none⟩ = some (.int .i64 x) := by
        obtain ⟨b2, o2, e2, hc2⟩ := H.out.mono hb.out m x hx
        cases e2
        exact hc2
      have hmI : (cs.length : Int) - 1 - (j : Int) = (m : Int) := by omega
      have hjN : j < N := by omega
      obtain ⟨hrc, hrf⟩ := owni_cell ho.out (filled_get HTL.out hjN)
      obtain ⟨p, hp⟩ : ∃ p, p = k * x := ⟨_, rfl⟩
      have g1 := HW.out.atD (by decide) j
      have g2 := HW.out.atD (by decide) m
      rw [getD_of hcx] at g1
      rw [getD_of hx] at g2
      have hp12 := ka_small hk1 hk2 g2.1 g2.2
      rw [← hp] at hp12
      obtain ⟨hp1, hp2⟩ := hp12
      obtain ⟨g11, g12⟩ := g1
      have HP : Hid (k * x = p) := hp.symm
      have hTj := HTG.out j hjn
      rw [getD_of hcx, ← hm, getD_of hx, ← hp] at hTj
      have HTJ := hid_of hTj
      clear hm hcx hx hp g2 hTj
      go_wp2_with fail
      rw [HP.out, Go.IntWalk.wrap64_in p (by omega), Go.IntWalk.wrap64_in (c - p / 4096) (by omega)]
      refine ⟨⟨j + 1, by omega, by go_num, ?_, hb.out.setCell (by show _ ≤ g; exact HG.out) _⟩, by (simp [intOf]) <;> omega⟩
      show OwnInts _ _ _ _
      rw [← filled_set HTL.out HTJ.out]
      exact ho.out.set j _ hjN
    · have e0 : j = cs.length := by omega
      subst e0
      obtain ⟨hrc, hrf⟩ := owni_cell ho.out (filled_get HTL.out hcN)
      go_wp2_with fail
      go_ret
      refine ⟨_, rfl, ?_, hb.out.setCell (by show _ ≤ g; exact HG.out) _⟩
      have h1 := ho.out.set cs.length k hcN
      rw [filled_set HTL.out HTE.out, ← HNE.out, filled_end HTL.out] at h1
      rw [← HGE.out]
      exact h1

end Go.Proofs.Ythkfaackkcdcoab

/- Auto and Scaled of levin. -/
namespace Go.Proofs.Ythkfaackkcdcoab
set_option linter.unusedVariables false
set_option linter.unusedSimpArgs false
open Go.RowKit Dg

theorem set_get {l : List Int} {k : Nat} {y : Int} (h : k < l.length) : (l.set k y)[k]? = some y := by simp [h]
theorem corr_next {x : List Int} {k m i : Nat} {a b : Int} (hi : i = k + m) (ha : x[i]? = some a) (hb : x[m]? = some b) : corr x k (m + 1) = corr x k m + a * b := by
  simp only [corr]
  rw [← hi, getD_of ha, getD_of hb]

set_option maxRecDepth 100000 in
set_option maxHeartbeats 4000000 in
theorem vauto_any (w : World) (a : Option Addr) (cap : Nat) (l : List Int) (o : Int) (h : IntsAt w a l) (hl : l.length ≤ 1000000) (R : List Int × Int) (hR : R = autoOut l o) :
    Calls Try.prog 93 #[.slice a l.length cap, .int .i64 o] w fun e w' => Gave w w' R e := by
  obtain ⟨i0, hi, hz0, hz1, hz2⟩ := info_parts Try.info3
  unfold autoOut at hR
  have H : Hid (IntsAt w a l) := h
  clear h
  by_cases h1 : o < 0 ∨ 12 < o
  · rw [if_pos h1] at hR
    have HR := hid_of hR
    clear hR
    rcases (by omega : o < 0 ∨ (0 ≤ o ∧ 12 < o)) with h2 | ⟨h2, h3⟩
    all_goals
      clear h1
      go_enter Try.func93, Try.ntmps93
      go_wp2_with fail
      go_ret2
      exact Gave.none HR.out (Below.refl _ _)
  rw [if_neg h1] at hR
  obtain ⟨h2, h3⟩ : 0 ≤ o ∧ o ≤ 12 := by omega
  clear h1
  by_cases hS : allS l
  case neg =>
    rw [if_neg hS] at hR
    have HT : Hid (false = decide (allS l)) := (decide_eq_false hS).symm
    have HR := hid_of hR
    clear hR hS
    go_enter Try.func93, Try.ntmps93
    go_wp2_with (go_at_call 107; refine (vare_any _ _ _ _ H.out hl false HT.out).mono ?_; rintro e w1 ⟨rfl, rfl⟩)
    go_ret2
    exact Gave.none HR.out (Below.refl _ _)
  rw [if_pos hS] at hR
  have HT : Hid (true = decide (allS l)) := (decide_eq_true hS).symm
  by_cases h64 : 64 < l.length
  · rw [if_pos h64] at hR
    have HR := hid_of hR
    clear hR hS
    go_enter Try.func93, Try.ntmps93
    go_wp2_with (go_at_call 107; refine (vare_any _ _ _ _ H.out hl true HT.out).mono ?_; rintro e w1 ⟨rfl, rfl⟩)
    go_ret2
    exact Gave.none HR.out (Below.refl _ _)
  rw [if_neg h64] at hR
  have HS : Hid (allS l) := hS
  obtain ⟨N, hN⟩ : ∃ N, N = o.toNat + 1 := ⟨_, rfl⟩
  obtain ⟨T, hTT⟩ : ∃ T, T = autoL l N := ⟨_, rfl⟩
  have HTL : Hid (T.length = N) := by show _ = _; rw [hTT]; simp
  have HTG : Hid (∀ k, k < N → T[k]? = some (autoZ l k)) := by intro k hk; rw [hTT]; exact autoL_get l hk
  rw [← hN, ← hTT] at hR
  have HR := hid_of hR
  have HON : Hid (o + 1 = (N : Int)) := by show _ = _; omega
  have hN13 : N ≤ 13 := by omega
  have hN1 : 1 ≤ N := by omega
  have h64' : l.length ≤ 64 := by omega
  clear hR hS hTT hN h64
  go_enter Try.func93, Try.ntmps93
  go_wp2_with first
    | (go_at_call 107; refine (vare_any _ _ _ _ H.out hl true HT.out).mono ?_; rintro e w1 ⟨rfl, rfl⟩)
    | (at_make; go_must (refine wpList_make_full _ rfl _ _ 24 rfl w.heap.size 3 i0 (.int .i64 0) 1 Try.underlying24 hi hz0 hz1 _ _ _ _ N rfl rfl HON.out HON.out (by rw [hz2]; omega) (by unfold maxLen; omega) (Nat.le_refl _) ?_))
  intro w1 hown hgr
  have HB1 : Hid (Below w.heap.size w w1) := (Below.refl _ _).grown hgr (Nat.le_refl _) (fun k hk => by cases hk)
  have HO1 : Hid (OwnInts w1 w.heap.size (.slice (some ⟨w.heap.size, 0, none⟩) N N) (filled T N 0)) := by
    show World.ownsRow _ _ _ _ _ _ _
    rw [filled_zero]
    have e := madeI N
    rw [Nat.mul_one] at e
    rw [← e, List.length_replicate]; exact hown
  obtain ⟨g, hg⟩ : ∃ g, g = w.heap.size := ⟨_, rfl⟩
  have HG : Hid (w.heap.size ≤ g) := by rw [hg]; exact Nat.le_refl _
  rw [← hg] at HO1 ⊢
  have HGE : Hid (g = w.heap.size) := hg
  clear hown hgr hg
  go_wp2_with fail
  go_loopw [26] (fun i wr => ∃ k : Nat, k ≤ N ∧ i = .int .i64 (k : Int) ∧ Hid (OwnInts wr g (.slice (some ⟨g, 0, none⟩) N N) (filled T N k)) ∧ Hid (Below w.heap.size w wr)) (fun i _ => N - (intOf i).toNat)
  case atStart => exact ⟨0, Nat.zero_le _, rfl, HO1.out, HB1.out⟩
  case round =>
    obtain ⟨k, hk, rfl, ho, hb⟩ := hrel
    by_cases hkN : k < N
    · obtain ⟨fl, hfl⟩ : ∃ fl, fl = filled T N k := ⟨_, rfl⟩
      have HFL := hid_of hfl
      have HFN : Hid (fl.length = N) := by show _ = _; rw [hfl]; exact length_filled HTL.out (by omega)
      have HO : Hid (OwnInts wr g (.slice (some ⟨g, 0, none⟩) N N) (fl.set k 0)) := by
        show OwnInts _ _ _ _
        rw [hfl, filled_same HTL.out hkN]
        exact ho.out
      clear hfl ho
      have HBO : Hid (Below w.heap.size w wr) := hb.out
      clear hb HO1 HB1
      go_wp2_with fail
      go_loopw [8] (fun i ws => ∃ m : Nat, i = .int .i64 ((k + m : Nat) : Int) ∧ (k + m ≤ l.length ∨ m = 0) ∧ Hid (OwnInts ws g (.slice (some ⟨g, 0, none⟩) N N) (fl.set k (corr l k m))) ∧ Hid (Below w.heap.size w ws)) (fun i _ => l.length - (intOf i).toNat)
      case atStart => exact ⟨0, rfl, .inr rfl, HO.out, HBO.out⟩
      case round =>
        obtain ⟨m, rfl, hm, ho, hb⟩ := hrel
        by_cases hml : k + m < l.length
        · obtain ⟨i, hik⟩ : ∃ i, i = k + m := ⟨_, rfl⟩
          obtain ⟨x, hx⟩ : ∃ x, l[i]? = some x := ⟨l[i]'(by omega), by simp⟩
          obtain ⟨y, hy⟩ : ∃ y, l[m]? = some y := ⟨l[m]'(by omega), by simp⟩
          obtain ⟨b1, o1, rfl, hc1⟩ := H.out.mono hb.out i x hx
          have hc2 : wr.cell? ⟨b1, o1 + m, none⟩ = some (.int .i64 y) := by
            obtain ⟨b2, o2, e2, hc2⟩ := H.out.mono hb.out m y hy
            cases e2
            exact hc2
          have hiI : (i : Int) - (k : Int) = (m : Int) := by omega
          have hil : i < l.length := by omega
          have hmL : m < l.length := by omega
          obtain ⟨t, ht⟩ : ∃ t, t = corr l k m := ⟨_, rfl⟩
          have htb := corr_small HS.out k m
          rw [← ht] at htb ho
          obtain ⟨ht1, ht2⟩ := htb
          have ht1' : -9007199254740992 ≤ t := by omega
          have ht2' : t ≤ 9007199254740992 := by omega
          clear ht1 ht2
          obtain ⟨hrc, hrf⟩ := owni_cell ho.out (set_get (by rw [HFN.out]; exact hkN))
          obtain ⟨p, hp⟩ : ∃ p, p = x * y := ⟨_, rfl⟩
          have hp12 := mul_s (HS.out x (List.mem_of_getElem? hx)) (HS.out y (List.mem_of_getElem? hy))
          rw [← hp] at hp12
          obtain ⟨hp1, hp2⟩ := hp12
          have HP : Hid (x * y = p) := hp.symm
          have HN : Hid (corr l k (m + 1) = t + p) := by show _ = _; rw [corr_next hik hx hy, ← ht, hp]
          have HI1 : Hid (i + 1 = k + (m + 1)) := by show _ = _; omega
          rw [← hik]
          clear hik hm hml hx hy hp ht
          go_wp2_with fail
          go_region
          all_goals
            go_wp2_with fail
            rw [HP.out, Go.IntWalk.wrap64_in p (by omega), Go.IntWalk.wrap64_in (t + p) (by omega)]
            refine ⟨⟨m + 1, by rw [← HI1.out]; go_num, .inl (by have := HI1.out; omega), ?_, (hb.out.setCell (by show _ ≤ g; exact HG.out) _).drew⟩, by (simp [intOf]) <;> omega⟩
            show OwnInts _ _ _ _
            rw [HN.out]
            have h1 := ho.out.set k (t + p) hkN
            rw [List.set_set] at h1
            exact World.ownsRow.drew h1
        · have HE : Hid (OwnInts wr g (.slice (some ⟨g, 0, none⟩) N N) (filled T N (k + 1))) := by
            have e1 : corr l k m = autoZ l k := by
              unfold autoZ
              rcases hm with h | h
              · rw [show l.length - k = m by omega]
              · subst h
                rw [show l.length - k = 0 by omega]
            have h1 := ho.out
            rw [e1, HFL.out, filled_set HTL.out (HTG.out k hkN)] at h1
            exact h1
          obtain ⟨i, hik⟩ : ∃ i, i = k + m := ⟨_, rfl⟩
          have hil : l.length ≤ i := by omega
          rw [← hik]
          clear hik hm ho hml
          go_wp2_with fail
          exact ⟨⟨k + 1, by omega, by go_num, HE, hb⟩, by (simp [intOf]) <;> omega⟩
    · have e0 : k = N := by omega
      subst e0
      go_wp2_with fail
      go_ret2
      rw [HR.out]
      refine ⟨_, rfl, ?_, hb.out⟩
      have h1 := ho.out
      rw [filled_end HTL.out] at h1
      rw [← HGE.out]
      exact h1

set_option maxRecDepth 100000 in
set_option maxHeartbeats 4000000 in
theorem vscaled_any (w : World) (a : Option Addr) (cap : Nat) (l : List Int) (s : Nat) (h : IntsAt w a l) (hl : l.length ≤ 1000000) (hs : isR l → IsShift (l.getD 0 0) s) (R : List Int × Int) (hR : R = scOut l s) :
    Calls Try.prog 94 #[.slice a l.length cap] w fun e w' => Gave w w' R e := by
  obtain ⟨i0, hi, hz0, hz1, hz2⟩ := info_parts Try.info3
  unfold scOut at hR
  have H : Hid (IntsAt w a l) := h
  clear h
  by_cases h0 : l.length = 0
  · rw [if_neg (fun h => by have := h.1; omega)] at hR
    have HR := hid_of hR
    have hb0 : ((l.length : Int) == 0) = true := beq_iff_eq.2 (by omega)
    clear hR hs
    go_enter Try.func94, Try.ntmps94
    go_wp2_with fail
    go_ret2
    exact Gave.none HR.out (Below.refl _ _)
  have hb0 : ((l.length : Int) == 0) = false := beq_eq_false_iff_ne.2 (by omega)
  have h0' : 0 < l.length := by omega
  clear h0
  obtain ⟨x0, hx0⟩ : ∃ x, l[0]? = some x := ⟨l[0], by simp [h0']⟩
  obtain ⟨b0, o0, rfl, hc0⟩ := H.out 0 x0 hx0
  rw [Nat.add_zero] at hc0
  by_cases hx : x0 < 0
  · rw [if_neg (fun h => by have := h.2.1; rw [getD_of hx0] at this; omega)] at hR
    have HR := hid_of hR
    clear hR hs hx0
    go_enter Try.func94, Try.ntmps94
    go_wp2_with fail
    go_ret2
    exact Gave.none HR.out (Below.refl _ _)
  by_cases hB : allB l
  case neg =>
    rw [if_neg (fun h => hB h.2.2)] at hR
    have HT : Hid (false = decide (allB l)) := (decide_eq_false hB).symm
    have HR := hid_of hR
    clear hR hs hx0 hB
    go_enter Try.func94, Try.ntmps94
    go_wp2_with (go_at_call 108; refine (vsmall_any _ _ _ _ H.out hl false HT.out).mono ?_; rintro e w1 ⟨rfl, rfl⟩)
    go_ret2
    exact Gave.none HR.out (Below.refl _ _)
  have hRR : isR l := ⟨h0', by rw [getD_of hx0]; omega, hB⟩
  rw [if_pos hRR] at hR
  have hS := hs hRR
  rw [getD_of hx0] at hS
  have hxb := hB x0 (List.mem_of_getElem? hx0)
  obtain ⟨hx1, hx2⟩ := hxb
  have hs31 : s ≤ 31 := shift_le hx2 hS
  have HS := hid_of hS
  have HT : Hid (true = decide (allB l)) := (decide_eq_true hB).symm
  have HBB : Hid (allB l) := hB
  obtain ⟨T, hTT⟩ : ∃ T, T = scaleL l s := ⟨_, rfl⟩
  have HTL : Hid (T.length = l.length) := by show _ = _; rw [hTT]; simp
  have HTG : Hid (∀ (k : Nat) (x : Int), l[k]? = some x → T[k]? = some (x / 2 ^ s)) := by intro k x hk; rw [hTT]; exact scaleL_get hk
  rw [← hTT] at hR
  have HR := hid_of hR
  clear hR hS hTT hB hRR hs hx0
  go_enter Try.func94, Try.ntmps94
  go_wp2_with (go_at_call 108; refine (vsmall_any _ _ _ _ H.out hl true HT.out).mono ?_; rintro e w1 ⟨rfl, rfl⟩)
  go_loopw [4] (fun i wr => ∃ t : Nat, t ≤ s ∧ i = .int .i64 (t : Int) ∧ w = wr) (fun i _ => s - (intOf i).toNat)
  case atStart => exact ⟨0, Nat.zero_le _, rfl, rfl⟩
  case round =>
    obtain ⟨t, ht, rfl, rfl⟩ := hrel
    by_cases hts : t < s
    · have hbig : 1073741823 < x0 / 2 ^ t := by have := HS.out.2 t hts; omega
      go_wp2_with fail
      exact ⟨⟨t + 1, by omega, by go_num, by trivial⟩, by (simp [intOf]) <;> omega⟩
    · have e : t = s := by omega
      subst e
      have hbig : x0 / 2 ^ t ≤ 1073741823 := by have := HS.out.1; omega
      go_wp2_with (at_make; go_must (refine wpList_make_full _ rfl _ _ 24 rfl w.heap.size 3 i0 (.int .i64 0) 1 Try.underlying24 hi hz0 hz1 _ _ _ _ l.length rfl rfl rfl rfl (by rw [hz2]; omega) (by unfold maxLen; omega) (Nat.le_refl _) ?_))
      intro w1 hown hgr
      have HB1 : Hid (Below w.heap.size w w1) := (Below.refl _ _).grown hgr (Nat.le_refl _) (fun k hk => by cases hk)
      have HO1 : Hid (OwnInts w1 w.heap.size (.slice (some ⟨w.heap.size, 0, none⟩) l.length l.length) (filled T l.length 0)) := by
        show World.ownsRow _ _ _ _ _ _ _
        rw [filled_zero]
        have e := madeI l.length
        rw [Nat.mul_one] at e
        rw [← e, List.length_replicate]; exact hown
      obtain ⟨g, hg⟩ : ∃ g, g = w.heap.size := ⟨_, rfl⟩
      have HG : Hid (w.heap.size ≤ g) := by rw [hg]; exact Nat.le_refl _
      rw [← hg] at HO1 ⊢
      have HGE : Hid (g = w.heap.size) := hg
      clear hown hgr hg
      go_wp2_with fail
      go_loopw [35] (fun i wr => ∃ k : Nat, k ≤ l.length ∧ i = .int .i64 (k : Int) ∧ Hid (OwnInts wr g (.slice (some ⟨g, 0, none⟩) l.length l.length) (filled T l.length k)) ∧ Hid (Below w.heap.size w wr)) (fun i _ => l.length - (intOf i).toNat)
      case atStart => exact ⟨0, Nat.zero_le _, rfl, HO1.out, HB1.out⟩
      case round =>
        obtain ⟨k, hk, rfl, ho, hb⟩ := hrel
        by_cases hkN : k < l.length
        · obtain ⟨x, hx⟩ : ∃ x, l[k]? = some x := ⟨l[k], by simp [hkN]⟩
          have hc1 : wr.cell? ⟨b0, o0 + k, none⟩ = some (.int .i64 x) := by
            obtain ⟨b2, o2, e2, hc2⟩ := H.out.mono hb.out k x hx
            cases e2
            exact hc2
          obtain ⟨hrc, hrf⟩ := owni_cell ho.out (filled_get HTL.out hkN)
          have HTK := hid_of (HTG.out k x hx)
          have HX := hid_of hx
          clear hx
          go_wp2_with fail
          refine ⟨⟨k + 1, by omega, by go_num, ?_, hb.out.setCell (by show _ ≤ g; exact HG.out) _⟩, by (simp [intOf]) <;> omega⟩
          show OwnInts _ _ _ _
          rw [← filled_set HTL.out HTK.out]
          exact ho.out.set k _ hkN
        · have e0 : k = l.length := by omega
          subst e0
          go_wp2_with fail
          go_ret2
          rw [HR.out]
          refine ⟨_, rfl, ?_, hb.out⟩
          have h1 := ho.out
          rw [filled_end HTL.out] at h1
          rw [← HGE.out]
          exact h1

end Go.Proofs.Ythkfaackkcdcoab

/- Coefficients of levin. -/
namespace Go.Proofs.Ythkfaackkcdcoab
set_option linter.unusedVariables false
set_option linter.unusedSimpArgs false
open Go.RowKit Dg

/-- A list and a yes or no that were given. -/
def GaveB (w w' : World) (R : List Int × Bool) (e : Ending) : Prop :=
  ∃ v, e = .returned (.tuple #[v, .bool R.2]) ∧ OwnInts w' w.heap.size v R.1 ∧ Below w.heap.size w w'
theorem GaveB.none {w w' : World} {R : List Int × Bool} (hR : R = ([], false)) (hb : Below w.heap.size w w') : GaveB w w' R (.returned (.tuple #[.slice none 0 0, .bool false])) := by
  subst hR
  exact ⟨_, rfl, OwnInts.nil _ _, hb⟩
theorem GaveB.ok {w w' : World} {L : List Int} {k : Bool} {e : Ending} (h : GaveB w w' (L, k) e) : ∃ a cap, e = .returned (.tuple #[.slice a L.length cap, .bool k]) ∧ OwnInts w' w.heap.size (.slice a L.length cap) L ∧ Ns w' a cap L ∧ Below w.heap.size w w' := by
  obtain ⟨v, rfl, ho, hb⟩ := h
  obtain ⟨a, cap, rfl, hn, -, -⟩ := ho.ns
  exact ⟨a, cap, rfl, ho, hn, hb⟩
theorem coOut_bad {x : List Int} {o : Int} {s : Nat} (h : o < 1 ∨ 12 < o ∨ (x.length : Int) ≤ o ∨ ¬ allS x ∨ 64 < x.length ∨ autoZ x 0 / 2 ^ s < 1) : coOut x o s = ([], false) := by
  unfold coOut
  rw [if_pos h]
theorem coOut_good {x : List Int} {n s : Nat} (h1 : 1 ≤ n) (h12 : n ≤ 12) (hl : n < x.length) (hS : allS x) (h64 : x.length ≤ 64) (h0 : ¬ autoZ x 0 / 2 ^ s < 1) (L : List Int) (hL : L = (lev (scaleL (autoL x (n + 1)) s) n).1) :
    coOut x (n : Int) s = if allC L then (L, true) else ([], false) := by
  unfold coOut
  rw [if_neg (fun h => by
    rcases h with h | h | h | h | h | h
    · omega
    · omega
    · omega
    · exact h hS
    · omega
    · exact h0 h), Int.toNat_natCast, ← hL]
theorem scale_first (x : List Int) (n s : Nat) : (scaleL (autoL x (n + 1)) s)[0]? = some (autoZ x 0 / 2 ^ s) := scaleL_get (autoL_get x (by omega))
theorem scOut_auto {x : List Int} (hS : allS x) (h64 : x.length ≤ 64) (n s : Nat) : scOut (autoL x (n + 1)) s = (scaleL (autoL x (n + 1)) s, (s : Int)) := by
  unfold scOut
  rw [if_pos (auto_R hS h64 (n + 1) (by omega))]
theorem lev_next (r : List Int) (i : Nat) (cs : List Int) (e k : Int) (hcs : cs = (lev r i).1) (he : e = (lev r i).2) (hk : k = kOf r cs e) : (lev r (i + 1)).1 = turnL cs k ++ [k] ∧ (lev r (i + 1)).2 = eNext k e := by
  subst hcs he hk
  exact ⟨rfl, rfl⟩

set_option maxRecDepth 100000 in
set_option maxHeartbeats 4000000 in
theorem vco_any (w : World) (a : Option Addr) (cap : Nat) (l : List Int) (o : Int) (s : Nat) (h : IntsAt w a l) (hl : l.length ≤ 1000000) (hs : allS l → l.length ≤ 64 → IsShift (autoZ l 0) s) (R : List Int × Bool) (hR : R = coOut l o s) :
    Calls Try.prog 75 #[.slice a l.length cap, .int .i64 o] w fun e w' => GaveB w w' R e := by
  have H : Hid (IntsAt w a l) := h
  clear h
  by_cases h1 : o < 1 ∨ 12 < o ∨ (l.length : Int) ≤ o
  · rw [coOut_bad (by omega)] at hR
    have HR := hid_of hR
    clear hR hs
    rcases (by omega : o < 1 ∨ (1 ≤ o ∧ 12 < o) ∨ (1 ≤ o ∧ o ≤ 12 ∧ (l.length : Int) ≤ o)) with h2 | ⟨h2, h3⟩ | ⟨h2, h3, h4⟩
    all_goals
      clear h1
      go_enter Try.func75, Try.ntmps75
      go_wp2_with fail
      go_ret2
      exact GaveB.none HR.out (Below.refl _ _)
  obtain ⟨n, hn⟩ : ∃ n : Nat, o = (n : Int) := ⟨o.toNat, by omega⟩
  subst hn
  have hn1 : 1 ≤ n := by omega
  have hn12 : n ≤ 12 := by omega
  have hnl : n < l.length := by omega
  clear h1
  by_cases hS : allS l ∧ l.length ≤ 64
  case neg =>
    rw [coOut_bad (by by_cases h : allS l <;> simp_all)] at hR
    have HR := hid_of hR
    obtain ⟨q, hq, hq0⟩ : ∃ q : Int, ([], q) = autoOut l (n : Int) ∧ (q != 0) = true := by
      unfold autoOut
      rw [if_neg (by omega)]
      by_cases h : allS l
      · rw [if_pos h, if_pos (by by_cases h6 : 64 < l.length; exact h6; exact absurd ⟨h, by omega⟩ hS)]
        exact ⟨4, rfl, rfl⟩
      · rw [if_neg h]
        exact ⟨8, rfl, rfl⟩
    have HQ := hid_of hq
    clear hR hs hS hq
    go_enter Try.func75, Try.ntmps75
    go_wp2_with fail
    refine (vauto_any w a cap l _ H.out hl _ HQ.out).mono ?_
    rintro e w1 hg
    obtain ⟨a1, c1, rfl, -, -, hb1⟩ := hg.ok
    have HB1 := hid_of hb1
    clear hg hb1
    go_wp2_with fail
    go_ret2
    exact GaveB.none HR.out HB1.out
  obtain ⟨hS, h64⟩ := hS
  have hsh := hs hS h64
  obtain ⟨A, hA⟩ : ∃ A, A = autoL l (n + 1) := ⟨_, rfl⟩
  have HA : Hid ((A, 0) = autoOut l (n : Int)) := by
    show _ = _
    unfold autoOut
    rw [if_neg (by omega), if_pos hS, if_neg (by omega), Int.toNat_natCast, hA]
  obtain ⟨r, hr⟩ : ∃ r, r = scaleL (autoL l (n + 1)) s := ⟨_, rfl⟩
  have HRS : Hid ((r, (s : Int)) = scOut A s) := by show _ = _; rw [hA, scOut_auto hS h64 n s, hr]
  have HSH : Hid (isR A → IsShift (A.getD 0 0) s) := by
    intro _
    rw [hA, autoL_getD l (by omega)]
    exact hsh
  have hA13 : A.length ≤ 1000000 := by rw [hA]; simp; omega
  obtain ⟨L, hL⟩ : ∃ L, L = (lev r n).1 := ⟨_, rfl⟩
  have HRA : Hid (allR r) := by rw [hr]; exact scale_R hsh
  obtain ⟨x0, hx0⟩ : ∃ x, x = autoZ l 0 / 2 ^ s := ⟨_, rfl⟩
  have HX0 : Hid (r[0]? = some x0) := by show _ = _; rw [hr, hx0]; exact scale_first l n s
  have HRL : Hid (r.length = n + 1) := by show _ = _; rw [hr]; simp
  have hrn : n < r.length := by rw [HRL.out]; omega
  have hrl : r.length ≤ 1000000 := by rw [HRL.out]; omega
  have hxb := HRA.out x0 (List.mem_of_getElem? HX0.out)
  obtain ⟨hxb1, hxb2⟩ := hxb
  by_cases hx1 : x0 < 1
  · rw [coOut_bad (by rw [← hx0]; exact .inr (.inr (.inr (.inr (.inr hx1)))))] at hR
    have HR := hid_of hR
    clear hR hs hS hA hr hL hx0 hsh
    go_enter Try.func75, Try.ntmps75
    go_wp2_with fail
    refine (vauto_any w a cap l _ H.out hl _ HA.out).mono ?_
    rintro e w1 hg
    obtain ⟨a1, c1, rfl, -, hn1', hb1⟩ := hg.ok
    have HN1 := hid_of hn1'
    have HB1 := hid_of hb1
    have hs1 := hb1.size
    clear hg hb1 hn1'
    go_wp2_with fail
    refine (vscaled_any w1 a1 c1 A s HN1.out.at_ hA13 HSH.out _ HRS.out).mono ?_
    rintro e w2 hg
    obtain ⟨a2, c2, rfl, -, hn2', hb2⟩ := hg.ok
    have HB2 : Hid (Below w.heap.size w w2) := HB1.out.trans (hb2.mono hs1)
    obtain ⟨b0, o0, rfl, hc0⟩ := hn2'.at_ 0 x0 HX0.out
    rw [Nat.add_zero] at hc0
    clear hg hb2 hn2' HN1 HB1
    go_wp2_with fail
    go_loopw [10, 11, 42] (fun e v i wr => e = .int .i64 x0 ∧ v = .slice none 0 0 ∧ i = .int .i64 0 ∧ w2 = wr) (fun _ _ _ _ => 0)
    case atStart => exact ⟨rfl, rfl, rfl, rfl⟩
    case round =>
      obtain ⟨rfl, rfl, rfl, rfl⟩ := hrel
      go_wp2_with fail
      go_ret2
      exact GaveB.none HR.out HB2.out
  have hx1' : 1 ≤ x0 := by omega
  have hR2 := coOut_good hn1 hn12 hnl hS h64 (by rw [← hx0]; omega) L (by rw [hL, hr])
  rw [hR2] at hR
  have HR := hid_of hR
  have HL := hid_of hL
  have HE0 : Hid (∀ i, 1 ≤ (lev r i).2 ∧ (lev r i).2 ≤ x0) := by
    intro i
    have := lev_e (r := r) (by rw [getD_of HX0.out]; exact hx1') i
    rw [getD_of HX0.out] at this
    exact this
  have HL0 : Hid (x0 = (lev r 0).2) := by show _ = _; rw [lev, getD_of HX0.out]
  clear hR hs hS hA hr hL hx0 hx1 hR2 hsh
  go_enter Try.func75, Try.ntmps75
  go_wp2_with fail
  refine (vauto_any w a cap l _ H.out hl _ HA.out).mono ?_
  rintro e w1 hg
  obtain ⟨a1, c1, rfl, -, hn1', hb1⟩ := hg.ok
  have HN1 := hid_of hn1'
  have HB1 := hid_of hb1
  have hs1 := hb1.size
  clear hg hb1 hn1'
  go_wp2_with fail
  refine (vscaled_any w1 a1 c1 A s HN1.out.at_ hA13 HSH.out _ HRS.out).mono ?_
  rintro e w2 hg
  obtain ⟨a2, c2, rfl, -, hn2', hb2⟩ := hg.ok
  have HB2 : Hid (Below w.heap.size w w2) := HB1.out.trans (hb2.mono hs1)
  obtain ⟨b0, o0, rfl, hc0⟩ := hn2'.at_ 0 x0 HX0.out
  rw [Nat.add_zero] at hc0
  have HN2 := hid_of hn2'.at_
  have hs2 : w.heap.size ≤ w2.heap.size := HB2.out.size
  clear hg hb2 hn2' HN1 HB1
  go_wp2_with fail
  go_loopw [10, 11, 42] (fun e v i wr => ∃ (j : Nat) (z : Int) (cs : List Int), j ≤ n ∧ e = .int .i64 z ∧ i = .int .i64 (j : Int) ∧ Hid (z = (lev r j).2) ∧ Hid (cs = (lev r j).1) ∧ Hid (OwnInts wr w.heap.size v cs) ∧ Hid (Below w2.heap.size w2 wr)) (fun _ _ i _ => n - (intOf i).toNat)
  case atStart => exact ⟨0, x0, [], Nat.zero_le _, rfl, rfl, HL0.out, rfl, OwnInts.nil _ _, Below.refl _ _⟩
  case round =>
    obtain ⟨j, z, cs, hj, rfl, rfl, hz, hcs, ho, hb⟩ := hrel
    obtain ⟨aa, ac, rfl, hna, -, -⟩ := ho.out.ns
    have HAA := hid_of hna.at_
    have HCL : Hid (cs.length = j) := by show _ = _; rw [hcs.out]; simp
    have hzb := HE0.out j
    rw [← hz.out] at hzb
    obtain ⟨hz1, hz2⟩ := hzb
    have HBW : Hid (Below w.heap.size w wr) := HB2.out.trans (hb.out.mono hs2)
    have hsr : w.heap.size ≤ wr.heap.size := HBW.out.size
    clear hna
    by_cases hjn : j < n
    · have HRR : Hid (IntsAt wr (some ⟨b0, o0, none⟩) r) := HN2.out.mono hb.out
      have HW : Hid (within cs 16777216) := by rw [hcs.out]; exact lev_bound r (by omega)
      obtain ⟨k, hk⟩ : ∃ k, k = kOf r cs z := ⟨_, rfl⟩
      have hkb := kOf_small r cs z
      rw [← hk] at hkb
      obtain ⟨hk1, hk2⟩ := hkb
      have hnx := lev_next r j cs z k hcs.out hz.out hk
      have HK := hid_of hk
      obtain ⟨T, hT⟩ : ∃ T, T = turnL cs k ++ [k] := ⟨_, rfl⟩
      have HT := hid_of hT
      have HNX1 : Hid (T = (lev r (j + 1)).1) := by show _ = _; rw [hnx.1, hT]
      obtain ⟨kk, hkk⟩ : ∃ kk, kk = k * k := ⟨_, rfl⟩
      have hkkb := kk_small hk1 hk2
      rw [← hkk] at hkkb
      obtain ⟨hkk1, hkk2⟩ := hkkb
      have HKK : Hid (k * k = kk) := hkk.symm
      obtain ⟨qe, hqe⟩ : ∃ qe, qe = kk / 4096 * z := ⟨_, rfl⟩
      have hqeb := qe_small (q := kk / 4096) (e := z) (by omega) (by omega) hz1
      rw [← hqe] at hqeb
      obtain ⟨hqe1, hqe2⟩ := hqeb
      have HQE : Hid (kk / 4096 * z = qe) := hqe.symm
      have HNX2 : Hid (z - qe / 4096 = (lev r (j + 1)).2) := by show _ = _; rw [hnx.2, eNext, ← hkk, ← hqe]
      have hcl12 : cs.length ≤ 12 := by rw [HCL.out]; omega
      have hclr : cs.length + 1 < r.length := by rw [HCL.out, HRL.out]; omega
      clear hk hT hkk hqe hnx
      go_wp2_with fail
      refine (vturn_any wr _ _ _ _ _ _ cs r z k rfl rfl HAA.out HRR.out hcl12 hclr hrl HRA.out HW.out hz1 (by omega) HK.out).mono ?_
      rintro e w3 ⟨rfl, rfl⟩
      go_wp2_with fail
      refine (vturned_any wr _ _ _ cs k rfl HAA.out hcl12 HW.out hk1 hk2 T HT.out).mono ?_
      rintro e w4 ⟨v4, rfl, ho4, hb4⟩
      have HO4 : Hid (OwnInts w4 w.heap.size v4 T) := ho4.base hsr
      have HB4 : Hid (Below w2.heap.size w2 w4) := hb.out.trans (hb4.mono hb.out.size)
      clear ho4 hb4
      go_wp2_with fail
      rw [HKK.out, Go.IntWalk.wrap64_in kk (by omega), HQE.out, Go.IntWalk.wrap64_in qe (by omega), Go.IntWalk.wrap64_in (z - qe / 4096) (by omega)]
      exact ⟨⟨j + 1, z - qe / 4096, T, by omega, rfl, by go_num, HNX2, HNX1, HO4, HB4⟩, by (simp [intOf]) <;> omega⟩
    · have e0 : j = n := by omega
      have HCSL : Hid (cs = L) := by show _ = _; rw [hcs.out, HL.out, e0]
      have hcl12 : cs.length ≤ 1000000 := by rw [HCL.out]; omega
      by_cases hC : allC L
      · have HT : Hid (true = decide (allC cs)) := by show _ = _; rw [HCSL.out]; exact (decide_eq_true hC).symm
        have HRR : Hid (R = (cs, true)) := by show _ = _; rw [HR.out, if_pos hC, HCSL.out]
        clear hC
        go_wp2_with fail
        refine (vcoefs_any wr _ _ cs HAA.out hcl12 true HT.out).mono ?_
        rintro e w3 ⟨rfl, rfl⟩
        go_wp2_with fail
        go_ret2
        rw [HRR.out]
        exact ⟨_, rfl, ho.out, HBW.out⟩
      · have HT : Hid (false = decide (allC cs)) := by show _ = _; rw [HCSL.out]; exact (decide_eq_false hC).symm
        have HRR : Hid (R = ([], false)) := by show _ = _; rw [HR.out, if_neg hC]
        clear hC
        go_wp2_with fail
        refine (vcoefs_any wr _ _ cs HAA.out hcl12 false HT.out).mono ?_
        rintro e w3 ⟨rfl, rfl⟩
        go_wp2_with fail
        go_ret2
        exact GaveB.none HRR.out HBW.out

end Go.Proofs.Ythkfaackkcdcoab

/- Samples with all signs turned, and backwards, have the same sums and coefficients; samples that are all alike; no program. -/
namespace Go.Proofs.Ythkfaackkcdcoab
set_option linter.unusedVariables false
set_option linter.unusedSimpArgs false
open Go.RowKit Dg

def sumTo (f : Nat → Int) : Nat → Int
  | 0 => 0
  | m + 1 => sumTo f m + f m
theorem sumTo_congr {f g : Nat → Int} : ∀ m, (∀ i, i < m → f i = g i) → sumTo f m = sumTo g m
  | 0, _ => rfl
  | m + 1, h => by rw [sumTo, sumTo, sumTo_congr m (fun i hi => h i (by omega)), h m (by omega)]
theorem sumTo_shift (f : Nat → Int) : ∀ m, sumTo f (m + 1) = f 0 + sumTo (fun i => f (i + 1)) m
  | 0 => by simp [sumTo]
  | m + 1 => by rw [sumTo, sumTo_shift f m, sumTo, Int.add_assoc]
theorem sumTo_rev : ∀ (m : Nat) (f : Nat → Int), sumTo f m = sumTo (fun i => f (m - 1 - i)) m
  | 0, f => rfl
  | m + 1, f => by
    rw [sumTo_shift, sumTo_rev m, sumTo]
    have e : sumTo (fun i => f (m - 1 - i + 1)) m = sumTo (fun i => f (m + 1 - 1 - i)) m := sumTo_congr m (fun i hi => by rw [show m - 1 - i + 1 = m + 1 - 1 - i by omega])
    rw [e, show m + 1 - 1 - m = 0 by omega, Int.add_comm]
theorem corr_sum (x : List Int) (k m : Nat) : corr x k m = sumTo (fun i => x.getD (k + i) 0 * x.getD i 0) m := by
  induction m with
  | zero => rfl
  | succ m ih => simp only [corr, sumTo]; rw [ih]
theorem getD_rev (x : List Int) {i : Nat} (h : i < x.length) : x.reverse.getD i 0 = x.getD (x.length - 1 - i) 0 := by
  rw [List.getD, List.getD, List.getElem?_reverse h]
theorem autoZ_rev (x : List Int) (k : Nat) : autoZ x.reverse k = autoZ x k := by
  unfold autoZ
  rw [List.length_reverse, corr_sum, corr_sum, sumTo_rev (x.length - k) (fun i => x.getD (k + i) 0 * x.getD i 0)]
  refine sumTo_congr _ (fun i hi => ?_)
  rw [getD_rev x (by omega), getD_rev x (by omega), show k + (x.length - k - 1 - i) = x.length - 1 - i by omega, show x.length - k - 1 - i = x.length - 1 - (k + i) by omega, Int.mul_comm]
theorem getD_neg (x : List Int) (i : Nat) : (x.map fun v => -v).getD i 0 = -x.getD i 0 := by
  rw [List.getD, List.getD, List.getElem?_map]
  cases x[i]? <;> simp
theorem autoZ_neg (x : List Int) (k : Nat) : autoZ (x.map fun v => -v) k = autoZ x k := by
  unfold autoZ
  rw [List.length_map, corr_sum, corr_sum]
  refine sumTo_congr _ (fun i _ => ?_)
  simp only [getD_neg]
  rw [Int.neg_mul_neg]
/-- Lists of samples whose sums are the same. -/
def Alike (x y : List Int) : Prop := y.length = x.length ∧ allS y ∧ ∀ k, autoZ y k = autoZ x k
theorem Alike.autoL {x y : List Int} (h : Alike x y) (n : Nat) : autoL y n = autoL x n := by
  unfold Go.Proofs.Ythkfaackkcdcoab.autoL
  refine List.map_congr_left (fun k _ => h.2.2 k)
theorem Alike.out {x y : List Int} (h : Alike x y) (hx : allS x) (o : Int) : autoOut y o = autoOut x o := by
  unfold autoOut
  rw [h.autoL, h.1]
  simp [hx, h.2.1]
theorem Alike.co {x y : List Int} (h : Alike x y) (hx : allS x) (o : Int) (s : Nat) : coOut y o s = coOut x o s := by
  unfold coOut
  rw [h.autoL, h.1, h.2.2 0]
  simp [hx, h.2.1]
theorem alike_rev {x : List Int} (h : allS x) : Alike x x.reverse := ⟨by simp, fun v hv => h v (by simpa using hv), autoZ_rev x⟩
theorem alike_neg {x : List Int} (h : ∀ v ∈ x, -8388607 ≤ v ∧ v ≤ 8388607) : Alike x (x.map fun v => -v) := by
  refine ⟨by simp, fun v hv => ?_, autoZ_neg x⟩
  obtain ⟨u, hu, rfl⟩ := List.mem_map.1 hv
  have := h u hu
  unfold isS
  omega

theorem corr_same (n : Nat) (v : Int) (k m : Nat) (h : k + m ≤ n) : corr (List.replicate n v) k m = v * v * (m : Int) := by
  induction m with
  | zero => simp [corr]
  | succ m ih =>
    simp only [corr]
    have e1 : (List.replicate n v).getD (k + m) 0 = v := by simp [List.getD, List.getElem?_replicate, show k + m < n by omega]
    have e2 : (List.replicate n v).getD m 0 = v := by simp [List.getD, List.getElem?_replicate, show m < n by omega]
    rw [ih (by omega), e1, e2]
    have e3 : ((m + 1 : Nat) : Int) = (m : Int) + 1 := by omega
    rw [e3, Int.mul_add, Int.mul_one]
theorem autoZ_same (n : Nat) (v : Int) (k : Nat) (h : k ≤ n) : autoZ (List.replicate n v) k = v * v * ((n : Int) - (k : Int)) := by
  unfold autoZ
  rw [List.length_replicate, corr_same n v k (n - k) (by omega), show ((n - k : Nat) : Int) = (n : Int) - (k : Int) by omega]
theorem near {A C P r0 r1 : Int} {s : Nat} (hA : 1 ≤ A) (hC0 : 0 ≤ C) (hC : 19 * A ≤ 20 * C) (hP : P = 2 ^ s) (h0 : r0 = A / P) (h1 : r1 = C / P) (hs : IsShift A s) : 1 ≤ r0 ∧ 3801 * r0 ≤ 4096 * r1 := by
  have hP1 : (1 : Int) ≤ P := by rw [hP]; exact Int.pow_pos (by decide)
  rcases Nat.eq_zero_or_pos s with e | e
  · subst e
    have : P = 1 := by rw [hP]; rfl
    subst this
    rw [Int.ediv_one] at h0 h1
    omega
  · have h2 : 536870912 ≤ r0 := by
      have g1 := hs.2 (s - 1) (by omega)
      have e2 : (2 : Int) ^ s = 2 ^ (s - 1) * 2 := by
        have : s = (s - 1) + 1 := by omega
        rw [this, Int.pow_succ]
        simp
      have hp : (0 : Int) ≤ 2 ^ (s - 1) := Int.le_of_lt (Int.pow_pos (by decide))
      rw [h0, hP, e2, ← Int.ediv_ediv_of_nonneg hp]
      omega
    have f1 := Int.mul_ediv_add_emod A P
    have f2 := Int.emod_nonneg A (show P ≠ 0 by omega)
    have f3 := Int.mul_ediv_add_emod C P
    have f4 := Int.emod_lt_of_pos C (show 0 < P by omega)
    rw [← h0] at f1
    rw [← h1] at f3
    have f5 : P * 536870912 ≤ P * r0 := Int.mul_le_mul_of_nonneg_left h2 (by omega)
    have f6 : P * (3801 * r0) ≤ P * (4096 * r1) := by
      have g1 : P * (3801 * r0) = 3801 * (P * r0) := by rw [← Int.mul_assoc, Int.mul_comm P 3801, Int.mul_assoc]
      have g2 : P * (4096 * r1) = 4096 * (P * r1) := by rw [← Int.mul_assoc, Int.mul_comm P 4096, Int.mul_assoc]
      rw [g1, g2]
      omega
    exact ⟨by omega, Int.le_of_mul_le_mul_left f6 (by omega)⟩
theorem coOut_same (n : Nat) (v : Int) (s : Nat) (hn : 20 ≤ n) (hn2 : n ≤ 63) (hv1 : 1 ≤ v) (hv2 : v ≤ 1000000) (hs : IsShift (autoZ (List.replicate n v) 0) s) : ∃ k, 3800 < k ∧ k ≤ 4095 ∧ coOut (List.replicate n v) 1 s = ([k], true) := by
  obtain ⟨x, hx⟩ : ∃ x, x = List.replicate n v := ⟨_, rfl⟩
  rw [← hx] at hs ⊢
  have hS : allS x := fun y hy => by
    rw [hx] at hy
    have := List.eq_of_mem_replicate hy
    unfold isS
    omega
  have hl : x.length = n := by rw [hx]; simp
  obtain ⟨r, hr⟩ : ∃ r, r = scaleL (autoL x (1 + 1)) s := ⟨_, rfl⟩
  obtain ⟨r0, hr0⟩ : ∃ r0, r0 = autoZ x 0 / 2 ^ s := ⟨_, rfl⟩
  obtain ⟨r1, hr1⟩ : ∃ r1, r1 = autoZ x 1 / 2 ^ s := ⟨_, rfl⟩
  have e0 : r.getD 0 0 = r0 := by rw [hr0]; exact getD_of (by rw [hr]; exact scaleL_get (autoL_get x (by omega)))
  have e1 : r.getD 1 0 = r1 := by rw [hr1]; exact getD_of (by rw [hr]; exact scaleL_get (autoL_get x (by omega)))
  have hvv : 1 ≤ v * v := by
    have := Int.mul_le_mul_of_nonneg_left hv1 (show (0 : Int) ≤ v by omega)
    omega
  obtain ⟨q, hq⟩ : ∃ q, q = v * v := ⟨_, rfl⟩
  rw [← hq] at hvv
  have hn' : (20 : Int) ≤ (n : Int) := by omega
  have ha : autoZ x 0 = q * (n : Int) := by rw [hx, autoZ_same n v 0 (by omega), hq]; simp
  have hc : autoZ x 1 = q * ((n : Int) - 1) := by rw [hx, autoZ_same n v 1 (by omega), hq]; simp
  have hqn : q * 20 ≤ q * (n : Int) := Int.mul_le_mul_of_nonneg_left hn' (by omega)
  have hc2 : autoZ x 1 = q * (n : Int) - q := by rw [hc, Int.mul_sub, Int.mul_one]
  have hk := near (A := autoZ x 0) (C := autoZ x 1) (P := 2 ^ s) (r0 := r0) (r1 := r1) (s := s) (by omega) (by omega) (by omega) rfl hr0 hr1 hs
  obtain ⟨k, hkk⟩ : ∃ k, k = kOf r [] r0 := ⟨_, rfl⟩
  have hkb := kOf_small r [] r0
  have hk2 : 3801 ≤ k := by
    have g1 : kOf r [] r0 = min (max (r1 * 4096 / r0) (-4095)) 4095 := by
      unfold kOf
      simp only [List.length_nil, numTo, Nat.zero_add]
      rw [e1]
    have g2 : 3801 ≤ r1 * 4096 / r0 := by
      rw [Int.le_ediv_iff_mul_le (by omega)]
      omega
    omega
  refine ⟨k, by omega, by omega, ?_⟩
  have hL : [k] = (lev r 1).1 := by
    simp only [lev]
    rw [e0, ← hkk]
    rfl
  have := coOut_good (x := x) (n := 1) (s := s) (by omega) (by omega) (by omega) hS (by omega) (by rw [← hr0]; omega) [k] (by rw [hL, hr])
  have hAC : allC [k] := fun y hy => by simp at hy; subst hy; unfold isC; omega
  rw [if_pos hAC] at this
  exact this

end Go.Proofs.Ythkfaackkcdcoab
