/- A step of levin: turn, turned. -/
import Derived.Test.YtlonnoapbfjomabGreatLev1
namespace Go.Proofs.YtlonnoapbfjomabGreat
set_option linter.unusedVariables false
set_option linter.unusedSimpArgs false
open Go.RowKit Dg

theorem owni_cell {w : World} {base g n c : Nat} {l : List Int} {j : Nat} {x : Int} (h : OwnInts w base (.slice (some ⟨g, 0, none⟩) n c) l) (hx : l[j]? = some x) :
    w.cell? ⟨g, j, none⟩ = some (.int .i64 x) ∧ w.frozen? ⟨g, j, none⟩ = false := by
  have hj : j < l.length := (List.getElem?_eq_some_iff.1 hx).1
  rcases h.2 with ⟨e1, e2⟩ | ⟨g', cap', cur, hv, hgb, hh, hncap, _, hcs, htake⟩
  · cases e1
  · cases hv
    refine ⟨?_, by simp [World.frozen?, hh]⟩
    have e : (i64s l)[j]? = some (.int .i64 x) := by rw [i64s_get, hx]; rfl
    rw [← htake, List.getElem?_take, if_pos (by omega)] at e
    simp only [World.cell?, hh]
    simpa using e
theorem i64s_set (l : List Int) (k : Nat) (x : Int) : (i64s l).set k (.int .i64 x) = i64s (l.set k x) := by simp [i64s]
theorem OwnInts.len {w : World} {base g n c : Nat} {l : List Int} (h : OwnInts w base (.slice (some ⟨g, 0, none⟩) n c) l) : n = l.length := by
  rcases h.2 with ⟨e1, _⟩ | ⟨g', cap', cur, hv, _⟩
  · cases e1
  · cases hv; rfl
theorem OwnInts.set {w : World} {base g n c : Nat} {l : List Int} (h : OwnInts w base (.slice (some ⟨g, 0, none⟩) n c) l) (j : Nat) (y : Int) (hj : j < n) :
    OwnInts (w.setCell ⟨g, j, none⟩ (.int .i64 y)) base (.slice (some ⟨g, 0, none⟩) n c) (l.set j y) := by
  have e := h.len
  subst e
  show World.ownsRow _ _ _ _ _ _ _
  rw [← i64s_set, List.length_set]
  exact ownsRow_set h j hj _
/-- A row of noughts whose first numbers are laid. -/
def filled (T : List Int) (N k : Nat) : List Int := T.take k ++ List.replicate (N - k) 0
theorem length_filled {T : List Int} {N k : Nat} (hT : T.length = N) (hk : k ≤ N) : (filled T N k).length = N := by simp [filled]; omega
theorem filled_set {T : List Int} {N k : Nat} {y : Int} (hT : T.length = N) (hy : T[k]? = some y) : (filled T N k).set k y = filled T N (k + 1) := by
  have hk : k < T.length := (List.getElem?_eq_some_iff.1 hy).1
  unfold filled
  have e : N - k = (N - (k + 1)) + 1 := by omega
  have hl : (T.take k).length = k := by simp; omega
  rw [e, List.replicate_succ, List.set_append_right _ _ (by omega), hl, Nat.sub_self, List.set_cons_zero, take_next T k y hy]
  simp
theorem filled_same {T : List Int} {N k : Nat} (hT : T.length = N) (hk : k < N) : (filled T N k).set k 0 = filled T N k := by
  unfold filled
  have e : N - k = (N - (k + 1)) + 1 := by omega
  have hl : (T.take k).length = k := by simp; omega
  rw [e, List.replicate_succ, List.set_append_right _ _ (by omega), hl, Nat.sub_self, List.set_cons_zero]
theorem filled_get {T : List Int} {N k : Nat} (hT : T.length = N) (hk : k < N) : (filled T N k)[k]? = some 0 := by
  unfold filled
  have hl : (T.take k).length = k := by simp; omega
  rw [List.getElem?_append_right (by omega), hl, Nat.sub_self]
  have e : N - k = (N - (k + 1)) + 1 := by omega
  rw [e, List.replicate_succ]
  rfl
theorem filled_zero (T : List Int) (N : Nat) : filled T N 0 = List.replicate N 0 := by simp [filled]
theorem filled_end {T : List Int} {N : Nat} (hT : T.length = N) : filled T N N = T := by
  unfold filled
  rw [Nat.sub_self, List.take_of_length_le (by omega)]
  simp

set_option maxHeartbeats 2000000 in
theorem vturn_any (w : World) (a ra : Option Addr) (n m cap rc : Nat) (cs r : List Int) (e k : Int) (hn : cs.length = n) (hm : r.length = m) (h : IntsAt w a cs) (hr : IntsAt w ra r) (h12 : cs.length ≤ 12) (hlr : cs.length + 1 < r.length) (hlr2 : r.length ≤ 1000000)
    (hR : allR r) (hW : within cs 16777216) (he1 : 1 ≤ e) (he2 : e ≤ 1073741824) (hk : k = kOf r cs e) :
    Calls Tryz.prog 89 #[.slice a n cap, .slice ra m rc, .int .i64 e] w fun e w' => e = .returned (.int .i64 k) ∧ w = w' := by
  subst hn hm
  have H : Hid (IntsAt w a cs) := h
  have HR : Hid (IntsAt w ra r) := hr
  have HA : Hid (allR r) := hR
  have HW : Hid (within cs 16777216) := hW
  have HK := hid_of hk
  clear h hr hR hW hk
  obtain ⟨x0, hx0⟩ : ∃ x, r[cs.length + 1]? = some x := ⟨r[cs.length + 1], by simp [hlr]⟩
  obtain ⟨b0, o0, rfl, hc0⟩ := HR.out (cs.length + 1) x0 hx0
  have hxb := HA.out.atD (cs.length + 1)
  rw [getD_of hx0] at hxb
  obtain ⟨hxb1, hxb2⟩ := hxb
  have HX0 : Hid (x0 * 4096 = numTo r cs 0) := by show _ = _; simp only [numTo]; rw [getD_of hx0]
  clear hx0
  go_enter Tryz.func89, Tryz.ntmps89
  go_wp2_with fail
  go_loopw [8, 21] (fun s i wr => ∃ (k : Nat) (t : Int), k ≤ cs.length ∧ s = .int .i64 t ∧ i = .int .i64 k ∧ Hid (t = numTo r cs k) ∧ w = wr) (fun _ i _ => cs.length - (intOf i).toNat)
  case atStart => exact ⟨0, x0 * 4096, Nat.zero_le _, rfl, rfl, HX0.out, rfl⟩
  case round =>
    obtain ⟨j, t, hj, rfl, rfl, ht, rfl⟩ := hrel
    have htb := numTo_small HA.out HW.out j
    rw [← ht.out] at htb
    obtain ⟨ht1, ht2⟩ := htb
    have ht1' : -1152921504606846976 ≤ t := by omega
    have ht2' : t ≤ 1152921504606846976 := by omega
    clear ht1 ht2
    by_cases hjn : j < cs.length
    · obtain ⟨c, hcx⟩ : ∃ x, cs[j]? = some x := ⟨cs[j], by simp [hjn]⟩
      obtain ⟨b1, o1, rfl, hc1⟩ := H.out j c hcx
      obtain ⟨m, hm⟩ : ∃ m, m = cs.length - j := ⟨_, rfl⟩
      have hml : m < r.length := by omega
      obtain ⟨x, hx⟩ : ∃ x, r[m]? = some x := ⟨r[m], by simp [hml]⟩
      have hc2 : w.cell? ⟨b0, o0 + m, none⟩ = some (.int .i64 x) := by
        obtain ⟨b2, o2, e2, hc2⟩ := HR.out m x hx
        cases e2
        exact hc2
      have hmI : (cs.length : Int) - (j : Int) = (m : Int) := by omega
      obtain ⟨p, hp⟩ : ∃ p, p = c * x := ⟨_, rfl⟩
      have g1 := HW.out.atD (by decide) j
      have g2 := HA.out.atD m
      rw [getD_of hcx] at g1
      rw [getD_of hx] at g2
      have hp12 := ar_small g1.1 g1.2 g2.1 g2.2
      rw [← hp] at hp12
      obtain ⟨hp1, hp2⟩ := hp12
      have HP : Hid (c * x = p) := hp.symm
      have HN : Hid (t - p = numTo r cs (j + 1)) := by
        show _ = _
        simp only [numTo]
        rw [getD_of hcx, ← hm, getD_of hx, ← ht.out, hp]
      clear hm hcx hx hp g1 g2
      go_wp2_with fail
      rw [HP.out, Go.IntWalk.wrap64_in p (by omega), Go.IntWalk.wrap64_in (t - p) (by omega)]
      exact ⟨⟨j + 1, t - p, by omega, rfl, by go_num, HN, by trivial⟩, by (simp [intOf]) <;> omega⟩
    · have e0 : j = cs.length := by omega
      obtain ⟨q, hq⟩ : ∃ q, t / e = q := ⟨_, rfl⟩
      have HQ := hid_of hq
      have HKQ : Hid (k = min (max q (-4095)) 4095) := by show _ = _; rw [HK.out, ← hq, ht.out, e0]; rfl
      clear hq HK
      rcases (by omega : q < -4095 ∨ (-4095 ≤ q ∧ q ≤ 4095) ∨ 4095 < q) with h1 | ⟨h1, h2⟩ | h1
      · have e1 : k = -4095 := by have := HKQ.out; omega
        subst e1
        go_wp2_with (go_at_call 104; refine (vfloor_any _ _ _ q (by omega) (by omega) he1 (by omega) HQ.out).mono ?_; rintro e w1 ⟨rfl, rfl⟩)
        go_ret
        exact ⟨rfl, rfl⟩
      · have e1 : k = q := by have := HKQ.out; omega
        subst e1
        go_wp2_with (go_at_call 104; refine (vfloor_any _ _ _ k (by omega) (by omega) he1 (by omega) HQ.out).mono ?_; rintro e w1 ⟨rfl, rfl⟩)
        go_ret
        exact ⟨rfl, rfl⟩
      · have e1 : k = 4095 := by have := HKQ.out; omega
        subst e1
        go_wp2_with (go_at_call 104; refine (vfloor_any _ _ _ q (by omega) (by omega) he1 (by omega) HQ.out).mono ?_; rintro e w1 ⟨rfl, rfl⟩)
        go_ret
        exact ⟨rfl, rfl⟩

set_option maxHeartbeats 2000000 in
theorem vturned_any (w : World) (a : Option Addr) (n cap : Nat) (cs : List Int) (k : Int) (hn : cs.length = n) (h : IntsAt w a cs) (h12 : cs.length ≤ 12)
    (hW : within cs 16777216) (hk1 : -4095 ≤ k) (hk2 : k ≤ 4095) (T : List Int) (hT : T = turnL cs k ++ [k]) :
    Calls Tryz.prog 90 #[.slice a n cap, .int .i64 k] w fun e w' => ∃ v, e = .returned v ∧ OwnInts w' w.heap.size v T ∧ Below w.heap.size w w' := by
  obtain ⟨i0, hi, hz0, hz1, hz2⟩ := info_parts Tryz.info3
  subst hn
  have H : Hid (IntsAt w a cs) := h
  have HW : Hid (within cs 16777216) := hW
  have HT := hid_of hT
  obtain ⟨N, hN⟩ : ∃ N, N = cs.length + 1 := ⟨_, rfl⟩
  have HTL : Hid (T.length = N) := by show _ = _; rw [hT]; simp [hN]
  have hNI : (cs.length : Int) + 1 = (N : Int) := by omega
  have hcN : cs.length < N := by omega
  have hN13 : N ≤ 13 := by omega
  have HTG : Hid (∀ j, j < cs.length → T[j]? = some (cs.getD j 0 - k * cs.getD (cs.length - 1 - j) 0 / 4096)) := by
    intro j hj
    rw [hT, List.getElem?_append_left (by simpa using hj)]
    exact turnL_get cs k hj
  have HTE : Hid (T[cs.length]? = some k) := by
    show _ = _
    rw [hT, List.getElem?_append_right (by simp)]
    simp
  clear h hW hT
  have HNE : Hid (N = cs.length + 1) := hN
  clear hN
  go_enter Tryz.func90, Tryz.ntmps90
  go_wp2_with (at_make; go_must (refine wpList_make_full _ rfl _ _ 22 rfl w.heap.size 3 i0 (.int .i64 0) 1 Tryz.underlying22 hi hz0 hz1 _ _ _ _ N rfl rfl rfl rfl (by rw [hz2]; omega) (by unfold maxLen; omega) (Nat.le_refl _) ?_))
  intro w1 hown hgr
  have HB1 : Hid (Below w.heap.size w w1) := (Below.refl _ _).grown hgr (Nat.le_refl _) (fun k hk => by cases hk)
  have HO1 : Hid (OwnInts w1 w.heap.size (.slice (some ⟨w.heap.size, 0, none⟩) N N) (filled T N 0)) := by
    show World.ownsRow _ _ _ _ _ _ _
    rw [filled_zero]
    have e := madeI N
    rw [Nat.mul_one] at e
    rw [← e, List.length_replicate]; exact hown
  obtain ⟨g, hg⟩ : ∃ g, g = w.heap.size := ⟨_, rfl⟩
  have HG : Hid (w.heap.size ≤ g) := by rw [hg]; exact Nat.le_refl _
  rw [← hg] at HO1 ⊢
  have HGE : Hid (g = w.heap.size) := hg
  clear hown hgr hg
  go_wp2_with fail
  go_loopw [16] (fun i wr => ∃ j : Nat, j ≤ cs.length ∧ i = .int .i64 (j : Int) ∧ Hid (OwnInts wr g (.slice (some ⟨g, 0, none⟩) N N) (filled T N j)) ∧ Hid (Below w.heap.size w wr)) (fun i _ => cs.length - (intOf i).toNat)
  case atStart => exact ⟨0, Nat.zero_le _, rfl, HO1.out, HB1.out⟩
  case round =>
    obtain ⟨j, hj, rfl, ho, hb⟩ := hrel
    by_cases hjn : j < cs.length
    · obtain ⟨c, hcx⟩ : ∃ x, cs[j]? = some x := ⟨cs[j], by simp [hjn]⟩
      obtain ⟨b1, o1, rfl, hc1⟩ := H.out.mono hb.out j c hcx
      obtain ⟨m, hm⟩ : ∃ m, m = cs.length - 1 - j := ⟨_, rfl⟩
      have hml : m < cs.length := by omega
      obtain ⟨x, hx⟩ : ∃ x, cs[m]? = some x := ⟨cs[m], by simp [hml]⟩
      have hc2 : wr.cell? ⟨b1, o1 + m, none⟩ = some (.int .i64 x) := by
        obtain ⟨b2, o2, e2, hc2⟩ := H.out.mono hb.out m x hx
        cases e2
        exact hc2
      have hmI : (cs.length : Int) - 1 - (j : Int) = (m : Int) := by omega
      have hjN : j < N := by omega
      obtain ⟨hrc, hrf⟩ := owni_cell ho.out (filled_get HTL.out hjN)
      obtain ⟨p, hp⟩ : ∃ p, p = k * x := ⟨_, rfl⟩
      have g1 := HW.out.atD (by decide) j
      have g2 := HW.out.atD (by decide) m
      rw [getD_of hcx] at g1
      rw [getD_of hx] at g2
      have hp12 := ka_small hk1 hk2 g2.1 g2.2
      rw [← hp] at hp12
      obtain ⟨hp1, hp2⟩ := hp12
      obtain ⟨g11, g12⟩ := g1
      have HP : Hid (k * x = p) := hp.symm
      have hTj := HTG.out j hjn
      rw [getD_of hcx, ← hm, getD_of hx, ← hp] at hTj
      have HTJ := hid_of hTj
      clear hm hcx hx hp g2 hTj
      go_wp2_with fail
      rw [HP.out, Go.IntWalk.wrap64_in p (by omega), Go.IntWalk.wrap64_in (c - p / 4096) (by omega)]
      refine ⟨⟨j + 1, by omega, by go_num, ?_, hb.out.setCell (by show _ ≤ g; exact HG.out) _⟩, by (simp [intOf]) <;> omega⟩
      show OwnInts _ _ _ _
      rw [← filled_set HTL.out HTJ.out]
      exact ho.out.set j _ hjN
    · have e0 : j = cs.length := by omega
      subst e0
      obtain ⟨hrc, hrf⟩ := owni_cell ho.out (filled_get HTL.out hcN)
      go_wp2_with fail
      go_ret
      refine ⟨_, rfl, ?_, hb.out.setCell (by show _ ≤ g; exact HG.out) _⟩
      have h1 := ho.out.set cs.length k hcN
      rw [filled_set HTL.out HTE.out, ← HNE.out, filled_end HTL.out] at h1
      rw [← HGE.out]
      exact h1

end Go.Proofs.YtlonnoapbfjomabGreat
