/- Auto and Scaled of levin. -/
import Derived.Test.YtlonnoapbfjomabGreatLev2
namespace Go.Proofs.YtlonnoapbfjomabGreat
set_option linter.unusedVariables false
set_option linter.unusedSimpArgs false
open Go.RowKit Dg

theorem set_get {l : List Int} {k : Nat} {y : Int} (h : k < l.length) : (l.set k y)[k]? = some y := by simp [h]
theorem corr_next {x : List Int} {k m i : Nat} {a b : Int} (hi : i = k + m) (ha : x[i]? = some a) (hb : x[m]? = some b) : corr x k (m + 1) = corr x k m + a * b := by
  simp only [corr]
  rw [← hi, getD_of ha, getD_of hb]

set_option maxRecDepth 100000 in
set_option maxHeartbeats 4000000 in
theorem vauto_any (w : World) (a : Option Addr) (cap : Nat) (l : List Int) (o : Int) (h : IntsAt w a l) (hl : l.length ≤ 1000000) (R : List Int × Int) (hR : R = autoOut l o) :
    Calls Tryz.prog 87 #[.slice a l.length cap, .int .i64 o] w fun e w' => Gave w w' R e := by
  obtain ⟨i0, hi, hz0, hz1, hz2⟩ := info_parts Tryz.info3
  unfold autoOut at hR
  have H : Hid (IntsAt w a l) := h
  clear h
  by_cases h1 : o < 0 ∨ 12 < o
  · rw [if_pos h1] at hR
    have HR := hid_of hR
    clear hR
    rcases (by omega : o < 0 ∨ (0 ≤ o ∧ 12 < o)) with h2 | ⟨h2, h3⟩
    all_goals
      clear h1
      go_enter Tryz.func87, Tryz.ntmps87
      go_wp2_with fail
      go_ret2
      exact Gave.none HR.out (Below.refl _ _)
  rw [if_neg h1] at hR
  obtain ⟨h2, h3⟩ : 0 ≤ o ∧ o ≤ 12 := by omega
  clear h1
  by_cases hS : allS l
  case neg =>
    rw [if_neg hS] at hR
    have HT : Hid (false = decide (allS l)) := (decide_eq_false hS).symm
    have HR := hid_of hR
    clear hR hS
    go_enter Tryz.func87, Tryz.ntmps87
    go_wp2_with (go_at_call 102; refine (vare_any _ _ _ _ H.out hl false HT.out).mono ?_; rintro e w1 ⟨rfl, rfl⟩)
    go_ret2
    exact Gave.none HR.out (Below.refl _ _)
  rw [if_pos hS] at hR
  have HT : Hid (true = decide (allS l)) := (decide_eq_true hS).symm
  by_cases h64 : 64 < l.length
  · rw [if_pos h64] at hR
    have HR := hid_of hR
    clear hR hS
    go_enter Tryz.func87, Tryz.ntmps87
    go_wp2_with (go_at_call 102; refine (vare_any _ _ _ _ H.out hl true HT.out).mono ?_; rintro e w1 ⟨rfl, rfl⟩)
    go_ret2
    exact Gave.none HR.out (Below.refl _ _)
  rw [if_neg h64] at hR
  have HS : Hid (allS l) := hS
  obtain ⟨N, hN⟩ : ∃ N, N = o.toNat + 1 := ⟨_, rfl⟩
  obtain ⟨T, hTT⟩ : ∃ T, T = autoL l N := ⟨_, rfl⟩
  have HTL : Hid (T.length = N) := by show _ = _; rw [hTT]; simp
  have HTG : Hid (∀ k, k < N → T[k]? = some (autoZ l k)) := by intro k hk; rw [hTT]; exact autoL_get l hk
  rw [← hN, ← hTT] at hR
  have HR := hid_of hR
  have HON : Hid (o + 1 = (N : Int)) := by show _ = _; omega
  have hN13 : N ≤ 13 := by omega
  have hN1 : 1 ≤ N := by omega
  have h64' : l.length ≤ 64 := by omega
  clear hR hS hTT hN h64
  go_enter Tryz.func87, Tryz.ntmps87
  go_wp2_with first
    | (go_at_call 102; refine (vare_any _ _ _ _ H.out hl true HT.out).mono ?_; rintro e w1 ⟨rfl, rfl⟩)
    | (at_make; go_must (refine wpList_make_full _ rfl _ _ 22 rfl w.heap.size 3 i0 (.int .i64 0) 1 Tryz.underlying22 hi hz0 hz1 _ _ _ _ N rfl rfl HON.out HON.out (by rw [hz2]; omega) (by unfold maxLen; omega) (Nat.le_refl _) ?_))
  intro w1 hown hgr
  have HB1 : Hid (Below w.heap.size w w1) := (Below.refl _ _).grown hgr (Nat.le_refl _) (fun k hk => by cases hk)
  have HO1 : Hid (OwnInts w1 w.heap.size (.slice (some ⟨w.heap.size, 0, none⟩) N N) (filled T N 0)) := by
    show World.ownsRow _ _ _ _ _ _ _
    rw [filled_zero]
    have e := madeI N
    rw [Nat.mul_one] at e
    rw [← e, List.length_replicate]; exact hown
  obtain ⟨g, hg⟩ : ∃ g, g = w.heap.size := ⟨_, rfl⟩
  have HG : Hid (w.heap.size ≤ g) := by rw [hg]; exact Nat.le_refl _
  rw [← hg] at HO1 ⊢
  have HGE : Hid (g = w.heap.size) := hg
  clear hown hgr hg
  go_wp2_with fail
  go_loopw [26] (fun i wr => ∃ k : Nat, k ≤ N ∧ i = .int .i64 (k : Int) ∧ Hid (OwnInts wr g (.slice (some ⟨g, 0, none⟩) N N) (filled T N k)) ∧ Hid (Below w.heap.size w wr)) (fun i _ => N - (intOf i).toNat)
  case atStart => exact ⟨0, Nat.zero_le _, rfl, HO1.out, HB1.out⟩
  case round =>
    obtain ⟨k, hk, rfl, ho, hb⟩ := hrel
    by_cases hkN : k < N
    · obtain ⟨fl, hfl⟩ : ∃ fl, fl = filled T N k := ⟨_, rfl⟩
      have HFL := hid_of hfl
      have HFN : Hid (fl.length = N) := by show _ = _; rw [hfl]; exact length_filled HTL.out (by omega)
      have HO : Hid (OwnInts wr g (.slice (some ⟨g, 0, none⟩) N N) (fl.set k 0)) := by
        show OwnInts _ _ _ _
        rw [hfl, filled_same HTL.out hkN]
        exact ho.out
      clear hfl ho
      have HBO : Hid (Below w.heap.size w wr) := hb.out
      clear hb HO1 HB1
      go_wp2_with fail
      go_loopw [8] (fun i ws => ∃ m : Nat, i = .int .i64 ((k + m : Nat) : Int) ∧ (k + m ≤ l.length ∨ m = 0) ∧ Hid (OwnInts ws g (.slice (some ⟨g, 0, none⟩) N N) (fl.set k (corr l k m))) ∧ Hid (Below w.heap.size w ws)) (fun i _ => l.length - (intOf i).toNat)
      case atStart => exact ⟨0, rfl, .inr rfl, HO.out, HBO.out⟩
      case round =>
        obtain ⟨m, rfl, hm, ho, hb⟩ := hrel
        by_cases hml : k + m < l.length
        · obtain ⟨i, hik⟩ : ∃ i, i = k + m := ⟨_, rfl⟩
          obtain ⟨x, hx⟩ : ∃ x, l[i]? = some x := ⟨l[i]'(by omega), by simp⟩
          obtain ⟨y, hy⟩ : ∃ y, l[m]? = some y := ⟨l[m]'(by omega), by simp⟩
          obtain ⟨b1, o1, rfl, hc1⟩ := H.out.mono hb.out i x hx
          have hc2 : wr.cell? ⟨b1, o1 + m, none⟩ = some (.int .i64 y) := by
            obtain ⟨b2, o2, e2, hc2⟩ := H.out.mono hb.out m y hy
            cases e2
            exact hc2
          have hiI : (i : Int) - (k : Int) = (m : Int) := by omega
          have hil : i < l.length := by omega
          have hmL : m < l.length := by omega
          obtain ⟨t, ht⟩ : ∃ t, t = corr l k m := ⟨_, rfl⟩
          have htb := corr_small HS.out k m
          rw [← ht] at htb ho
          obtain ⟨ht1, ht2⟩ := htb
          have ht1' : -9007199254740992 ≤ t := by omega
          have ht2' : t ≤ 9007199254740992 := by omega
          clear ht1 ht2
          obtain ⟨hrc, hrf⟩ := owni_cell ho.out (set_get (by rw [HFN.out]; exact hkN))
          obtain ⟨p, hp⟩ : ∃ p, p = x * y := ⟨_, rfl⟩
          have hp12 := mul_s (HS.out x (List.mem_of_getElem? hx)) (HS.out y (List.mem_of_getElem? hy))
          rw [← hp] at hp12
          obtain ⟨hp1, hp2⟩ := hp12
          have HP : Hid (x * y = p) := hp.symm
          have HN : Hid (corr l k (m + 1) = t + p) := by show _ = _; rw [corr_next hik hx hy, ← ht, hp]
          have HI1 : Hid (i + 1 = k + (m + 1)) := by show _ = _; omega
          rw [← hik]
          clear hik hm hml hx hy hp ht
          go_wp2_with fail
          go_region
          all_goals
            go_wp2_with fail
            rw [HP.out, Go.IntWalk.wrap64_in p (by omega), Go.IntWalk.wrap64_in (t + p) (by omega)]
            refine ⟨⟨m + 1, by rw [← HI1.out]; go_num, .inl (by have := HI1.out; omega), ?_, (hb.out.setCell (by show _ ≤ g; exact HG.out) _).drew⟩, by (simp [intOf]) <;> omega⟩
            show OwnInts _ _ _ _
            rw [HN.out]
            have h1 := ho.out.set k (t + p) hkN
            rw [List.set_set] at h1
            exact World.ownsRow.drew h1
        · have HE : Hid (OwnInts wr g (.slice (some ⟨g, 0, none⟩) N N) (filled T N (k + 1))) := by
            have e1 : corr l k m = autoZ l k := by
              unfold autoZ
              rcases hm with h | h
              · rw [show l.length - k = m by omega]
              · subst h
                rw [show l.length - k = 0 by omega]
            have h1 := ho.out
            rw [e1, HFL.out, filled_set HTL.out (HTG.out k hkN)] at h1
            exact h1
          obtain ⟨i, hik⟩ : ∃ i, i = k + m := ⟨_, rfl⟩
          have hil : l.length ≤ i := by omega
          rw [← hik]
          clear hik hm ho hml
          go_wp2_with fail
          exact ⟨⟨k + 1, by omega, by go_num, HE, hb⟩, by (simp [intOf]) <;> omega⟩
    · have e0 : k = N := by omega
      subst e0
      go_wp2_with fail
      go_ret2
      rw [HR.out]
      refine ⟨_, rfl, ?_, hb.out⟩
      have h1 := ho.out
      rw [filled_end HTL.out] at h1
      rw [← HGE.out]
      exact h1

set_option maxRecDepth 100000 in
set_option maxHeartbeats 4000000 in
theorem vscaled_any (w : World) (a : Option Addr) (cap : Nat) (l : List Int) (s : Nat) (h : IntsAt w a l) (hl : l.length ≤ 1000000) (hs : isR l → IsShift (l.getD 0 0) s) (R : List Int × Int) (hR : R = scOut l s) :
    Calls Tryz.prog 88 #[.slice a l.length cap] w fun e w' => Gave w w' R e := by
  obtain ⟨i0, hi, hz0, hz1, hz2⟩ := info_parts Tryz.info3
  unfold scOut at hR
  have H : Hid (IntsAt w a l) := h
  clear h
  by_cases h0 : l.length = 0
  · rw [if_neg (fun h => by have := h.1; omega)] at hR
    have HR := hid_of hR
    have hb0 : ((l.length : Int) == 0) = true := beq_iff_eq.2 (by omega)
    clear hR hs
    go_enter Tryz.func88, Tryz.ntmps88
    go_wp2_with fail
    go_ret2
    exact Gave.none HR.out (Below.refl _ _)
  have hb0 : ((l.length : Int) == 0) = false := beq_eq_false_iff_ne.2 (by omega)
  have h0' : 0 < l.length := by omega
  clear h0
  obtain ⟨x0, hx0⟩ : ∃ x, l[0]? = some x := ⟨l[0], by simp [h0']⟩
  obtain ⟨b0, o0, rfl, hc0⟩ := H.out 0 x0 hx0
  rw [Nat.add_zero] at hc0
  by_cases hx : x0 < 0
  · rw [if_neg (fun h => by have := h.2.1; rw [getD_of hx0] at this; omega)] at hR
    have HR := hid_of hR
    clear hR hs hx0
    go_enter Tryz.func88, Tryz.ntmps88
    go_wp2_with fail
    go_ret2
    exact Gave.none HR.out (Below.refl _ _)
  by_cases hB : allB l
  case neg =>
    rw [if_neg (fun h => hB h.2.2)] at hR
    have HT : Hid (false = decide (allB l)) := (decide_eq_false hB).symm
    have HR := hid_of hR
    clear hR hs hx0 hB
    go_enter Tryz.func88, Tryz.ntmps88
    go_wp2_with (go_at_call 103; refine (vsmall_any _ _ _ _ H.out hl false HT.out).mono ?_; rintro e w1 ⟨rfl, rfl⟩)
    go_ret2
    exact Gave.none HR.out (Below.refl _ _)
  have hRR : isR l := ⟨h0', by rw [getD_of hx0]; omega, hB⟩
  rw [if_pos hRR] at hR
  have hS := hs hRR
  rw [getD_of hx0] at hS
  have hxb := hB x0 (List.mem_of_getElem? hx0)
  obtain ⟨hx1, hx2⟩ := hxb
  have hs31 : s ≤ 31 := shift_le hx2 hS
  have HS := hid_of hS
  have HT : Hid (true = decide (allB l)) := (decide_eq_true hB).symm
  have HBB : Hid (allB l) := hB
  obtain ⟨T, hTT⟩ : ∃ T, T = scaleL l s := ⟨_, rfl⟩
  have HTL : Hid (T.length = l.length) := by show _ = _; rw [hTT]; simp
  have HTG : Hid (∀ (k : Nat) (x : Int), l[k]? = some x → T[k]? = some (x / 2 ^ s)) := by intro k x hk; rw [hTT]; exact scaleL_get hk
  rw [← hTT] at hR
  have HR := hid_of hR
  clear hR hS hTT hB hRR hs hx0
  go_enter Tryz.func88, Tryz.ntmps88
  go_wp2_with (go_at_call 103; refine (vsmall_any _ _ _ _ H.out hl true HT.out).mono ?_; rintro e w1 ⟨rfl, rfl⟩)
  go_loopw [4] (fun i wr => ∃ t : Nat, t ≤ s ∧ i = .int .i64 (t : Int) ∧ w = wr) (fun i _ => s - (intOf i).toNat)
  case atStart => exact ⟨0, Nat.zero_le _, rfl, rfl⟩
  case round =>
    obtain ⟨t, ht, rfl, rfl⟩ := hrel
    by_cases hts : t < s
    · have hbig : 1073741823 < x0 / 2 ^ t := by have := HS.out.2 t hts; omega
      go_wp2_with fail
      exact ⟨⟨t + 1, by omega, by go_num, by trivial⟩, by (simp [intOf]) <;> omega⟩
    · have e : t = s := by omega
      subst e
      have hbig : x0 / 2 ^ t ≤ 1073741823 := by have := HS.out.1; omega
      go_wp2_with (at_make; go_must (refine wpList_make_full _ rfl _ _ 22 rfl w.heap.size 3 i0 (.int .i64 0) 1 Tryz.underlying22 hi hz0 hz1 _ _ _ _ l.length rfl rfl rfl rfl (by rw [hz2]; omega) (by unfold maxLen; omega) (Nat.le_refl _) ?_))
      intro w1 hown hgr
      have HB1 : Hid (Below w.heap.size w w1) := (Below.refl _ _).grown hgr (Nat.le_refl _) (fun k hk => by cases hk)
      have HO1 : Hid (OwnInts w1 w.heap.size (.slice (some ⟨w.heap.size, 0, none⟩) l.length l.length) (filled T l.length 0)) := by
        show World.ownsRow _ _ _ _ _ _ _
        rw [filled_zero]
        have e := madeI l.length
        rw [Nat.mul_one] at e
        rw [← e, List.length_replicate]; exact hown
      obtain ⟨g, hg⟩ : ∃ g, g = w.heap.size := ⟨_, rfl⟩
      have HG : Hid (w.heap.size ≤ g) := by rw [hg]; exact Nat.le_refl _
      rw [← hg] at HO1 ⊢
      have HGE : Hid (g = w.heap.size) := hg
      clear hown hgr hg
      go_wp2_with fail
      go_loopw [35] (fun i wr => ∃ k : Nat, k ≤ l.length ∧ i = .int .i64 (k : Int) ∧ Hid (OwnInts wr g (.slice (some ⟨g, 0, none⟩) l.length l.length) (filled T l.length k)) ∧ Hid (Below w.heap.size w wr)) (fun i _ => l.length - (intOf i).toNat)
      case atStart => exact ⟨0, Nat.zero_le _, rfl, HO1.out, HB1.out⟩
      case round =>
        obtain ⟨k, hk, rfl, ho, hb⟩ := hrel
        by_cases hkN : k < l.length
        · obtain ⟨x, hx⟩ : ∃ x, l[k]? = some x := ⟨l[k], by simp [hkN]⟩
          have hc1 : wr.cell? ⟨b0, o0 + k, none⟩ = some (.int .i64 x) := by
            obtain ⟨b2, o2, e2, hc2⟩ := H.out.mono hb.out k x hx
            cases e2
            exact hc2
          obtain ⟨hrc, hrf⟩ := owni_cell ho.out (filled_get HTL.out hkN)
          have HTK := hid_of (HTG.out k x hx)
          have HX := hid_of hx
          clear hx
          go_wp2_with fail
          refine ⟨⟨k + 1, by omega, by go_num, ?_, hb.out.setCell (by show _ ≤ g; exact HG.out) _⟩, by (simp [intOf]) <;> omega⟩
          show OwnInts _ _ _ _
          rw [← filled_set HTL.out HTK.out]
          exact ho.out.set k _ hkN
        · have e0 : k = l.length := by omega
          subst e0
          go_wp2_with fail
          go_ret2
          rw [HR.out]
          refine ⟨_, rfl, ?_, hb.out⟩
          have h1 := ho.out
          rw [filled_end HTL.out] at h1
          rw [← HGE.out]
          exact h1

end Go.Proofs.YtlonnoapbfjomabGreat
