/- The document's own Auto and Scaled; its example. -/
import Derived.Test.YtlonnoapbfjomabGreatLev4
namespace Go.Proofs.YtlonnoapbfjomabGreat
set_option linter.unusedVariables false
set_option linter.unusedSimpArgs false
open Go.RowKit Dg

theorem autoL_take (x : List Int) {k n : Nat} (h : k ≤ n) : (autoL x n).take k = autoL x k := by
  unfold autoL
  rw [← List.map_take, List.take_range, Nat.min_eq_left h]

set_option maxRecDepth 100000 in
set_option maxHeartbeats 4000000 in
theorem rauto_any (w : World) (a : Option Addr) (cap : Nat) (l : List Int) (o : Int) (h : IntsAt w a l) (hl : l.length ≤ 1000000) (R : List Int × Int) (hR : R = autoOut l o) :
    Calls Tryz.prog 44 #[.slice a l.length cap, .int .i64 o] w fun e w' => Gave w w' R e := by
  obtain ⟨i0, hi, hz0, hz1, hz2⟩ := info_parts Tryz.info3
  unfold autoOut at hR
  have H : Hid (IntsAt w a l) := h
  clear h
  by_cases h1 : o < 0 ∨ 12 < o
  · rw [if_pos h1] at hR
    have HR := hid_of hR
    clear hR
    rcases (by omega : o < 0 ∨ (0 ≤ o ∧ 12 < o)) with h2 | ⟨h2, h3⟩
    all_goals
      clear h1
      go_enter Tryz.func44, Tryz.ntmps44
      go_wp2_with fail
      go_ret2
      exact Gave.none HR.out (Below.refl _ _)
  rw [if_neg h1] at hR
  obtain ⟨h2, h3⟩ : 0 ≤ o ∧ o ≤ 12 := by omega
  clear h1
  by_cases hS : allS l
  case neg =>
    rw [if_neg hS] at hR
    have HT : Hid (8 = mayZ l) := by show _ = _; unfold mayZ; rw [if_neg hS]
    have HR := hid_of hR
    clear hR hS
    go_enter Tryz.func44, Tryz.ntmps44
    go_wp2_with (go_at_call 10; refine (rmay_any _ _ _ _ H.out hl 8 HT.out).mono ?_; rintro e w1 ⟨rfl, rfl⟩)
    go_ret2
    exact Gave.none HR.out (Below.refl _ _)
  rw [if_pos hS] at hR
  by_cases h64 : 64 < l.length
  · rw [if_pos h64] at hR
    have HT : Hid (4 = mayZ l) := by show _ = _; unfold mayZ; rw [if_pos hS, if_pos h64]
    have HR := hid_of hR
    clear hR hS
    go_enter Tryz.func44, Tryz.ntmps44
    go_wp2_with (go_at_call 10; refine (rmay_any _ _ _ _ H.out hl 4 HT.out).mono ?_; rintro e w1 ⟨rfl, rfl⟩)
    go_ret2
    exact Gave.none HR.out (Below.refl _ _)
  rw [if_neg h64] at hR
  have HT : Hid (0 = mayZ l) := by show _ = _; unfold mayZ; rw [if_pos hS, if_neg h64]
  have HS : Hid (allS l) := hS
  obtain ⟨n, hn⟩ : ∃ n : Nat, o = (n : Int) := ⟨o.toNat, by omega⟩
  subst hn
  rw [Int.toNat_natCast] at hR
  have HR := hid_of hR
  have hn12 : n ≤ 12 := by omega
  have h64' : l.length ≤ 64 := by omega
  clear hR hS h64 h2 h3
  go_enter Tryz.func44, Tryz.ntmps44
  go_wp2_with (go_at_call 10; refine (rmay_any _ _ _ _ H.out hl 0 HT.out).mono ?_; rintro e w1 ⟨rfl, rfl⟩)
  go_loopw [7, 8] (fun v i wr => ∃ k : Nat, k ≤ n + 1 ∧ i = .int .i64 (k : Int) ∧ Hid (OwnInts wr w.heap.size v (autoL l k)) ∧ Hid (Below w.heap.size w wr)) (fun _ i _ => n + 1 - (intOf i).toNat)
  case atStart => exact ⟨0, Nat.zero_le _, rfl, OwnInts.nil _ _, Below.refl _ _⟩
  case round =>
    obtain ⟨k, hk, rfl, ho, hb⟩ := hrel
    by_cases hkN : k ≤ n
    · have hkb : decide ((k : Int) ≤ (n : Int)) = true := decide_eq_true (by omega)
      have hkb2 : decide (k ≤ n) = true := decide_eq_true hkN
      have hok : (autoL l k).length ≤ 1000000 := by simp; omega
      have hsz : w.heap.size ≤ wr.heap.size := hb.out.size
      have HAT : Hid (IntsAt wr a l) := H.out.mono hb.out
      go_wp2_with fail
      go_loopw [9, 10] (fun s i ws => ∃ (m d : Nat) (t : Int), s = .int .i64 t ∧ i = .int .i64 ((k + m : Nat) : Int) ∧ (k + m ≤ l.length ∨ m = 0) ∧ Hid (t = corr l k m) ∧ ws = wr.drewN d) (fun _ i _ => l.length - (intOf i).toNat)
      case atStart => exact ⟨0, 0, 0, rfl, rfl, .inr rfl, rfl, rfl⟩
      case round =>
        obtain ⟨m, d, t, rfl, rfl, hm, ht, rfl⟩ := hrel
        by_cases hml : k + m < l.length
        · obtain ⟨i, hik⟩ : ∃ i, i = k + m := ⟨_, rfl⟩
          obtain ⟨x, hx⟩ : ∃ x, l[i]? = some x := ⟨l[i]'(by omega), by simp⟩
          obtain ⟨y, hy⟩ : ∃ y, l[m]? = some y := ⟨l[m]'(by omega), by simp⟩
          obtain ⟨b1, o1, rfl, hc1⟩ := HAT.out i x hx
          have hc2 : wr.cell? ⟨b1, o1 + m, none⟩ = some (.int .i64 y) := by
            obtain ⟨b2, o2, e2, hc2⟩ := HAT.out m y hy
            cases e2
            exact hc2
          have hiI : (i : Int) - (k : Int) = (m : Int) := by omega
          have hil : i < l.length := by omega
          have hmL : m < l.length := by omega
          have htb := corr_small HS.out k m
          rw [← ht.out] at htb
          obtain ⟨ht1, ht2⟩ := htb
          have ht1' : -9007199254740992 ≤ t := by omega
          have ht2' : t ≤ 9007199254740992 := by omega
          clear ht1 ht2
          obtain ⟨p, hp⟩ : ∃ p, p = x * y := ⟨_, rfl⟩
          have hp12 := mul_s (HS.out x (List.mem_of_getElem? hx)) (HS.out y (List.mem_of_getElem? hy))
          rw [← hp] at hp12
          obtain ⟨hp1, hp2⟩ := hp12
          have HP : Hid (x * y = p) := hp.symm
          have HN : Hid (t + p = corr l k (m + 1)) := by show _ = _; rw [corr_next hik hx hy, ← ht.out, hp]
          have HI1 : Hid (i + 1 = k + (m + 1)) := by show _ = _; omega
          rw [← hik]
          clear hik hm hml hx hy hp
          go_wp2_with fail
          go_quiet (fail)
          go_wp2_with fail
          rw [HP.out, Go.IntWalk.wrap64_in p (by omega), Go.IntWalk.wrap64_in (t + p) (by omega)]
          exact ⟨⟨m + 1, d + nq, t + p, rfl, by rw [← HI1.out]; go_num, .inl (by have := HI1.out; omega), HN, rfl⟩, by (simp [intOf]) <;> omega⟩
        · have e1 : t = autoZ l k := by
            rw [ht.out]
            unfold autoZ
            rcases hm with h | h
            · rw [show l.length - k = m by omega]
            · subst h
              rw [show l.length - k = 0 by omega]
          have HE : Hid (autoL l (k + 1) = autoL l k ++ [t]) := by show _ = _; rw [e1]; exact autoL_next l k
          obtain ⟨i, hik⟩ : ∃ i, i = k + m := ⟨_, rfl⟩
          have hil : l.length ≤ i := by omega
          rw [← hik]
          clear hik hm hml e1 ht
          go_wp2_with (at_builtin; go_must (refine wpList_append_int (wr.drewN d) rfl (.tmp 47) (.tmp 49) 22 rfl w.heap.size i0 Tryz.underlying22 hi hz0 hz1 hz2 u7 (autoL l k) (by rfl) (ho.out.drewN d) t (by rfl) hok hsz ?_))
          intro v' w' h1 h2
          have HO' : Hid (OwnInts w' w.heap.size v' (autoL l (k + 1))) := by rw [HE.out]; exact h1
          have HB' : Hid (Below w.heap.size w w') := (below_drewN hb.out d).trans h2.out
          clear h1 h2
          go_wp2_with fail
          exact ⟨⟨k + 1, by omega, by go_num, HO', HB'⟩, by (simp [intOf]) <;> omega⟩
    · have e0 : k = n + 1 := by omega
      have hkb : decide ((k : Int) ≤ (n : Int)) = false := decide_eq_false (by omega)
      have hkb2 : decide (k ≤ n) = false := decide_eq_false (by omega)
      have HO : Hid (OwnInts wr w.heap.size u7 (autoL l (n + 1))) := by rw [← e0]; exact ho.out
      clear ho e0
      go_wp2_with fail
      go_ret2
      rw [HR.out]
      exact ⟨_, rfl, HO.out, hb.out⟩

theorem pow_fit {t : Nat} (h : t ≤ 31) : wrap64 (2 ^ t) = 2 ^ t ∧ (1 : Int) ≤ 2 ^ t ∧ (2 : Int) ^ t ≤ 4611686018427387904 := by
  have h1 : (1 : Int) ≤ 2 ^ t := Int.pow_pos (by decide)
  have h2 : (2 : Nat) ^ t ≤ 2 ^ 31 := Nat.pow_le_pow_right (by decide) h
  have h3 : (2 : Int) ^ t = ((2 ^ t : Nat) : Int) := by simp
  refine ⟨Go.IntWalk.wrap64_in _ ?_, h1, ?_⟩
  · rw [h3]; omega
  · rw [h3]; omega
theorem scaleL_next {l : List Int} {s k : Nat} {x : Int} (h : l[k]? = some x) : (scaleL l s).take (k + 1) = (scaleL l s).take k ++ [x / 2 ^ s] := take_next _ _ _ (scaleL_get h)

set_option maxRecDepth 100000 in
set_option maxHeartbeats 4000000 in
theorem rscaled_any (w : World) (a : Option Addr) (cap : Nat) (l : List Int) (s : Nat) (h : IntsAt w a l) (hl : l.length ≤ 1000000) (hs : isR l → IsShift (l.getD 0 0) s) (R : List Int × Int) (hR : R = scOut l s) :
    Calls Tryz.prog 45 #[.slice a l.length cap] w fun e w' => Gave w w' R e := by
  obtain ⟨i0, hi, hz0, hz1, hz2⟩ := info_parts Tryz.info3
  unfold scOut at hR
  have H : Hid (IntsAt w a l) := h
  clear h
  by_cases h0 : l.length = 0
  · rw [if_neg (fun h => by have := h.1; omega)] at hR
    have HR := hid_of hR
    have hb0 : ((l.length : Int) == 0) = true := beq_iff_eq.2 (by omega)
    clear hR hs
    go_enter Tryz.func45, Tryz.ntmps45
    go_wp2_with fail
    go_ret2
    exact Gave.none HR.out (Below.refl _ _)
  have hb0 : ((l.length : Int) == 0) = false := beq_eq_false_iff_ne.2 (by omega)
  have h0' : 0 < l.length := by omega
  clear h0
  obtain ⟨x0, hx0⟩ : ∃ x, l[0]? = some x := ⟨l[0], by simp [h0']⟩
  obtain ⟨b0, o0, rfl, hc0⟩ := H.out 0 x0 hx0
  rw [Nat.add_zero] at hc0
  by_cases hx : x0 < 0
  · rw [if_neg (fun h => by have := h.2.1; rw [getD_of hx0] at this; omega)] at hR
    have HR := hid_of hR
    clear hR hs hx0
    go_enter Tryz.func45, Tryz.ntmps45
    go_wp2_with fail
    go_ret2
    exact Gave.none HR.out (Below.refl _ _)
  have HS : Hid (isR l → IsShift x0 s) := by intro h1; have := hs h1; rw [getD_of hx0] at this; exact this
  have HR : Hid (R = if isR l then (scaleL l s, (s : Int)) else ([], 0)) := hR
  have HX0 : Hid (allB l → isR l) := fun h1 => ⟨h0', by rw [getD_of hx0]; omega, h1⟩
  have HXM : Hid (allB l → isB x0) := fun h1 => h1 x0 (List.mem_of_getElem? hx0)
  clear hs hR hx0
  go_enter Tryz.func45, Tryz.ntmps45
  go_wp2_with fail
  go_loopw [19] (fun i wr => ∃ k : Nat, k ≤ l.length ∧ i = .int .i64 k ∧ Hid (allB (l.take k)) ∧ w = wr) (fun i _ => l.length - (intOf i).toNat)
  case atStart => exact ⟨0, Nat.zero_le _, rfl, fun x hx => by simp at hx, rfl⟩
  case round =>
    obtain ⟨k, hk, rfl, hall, rfl⟩ := hrel
    by_cases hkn : k < l.length
    · obtain ⟨x, hx1⟩ : ∃ x, l[k]? = some x := ⟨l[k], by simp [hkn]⟩
      have hc : w.cell? ⟨b0, o0 + k, none⟩ = some (.int .i64 x) := by
        obtain ⟨b2, o2, e2, hc2⟩ := H.out k x hx1
        cases e2
        exact hc2
      have HX : Hid (l[k]? = some x) := hx1
      clear hx1
      have hbad : ¬ isB x → R = ([], 0) := fun hn => by
        rw [HR.out]
        exact if_neg (fun ha => hn (ha.2.2 x (List.mem_of_getElem? HX.out)))
      by_cases hlo : x < -1152921504606846976
      · have HR0 := hid_of (hbad (by unfold isB; omega))
        clear hbad
        go_wp2_with fail
        go_ret2
        exact Gave.none HR0.out (Below.refl _ _)
      · by_cases hhi : 1152921504606846976 < x
        · have HR0 := hid_of (hbad (by unfold isB; omega))
          clear hbad
          go_wp2_with fail
          go_ret2
          exact Gave.none HR0.out (Below.refl _ _)
        · clear hbad
          go_wp2_with fail
          refine ⟨⟨k + 1, by omega, by go_num, ?_, by trivial⟩, by (simp [intOf]) <;> omega⟩
          show allB _
          rw [take_next l k x HX.out]
          exact hall.out.snoc (by unfold isB; omega)
    · have e : k = l.length := by omega
      subst e
      have hB : allB l := by
        have := hall.out
        rw [List.take_length] at this
        exact this
      have hS := HS.out (HX0.out hB)
      obtain ⟨hx1, hx2⟩ := HXM.out hB
      have hs31 : s ≤ 31 := shift_le hx2 hS
      have HSS := hid_of hS
      have HBB := hid_of hB
      have HRR : Hid (R = (scaleL l s, (s : Int))) := by show _ = _; rw [HR.out, if_pos (HX0.out hB)]
      obtain ⟨S, hSS⟩ : ∃ S, S = scaleL l s := ⟨_, rfl⟩
      have HSL : Hid (S.length = l.length) := by show _ = _; rw [hSS]; simp
      have HSN : Hid (∀ (k : Nat) (x : Int), l[k]? = some x → S.take (k + 1) = S.take k ++ [x / 2 ^ s]) := by intro k x h; rw [hSS]; exact scaleL_next h
      rw [← hSS] at HRR
      clear hS hB hall hk hkn HS HX0 HXM HR hSS
      go_wp2_with fail
      go_loopw [5] (fun i wr => ∃ t : Nat, t ≤ s ∧ i = .int .i64 (t : Int) ∧ w = wr) (fun i _ => s - (intOf i).toNat)
      case atStart => exact ⟨0, Nat.zero_le _, rfl, rfl⟩
      case round =>
        obtain ⟨t, ht, rfl, rfl⟩ := hrel
        obtain ⟨hp1, hp2, hp3⟩ := pow_fit (t := t) (by omega)
        obtain ⟨q, hq⟩ : ∃ q, x0 / 2 ^ t = q := ⟨_, rfl⟩
        have HQ := hid_of hq
        by_cases hts : t < s
        · have hbig : 1073741824 ≤ q := by have := HSS.out.2 t hts; omega
          clear hq
          go_wp2_with (go_at_call 46; refine (rdown2_any _ _ _ q (by omega) (by omega) hp2 hp3 HQ.out).mono ?_; rintro e w1 ⟨rfl, rfl⟩)
          exact ⟨⟨t + 1, by omega, by go_num, by trivial⟩, by (simp [intOf]) <;> omega⟩
        · have e : t = s := by omega
          subst e
          have hbig : q < 1073741824 := by have := HSS.out.1; omega
          clear hq
          go_wp2_with (go_at_call 46; refine (rdown2_any _ _ _ q (by omega) (by omega) hp2 hp3 HQ.out).mono ?_; rintro e w1 ⟨rfl, rfl⟩)
          clear HQ hbig
          go_loopw [6, 47] (fun v i wr => ∃ k : Nat, k ≤ l.length ∧ i = .int .i64 (k : Int) ∧ Hid (OwnInts wr w.heap.size v (S.take k)) ∧ Hid (Below w.heap.size w wr)) (fun _ i _ => l.length - (intOf i).toNat)
          case atStart => exact ⟨0, Nat.zero_le _, rfl, OwnInts.nil _ _, Below.refl _ _⟩
          case round =>
            obtain ⟨k, hk, rfl, ho, hb⟩ := hrel
            by_cases hkN : k < l.length
            · obtain ⟨x, hx1⟩ : ∃ x, l[k]? = some x := ⟨l[k], by simp [hkN]⟩
              have hc1 : wr.cell? ⟨b0, o0 + k, none⟩ = some (.int .i64 x) := by
                obtain ⟨b2, o2, e2, hc2⟩ := H.out.mono hb.out k x hx1
                cases e2
                exact hc2
              obtain ⟨hxb1, hxb2⟩ := HBB.out x (List.mem_of_getElem? hx1)
              obtain ⟨q, hq⟩ : ∃ q, x / 2 ^ t = q := ⟨_, rfl⟩
              have HQ := hid_of hq
              have HN := hid_of (HSN.out k x hx1)
              rw [hq] at HN
              have hok : (S.take k).length ≤ 1000000 := by rw [List.length_take, HSL.out]; omega
              have hsz : w.heap.size ≤ wr.heap.size := hb.out.size
              clear hx1 hq
              go_wp2_with first
                | (go_at_call 46; refine (rdown2_any _ _ _ q (by omega) (by omega) hp2 hp3 HQ.out).mono ?_; rintro e w1 ⟨rfl, rfl⟩)
                | (at_builtin; go_must (refine wpList_append_int wr rfl (.tmp 50) (.tmp 59) 22 rfl w.heap.size i0 Tryz.underlying22 hi hz0 hz1 hz2 u6 (S.take k) (by rfl) ho.out q (by rfl) hok hsz ?_))
              intro v' w' h1 h2
              have HO' : Hid (OwnInts w' w.heap.size v' (S.take (k + 1))) := by rw [HN.out]; exact h1
              have HB' : Hid (Below w.heap.size w w') := hb.out.trans h2.out
              clear h1 h2
              go_wp2_with fail
              exact ⟨⟨k + 1, by omega, by go_num, HO', HB'⟩, by (simp [intOf]) <;> omega⟩
            · have e0 : k = l.length := by omega
              have HO : Hid (OwnInts wr w.heap.size u6 S) := by
                have h1 := ho.out
                rw [List.take_of_length_le (by rw [HSL.out]; omega)] at h1
                exact h1
              subst e0
              clear ho
              go_wp2_with fail
              go_ret2
              rw [HRR.out]
              exact ⟨_, rfl, HO.out, hb.out⟩

end Go.Proofs.YtlonnoapbfjomabGreat
