/- Residual and Restore of lpc. -/
import Derived.Test.YtlonnoapbfjomabGreatLpc1
namespace Go.Proofs.YtlonnoapbfjomabGreat
set_option linter.unusedVariables false
set_option linter.unusedSimpArgs false
open Go.RowKit Dg

set_option maxRecDepth 100000 in
set_option maxHeartbeats 4000000 in
theorem lresid_any (w : World) (a ca : Option Addr) (cap cc : Nat) (l cs : List Int) (h : Ns w a cap l) (hc : IntsAt w ca cs) (hl : l.length ≤ 1000000) (hcl : cs.length ≤ 1000000) (R : List Int × Int) (hR : R = lresOut l cs) :
    Calls Tryz.prog 74 #[.slice a l.length cap, .slice ca cs.length cc] w fun e w' => Gave w w' R e := by
  obtain ⟨i0, hi, hz0, hz1, hz2⟩ := info_parts Tryz.info3
  unfold lresOut at hR
  have H : Hid (Ns w a cap l) := h
  have HC : Hid (IntsAt w ca cs) := hc
  clear h hc
  by_cases h1 : areC cs
  case neg =>
    rw [if_pos (.inl h1)] at hR
    have HR : Hid (R = ([], 1)) := hR
    have HA : Hid (false = decide (areC cs)) := (decide_eq_false h1).symm
    clear hR h1
    go_enter Tryz.func74, Tryz.ntmps74
    go_wp2_with (go_at_call 92; refine (lcoefs_any _ _ _ _ HC.out hcl false HA.out).mono ?_; rintro e w1 ⟨rfl, rfl⟩)
    go_ret2
    exact Gave.none HR.out (Below.refl _ _)
  have HA : Hid (true = decide (areC cs)) := (decide_eq_true h1).symm
  have HC1 : Hid (areC cs) := h1
  have hc12 : cs.length ≤ 12 := h1.2.1
  by_cases h2 : l.length < cs.length
  · rw [if_pos (.inr h2)] at hR
    have HR : Hid (R = ([], 1)) := hR
    clear hR h1
    go_enter Tryz.func74, Tryz.ntmps74
    go_wp2_with (go_at_call 92; refine (lcoefs_any _ _ _ _ HC.out hcl true HA.out).mono ?_; rintro e w1 ⟨rfl, rfl⟩)
    go_ret2
    exact Gave.none HR.out (Below.refl _ _)
  rw [if_neg (by simp [h1, h2])] at hR
  clear h1
  have h2' : cs.length ≤ l.length := by omega
  by_cases hS : allS l
  case neg =>
    rw [if_neg hS] at hR
    have HT : Hid (false = decide (allS l)) := (decide_eq_false hS).symm
    have HR : Hid (R = ([], 8)) := hR
    clear hR hS
    go_enter Tryz.func74, Tryz.ntmps74
    go_wp2_with first
      | (go_at_call 92; refine (lcoefs_any _ _ _ _ HC.out hcl true HA.out).mono ?_; rintro e w1 ⟨rfl, rfl⟩)
      | (go_at_call 93; refine (lare_any _ _ _ _ H.out.at_ hl false HT.out).mono ?_; rintro e w1 ⟨rfl, rfl⟩)
    go_ret2
    exact Gave.none HR.out (Below.refl _ _)
  case pos =>
    rw [if_pos hS] at hR
    have HT : Hid (true = decide (allS l)) := (decide_eq_true hS).symm
    by_cases h64 : 64 < l.length
    · rw [if_pos h64] at hR
      have HR : Hid (R = ([], 4)) := hR
      clear hR hS
      go_enter Tryz.func74, Tryz.ntmps74
      go_wp2_with first
        | (go_at_call 92; refine (lcoefs_any _ _ _ _ HC.out hcl true HA.out).mono ?_; rintro e w1 ⟨rfl, rfl⟩)
        | (go_at_call 93; refine (lare_any _ _ _ _ H.out.at_ hl true HT.out).mono ?_; rintro e w1 ⟨rfl, rfl⟩)
      go_ret2
      exact Gave.none HR.out (Below.refl _ _)
    · rw [if_neg h64] at hR
      have HR : Hid (R = (lresidZ l cs, 0)) := hR
      have HS : Hid (allS l) := hS
      clear hR hS
      go_enter Tryz.func74, Tryz.ntmps74
      go_wp2_with first
        | (go_at_call 92; refine (lcoefs_any _ _ _ _ HC.out hcl true HA.out).mono ?_; rintro e w1 ⟨rfl, rfl⟩)
        | (go_at_call 93; refine (lare_any _ _ _ _ H.out.at_ hl true HT.out).mono ?_; rintro e w1 ⟨rfl, rfl⟩)
      go_loopw [6, 7] (fun v i wr => ∃ (k : Nat), cs.length ≤ k ∧ k ≤ l.length ∧ i = .int .i64 (k : Int) ∧ Hid (OwnInts wr w.heap.size v ((lresidZ l cs).take (k - cs.length))) ∧ Hid (Below w.heap.size w wr)) (fun _ i _ => l.length - (intOf i).toNat)
      case atStart => exact ⟨cs.length, Nat.le_refl _, h2', rfl, by rw [Nat.sub_self]; exact OwnInts.nil _ _, Below.refl _ _⟩
      case round =>
        obtain ⟨k, hnk, hkl, rfl, ho, hb⟩ := hrel
        by_cases hk : k < l.length
        · obtain ⟨x, hx⟩ : ∃ x, l[k]? = some x := ⟨l[k], by simp [hk]⟩
          have hat := H.out.at_.mono hb.out
          obtain ⟨b, off, rfl, hc⟩ := hat k x hx
          have hs1 := slice_ints (some ⟨b, off, none⟩) l.length cap k (by have := H.out.le; omega)
          have HTL : Hid ((l.take k).length = k) := by show _ = _; simp; omega
          have HTK : Hid (IntsAt wr (some ⟨b, off, none⟩) (l.take k)) := hat.take k
          have HC2 : Hid (IntsAt wr ca cs) := HC.out.mono hb.out
          obtain ⟨g, hg⟩ : ∃ g, g = lguess (l.take k) cs := ⟨_, rfl⟩
          have HG : Hid (g = lguess (l.take k) cs) := hg
          obtain ⟨hg1, hg2⟩ := lguess_small (l.take k) cs
          rw [← hg] at hg1 hg2
          obtain ⟨hx1, hx2⟩ := HS.out x (List.mem_of_getElem? hx)
          obtain ⟨y, hy⟩ : ∃ y, y = x - g := ⟨_, rfl⟩
          have HNX : Hid ((lresidZ l cs).take (k + 1 - cs.length) = (lresidZ l cs).take (k - cs.length) ++ [x - g]) := lresidZ_next l cs k hnk hk _ (by rw [getD_of hx, ← hg])
          have hol : ((lresidZ l cs).take (k - cs.length)).length ≤ 1000000 := by simp; omega
          have hsz : w.heap.size ≤ wr.heap.size := hb.out.size
          clear hx hg hat
          go_wp2_with fail
          have HW : Hid (IntKind.i64.wrap (x - g) = x - g) := Go.IntWalk.i64_in _ (by omega)
          go_region_law first
            | (go_simp; go_at_call 94; refine (lguess_any wr.drew _ _ _ _ _ _ _ _ HTL.out rfl HTK.out HC2.out (by rw [HTL.out]; omega) hcl g HG.out).mono ?_; rintro e w2 ⟨rfl, rfl⟩)
            | (refine step_append_int wr.drew rfl (.tmp 32) (.tmp 43) 22 rfl w.heap.size i0 Tryz.underlying22 hi hz0 hz1 hz2 u6 ((lresidZ l cs).take (k - cs.length)) (by rfl) (World.ownsRow.drew ho.out) (IntKind.i64.wrap (x - g)) (by rfl) hol hsz ?_; intro v' w' h1 h2)
          all_goals
            rw [HW.out, ← HNX.out] at h1
            have HB' : Hid (Below w.heap.size w w') := hb.out.drew.trans h2.out
            clear h2
            go_wp2_with fail
            exact ⟨⟨k + 1, by omega, by omega, by go_num, h1, HB'⟩, by (simp [intOf]) <;> omega⟩
        · have e : k = l.length := by omega
          subst e
          have ho' := ho.out
          rw [List.take_of_length_le (by simp)] at ho'
          have HO : Hid (OwnInts wr w.heap.size _ (lresidZ l cs)) := ho'
          clear ho ho'
          go_wp2_with fail
          go_ret2
          rw [HR.out]
          exact ⟨_, rfl, HO.out, hb.out⟩

set_option maxRecDepth 100000 in
set_option maxHeartbeats 4000000 in
theorem lrest_any (w : World) (a ra ca : Option Addr) (cap rc cc : Nat) (warm res cs : List Int) (h : Ns w a cap warm) (hr : IntsAt w ra res) (hc : IntsAt w ca cs) (hl : warm.length ≤ 100000) (hrl : res.length ≤ 100000) (hcl : cs.length ≤ 100000) (hI : ∀ x ∈ res, I64 x) (R : List Int × Int) (hR : R = lrestOut warm res cs) :
    Calls Tryz.prog 79 #[.slice a warm.length cap, .slice ra res.length rc, .slice ca cs.length cc] w fun e w' => Gave w w' R e := by
  obtain ⟨i0, hi, hz0, hz1, hz2⟩ := info_parts Tryz.info3
  have H : Hid (Ns w a cap warm) := h
  have HRI : Hid (IntsAt w ra res) := hr
  have HC : Hid (IntsAt w ca cs) := hc
  have HI : Hid (∀ x ∈ res, I64 x) := hI
  clear h hr hI hc
  by_cases h1 : areC cs
  case neg =>
    have HR : Hid (R = ([], 1)) := by show _ = _; rw [hR]; unfold lrestOut; rw [if_pos (.inl h1)]
    have HA : Hid (false = decide (areC cs)) := (decide_eq_false h1).symm
    clear hR h1
    go_enter Tryz.func79, Tryz.ntmps79
    go_wp2_with (go_at_call 92; refine (lcoefs_any _ _ _ _ HC.out (by omega) false HA.out).mono ?_; rintro e w1 ⟨rfl, rfl⟩)
    go_ret2
    exact Gave.none HR.out (Below.refl _ _)
  have HA : Hid (true = decide (areC cs)) := (decide_eq_true h1).symm
  have HC1 : Hid (areC cs) := h1
  have hc12 : cs.length ≤ 12 := h1.2.1
  by_cases h2 : warm.length = cs.length
  case neg =>
    have HR : Hid (R = ([], 1)) := by show _ = _; rw [hR]; unfold lrestOut; rw [if_pos (.inr h2)]
    have hb2 : ((warm.length : Int) != (cs.length : Int)) = true := by simp; omega
    have hb3 : (warm.length != cs.length) = true := by simp; omega
    clear hR h1
    go_enter Tryz.func79, Tryz.ntmps79
    go_wp2_with (go_at_call 92; refine (lcoefs_any _ _ _ _ HC.out (by omega) true HA.out).mono ?_; rintro e w1 ⟨rfl, rfl⟩)
    go_ret2
    exact Gave.none HR.out (Below.refl _ _)
  have hb2 : ((warm.length : Int) != (cs.length : Int)) = false := by simp; omega
  have hb3 : (warm.length != cs.length) = false := by simp; omega
  have HWC : Hid (warm.length = cs.length) := h2
  have hw12 : warm.length ≤ 12 := by omega
  clear h1 h2
  by_cases hS : allS warm
  case neg =>
    have HR : Hid (R = ([], 8)) := by show _ = _; rw [hR]; unfold lrestOut; rw [if_neg (by simp [HC1.out, HWC.out]), if_neg hS]
    have HT : Hid (false = decide (allS warm)) := (decide_eq_false hS).symm
    clear hR hS
    go_enter Tryz.func79, Tryz.ntmps79
    go_wp2_with first
      | (go_at_call 92; refine (lcoefs_any _ _ _ _ HC.out (by omega) true HA.out).mono ?_; rintro e w1 ⟨rfl, rfl⟩)
      | (go_at_call 93; refine (lare_any _ _ _ _ H.out.at_ (by omega) false HT.out).mono ?_; rintro e w1 ⟨rfl, rfl⟩)
    go_ret2
    exact Gave.none HR.out (Below.refl _ _)
  case pos =>
    have HT : Hid (true = decide (allS warm)) := (decide_eq_true hS).symm
    have HR : Hid (R = lrestOut warm res cs) := hR
    have HS : Hid (allS warm) := hS
    clear hR hS
    obtain ⟨T, hT⟩ : ∃ T, T = lrestZ cs warm res := ⟨_, rfl⟩
    have HTT : Hid (T = lrestZ cs warm res) := hT
    clear hT
    go_enter Tryz.func79, Tryz.ntmps79
    go_wp2_with first
      | (go_at_call 92; refine (lcoefs_any _ _ _ _ HC.out (by omega) true HA.out).mono ?_; rintro e w1 ⟨rfl, rfl⟩)
      | (go_at_call 93; refine (lare_any _ _ _ _ H.out.at_ (by omega) true HT.out).mono ?_; rintro e w1 ⟨rfl, rfl⟩)
      | (at_builtin; go_must (refine wpList_append_ints _ rfl (.tmp 25) (.tmp 26) rfl w.heap.size _ [] rfl (OwnInts.lit w w.heap.size [] 0 rfl (Nat.le_refl _) (by decide) #[] rfl) a cap warm rfl (H.out.mono ((Below.refl _ _).alloc (Nat.le_refl _) _)) (by simp; omega) (by simp) ?_))
    intro v2 w2 hv2 hk2 hd2
    have HB2 : Hid (Below w.heap.size w w2) := hk2.out.below_of ((Below.refl _ _).alloc (Nat.le_refl _) _) (fun k hk => by cases hk; exact Nat.le_refl _) (by simp)
    clear hk2 hd2
    go_wp2_with fail
    go_loopw [8, 30] (fun v i wr => ∃ (k : Nat) (x : List Int), k ≤ res.length ∧ i = .int .i64 (k : Int) ∧ x.length ≤ 1000000 ∧ Hid (x.length = warm.length + k) ∧ Hid (allS x) ∧ Hid (T = lrestZ cs x (res.drop k)) ∧ Hid (OwnInts wr w.heap.size v x) ∧ Hid (Below w.heap.size w wr)) (fun _ i _ => res.length - (intOf i).toNat)
    case atStart => exact ⟨0, warm, Nat.zero_le _, rfl, by omega, rfl, HS.out, HTT.out, hv2.out, HB2.out⟩
    case round =>
      obtain ⟨k, x, hk, rfl, hxl, HXL, hxs, ht, ho, hb⟩ := hrel
      obtain ⟨xa, xc, rfl, hxn, -, -⟩ := ho.out.ns
      have HXA : Hid (IntsAt wr xa x) := hxn.at_
      have hsz : w.heap.size ≤ wr.heap.size := hb.out.size
      clear hxn
      by_cases hkn : k < res.length
      · obtain ⟨r, hrx⟩ : ∃ x, res[k]? = some x := ⟨res[k], by simp [hkn]⟩
        obtain ⟨b, off, rfl, hc⟩ := HRI.out.mono hb.out k r hrx
        obtain ⟨hr1, hr2⟩ := HI.out r (List.mem_of_getElem? hrx)
        have HC2 : Hid (IntsAt wr ca cs) := HC.out.mono hb.out
        obtain ⟨g, hg⟩ : ∃ g, g = lguess x cs := ⟨_, rfl⟩
        have HG : Hid (g = lguess x cs) := hg
        obtain ⟨hg1, hg2⟩ := lguess_small x cs
        rw [← hg] at hg1 hg2
        have HX : Hid (res[k]? = some r) := hrx
        clear hrx hg
        have hbad : ¬ isS (g + r) → R = ([], 8) := fun hn => by
          rw [HR.out]
          refine lrestOut_none HC1.out HWC.out HS.out ?_
          rw [← HTT.out]
          exact lrestZ_bad HX.out (by rw [← HG.out]; exact hn) T ht.out
        by_cases hlo : r < -8388608 - g
        · have HR8 : Hid (R = ([], 8)) := hbad (by unfold isS; omega)
          clear hbad
          go_wp2_with (go_at_call 94; refine (lguess_any wr _ _ _ _ _ _ _ _ rfl rfl HXA.out HC2.out hxl (by omega) g HG.out).mono ?_; rintro e w3 ⟨rfl, rfl⟩)
          go_ret2
          exact Gave.none HR8.out hb.out
        by_cases hhi : 8388607 - g < r
        · have HR8 : Hid (R = ([], 8)) := hbad (by unfold isS; omega)
          clear hbad
          go_wp2_with (go_at_call 94; refine (lguess_any wr _ _ _ _ _ _ _ _ rfl rfl HXA.out HC2.out hxl (by omega) g HG.out).mono ?_; rintro e w3 ⟨rfl, rfl⟩)
          go_ret2
          exact Gave.none HR8.out hb.out
        · clear hbad
          have HSR : Hid (isS (g + r)) := by show isS _; unfold isS; omega
          go_wp2_with first
            | (go_at_call 94; refine (lguess_any wr _ _ _ _ _ _ _ _ rfl rfl HXA.out HC2.out hxl (by omega) g HG.out).mono ?_; rintro e w3 ⟨rfl, rfl⟩)
            | (at_builtin; go_must (refine wpList_append_int _ rfl (.tmp 47) (.tmp 51) 22 rfl w.heap.size i0 Tryz.underlying22 hi hz0 hz1 hz2 _ x rfl ho.out (g + r) rfl hxl hsz ?_))
          intro v' w' h1 h2
          have HB' : Hid (Below w.heap.size w w') := hb.out.trans h2.out
          have hxl' : (x ++ [g + r]).length ≤ 1000000 := by have := HXL.out; simp; omega
          have HXL' : Hid ((x ++ [g + r]).length = warm.length + (k + 1)) := by show _ = _; rw [List.length_append, HXL.out]; rfl
          have HT' : Hid (T = lrestZ cs (x ++ [g + r]) (res.drop (k + 1))) := by
            have := lrestZ_good HX.out (by rw [← HG.out]; exact HSR.out) T ht.out
            rw [← HG.out] at this
            exact this
          clear h2
          go_wp2_with fail
          exact ⟨⟨k + 1, x ++ [g + r], by omega, by go_num, hxl', HXL', hxs.out.snoc HSR.out, HT', h1, HB'⟩, by (simp [intOf]) <;> omega⟩
      · have e : k = res.length := by omega
        subst e
        have HX : Hid (lrestZ cs warm res = some x) := by
          show _ = _
          rw [← HTT.out]
          exact lrestZ_end T ht.out
        by_cases h64 : 64 < x.length
        · have HR4 : Hid (R = ([], 4)) := by show _ = _; rw [HR.out]; exact lrestOut_long HC1.out HWC.out HS.out HX.out h64
          go_wp2_with fail
          go_ret2
          exact Gave.none HR4.out hb.out
        · have HR0 : Hid (R = (x, 0)) := by show _ = _; rw [HR.out]; exact lrestOut_some HC1.out HWC.out HS.out HX.out h64
          go_wp2_with fail
          go_ret2
          rw [HR0.out]
          exact ⟨_, rfl, ho.out, hb.out⟩

end Go.Proofs.YtlonnoapbfjomabGreat
