/- The texts Lpc2, Lpc5, LBack, Rice1, Rice5, Ref1, Ref2, Ref3, Ref4, Ref5, Reads, one behind the other. -/
import Derived.Test.YtejgkgnocgplbabGreatPart03
import Derived.Test.YtejgkgnocgplbabGreatPart01
import Derived.Test.YtejgkgnocgplbabGreatPart02

/- Residual and Restore of lpc. -/
namespace Go.Proofs.YtejgkgnocgplbabGreat
set_option linter.unusedVariables false
set_option linter.unusedSimpArgs false
open Go.RowKit Dg

set_option maxRecDepth 100000 in
set_option maxHeartbeats 4000000 in
theorem lresid_any (w : World) (a ca : Option Addr) (cap cc : Nat) (l cs : List Int) (h : Ns w a cap l) (hc : IntsAt w ca cs) (hl : l.length ≤ 1000000) (hcl : cs.length ≤ 1000000) (R : List Int × Int) (hR : R = lresOut l cs) :
    Calls Tryz.prog 59 #[.slice a l.length cap, .slice ca cs.length cc] w fun e w' => Gave w w' R e := by
  obtain ⟨i0, hi, hz0, hz1, hz2⟩ := info_parts Tryz.info3
  unfold lresOut at hR
  have H : Hid (Ns w a cap l) := h
  have HC : Hid (IntsAt w ca cs) := hc
  clear h hc
  by_cases h1 : areC cs
  case neg =>
    rw [if_pos (.inl h1)] at hR
    have HR : Hid (R = ([], 1)) := hR
    have HA : Hid (false = decide (areC cs)) := (decide_eq_false h1).symm
    clear hR h1
    go_enter Tryz.func59, Tryz.ntmps59
    go_wp2_with (go_at_call 67; refine (lcoefs_any _ _ _ _ HC.out hcl false HA.out).mono ?_; rintro e w1 ⟨rfl, rfl⟩)
    go_ret2
    exact Gave.none HR.out (Below.refl _ _)
  have HA : Hid (true = decide (areC cs)) := (decide_eq_true h1).symm
  have HC1 : Hid (areC cs) := h1
  have hc12 : cs.length ≤ 12 := h1.2.1
  by_cases h2 : l.length < cs.length
  · rw [if_pos (.inr h2)] at hR
    have HR : Hid (R = ([], 1)) := hR
    clear hR h1
    go_enter Tryz.func59, Tryz.ntmps59
    go_wp2_with (go_at_call 67; refine (lcoefs_any _ _ _ _ HC.out hcl true HA.out).mono ?_; rintro e w1 ⟨rfl, rfl⟩)
    go_ret2
    exact Gave.none HR.out (Below.refl _ _)
  rw [if_neg (by simp [h1, h2])] at hR
  clear h1
  have h2' : cs.length ≤ l.length := by omega
  by_cases hS : allS l
  case neg =>
    rw [if_neg hS] at hR
    have HT : Hid (false = decide (allS l)) := (decide_eq_false hS).symm
    have HR : Hid (R = ([], 8)) := hR
    clear hR hS
    go_enter Tryz.func59, Tryz.ntmps59
    go_wp2_with first
      | (go_at_call 67; refine (lcoefs_any _ _ _ _ HC.out hcl true HA.out).mono ?_; rintro e w1 ⟨rfl, rfl⟩)
      | (go_at_call 68; refine (lare_any _ _ _ _ H.out.at_ hl false HT.out).mono ?_; rintro e w1 ⟨rfl, rfl⟩)
    go_ret2
    exact Gave.none HR.out (Below.refl _ _)
  case pos =>
    rw [if_pos hS] at hR
    have HT : Hid (true = decide (allS l)) := (decide_eq_true hS).symm
    by_cases h64 : 64 < l.length
    · rw [if_pos h64] at hR
      have HR : Hid (R = ([], 4)) := hR
      clear hR hS
      go_enter Tryz.func59, Tryz.ntmps59
      go_wp2_with first
        | (go_at_call 67; refine (lcoefs_any _ _ _ _ HC.out hcl true HA.out).mono ?_; rintro e w1 ⟨rfl, rfl⟩)
        | (go_at_call 68; refine (lare_any _ _ _ _ H.out.at_ hl true HT.out).mono ?_; rintro e w1 ⟨rfl, rfl⟩)
      go_ret2
      exact Gave.none HR.out (Below.refl _ _)
    · rw [if_neg h64] at hR
      have HR : Hid (R = (lresidZ l cs, 0)) := hR
      have HS : Hid (allS l) := hS
      clear hR hS
      go_enter Tryz.func59, Tryz.ntmps59
      go_wp2_with first
        | (go_at_call 67; refine (lcoefs_any _ _ _ _ HC.out hcl true HA.out).mono ?_; rintro e w1 ⟨rfl, rfl⟩)
        | (go_at_call 68; refine (lare_any _ _ _ _ H.out.at_ hl true HT.out).mono ?_; rintro e w1 ⟨rfl, rfl⟩)
      go_loopw [6, 7] (fun v i wr => ∃ (k : Nat), cs.length ≤ k ∧ k ≤ l.length ∧ i = .int .i64 (k : Int) ∧ Hid (OwnInts wr w.heap.size v ((lresidZ l cs).take (k - cs.length))) ∧ Hid (Below w.heap.size w wr)) (fun _ i _ => l.length - (intOf i).toNat)
      case atStart => exact ⟨cs.length, Nat.le_refl _, h2', rfl, by rw [Nat.sub_self]; exact OwnInts.nil _ _, Below.refl _ _⟩
      case round =>
        obtain ⟨k, hnk, hkl, rfl, ho, hb⟩ := hrel
        by_cases hk : k < l.length
        · obtain ⟨x, hx⟩ : ∃ x, l[k]? = some x := ⟨l[k], by simp [hk]⟩
          have hat := H.out.at_.mono hb.out
          obtain ⟨b, off, rfl, hc⟩ := hat k x hx
          have hs1 := slice_ints (some ⟨b, off, none⟩) l.length cap k (by have := H.out.le; omega)
          have HTL : Hid ((l.take k).length = k) := by show _ = _; simp; omega
          have HTK : Hid (IntsAt wr (some ⟨b, off, none⟩) (l.take k)) := hat.take k
          have HC2 : Hid (IntsAt wr ca cs) := HC.out.mono hb.out
          obtain ⟨g, hg⟩ : ∃ g, g = lguess (l.take k) cs := ⟨_, rfl⟩
          have HG : Hid (g = lguess (l.take k) cs) := hg
          obtain ⟨hg1, hg2⟩ := lguess_small (l.take k) cs
          rw [← hg] at hg1 hg2
          obtain ⟨hx1, hx2⟩ := HS.out x (List.mem_of_getElem? hx)
          obtain ⟨y, hy⟩ : ∃ y, y = x - g := ⟨_, rfl⟩
          have HNX : Hid ((lresidZ l cs).take (k + 1 - cs.length) = (lresidZ l cs).take (k - cs.length) ++ [x - g]) := lresidZ_next l cs k hnk hk _ (by rw [getD_of hx, ← hg])
          have hol : ((lresidZ l cs).take (k - cs.length)).length ≤ 1000000 := by simp; omega
          have hsz : w.heap.size ≤ wr.heap.size := hb.out.size
          clear hx hg hat
          go_wp2_with fail
          have HW : Hid (IntKind.i64.wrap (x - g) = x - g) := Go.IntWalk.i64_in _ (by omega)
          go_region_law first
            | (go_simp; go_at_call 69; refine (lguess_any wr.drew _ _ _ _ _ _ _ _ HTL.out rfl HTK.out HC2.out (by rw [HTL.out]; omega) hcl g HG.out).mono ?_; rintro e w2 ⟨rfl, rfl⟩)
            | (refine step_append_int wr.drew rfl (.tmp 32) (.tmp 43) 22 rfl w.heap.size i0 Tryz.underlying22 hi hz0 hz1 hz2 u6 ((lresidZ l cs).take (k - cs.length)) (by rfl) (World.ownsRow.drew ho.out) (IntKind.i64.wrap (x - g)) (by rfl) hol hsz ?_; intro v' w' h1 h2)
          all_goals
            rw [HW.out, ← HNX.out] at h1
            have HB' : Hid (Below w.heap.size w w') := hb.out.drew.trans h2.out
            clear h2
            go_wp2_with fail
            exact ⟨⟨k + 1, by omega, by omega, by go_num, h1, HB'⟩, by (simp [intOf]) <;> omega⟩
        · have e : k = l.length := by omega
          subst e
          have ho' := ho.out
          rw [List.take_of_length_le (by simp)] at ho'
          have HO : Hid (OwnInts wr w.heap.size _ (lresidZ l cs)) := ho'
          clear ho ho'
          go_wp2_with fail
          go_ret2
          rw [HR.out]
          exact ⟨_, rfl, HO.out, hb.out⟩

set_option maxRecDepth 100000 in
set_option maxHeartbeats 4000000 in
theorem lrest_any (w : World) (a ra ca : Option Addr) (cap rc cc : Nat) (warm res cs : List Int) (h : Ns w a cap warm) (hr : IntsAt w ra res) (hc : IntsAt w ca cs) (hl : warm.length ≤ 100000) (hrl : res.length ≤ 100000) (hcl : cs.length ≤ 100000) (hI : ∀ x ∈ res, I64 x) (R : List Int × Int) (hR : R = lrestOut warm res cs) :
    Calls Tryz.prog 54 #[.slice a warm.length cap, .slice ra res.length rc, .slice ca cs.length cc] w fun e w' => Gave w w' R e := by
  obtain ⟨i0, hi, hz0, hz1, hz2⟩ := info_parts Tryz.info3
  have H : Hid (Ns w a cap warm) := h
  have HRI : Hid (IntsAt w ra res) := hr
  have HC : Hid (IntsAt w ca cs) := hc
  have HI : Hid (∀ x ∈ res, I64 x) := hI
  clear h hr hI hc
  by_cases h1 : areC cs
  case neg =>
    have HR : Hid (R = ([], 1)) := by show _ = _; rw [hR]; unfold lrestOut; rw [if_pos (.inl h1)]
    have HA : Hid (false = decide (areC cs)) := (decide_eq_false h1).symm
    clear hR h1
    go_enter Tryz.func54, Tryz.ntmps54
    go_wp2_with (go_at_call 67; refine (lcoefs_any _ _ _ _ HC.out (by omega) false HA.out).mono ?_; rintro e w1 ⟨rfl, rfl⟩)
    go_ret2
    exact Gave.none HR.out (Below.refl _ _)
  have HA : Hid (true = decide (areC cs)) := (decide_eq_true h1).symm
  have HC1 : Hid (areC cs) := h1
  have hc12 : cs.length ≤ 12 := h1.2.1
  by_cases h2 : warm.length = cs.length
  case neg =>
    have HR : Hid (R = ([], 1)) := by show _ = _; rw [hR]; unfold lrestOut; rw [if_pos (.inr h2)]
    have hb2 : ((warm.length : Int) != (cs.length : Int)) = true := by simp; omega
    have hb3 : (warm.length != cs.length) = true := by simp; omega
    clear hR h1
    go_enter Tryz.func54, Tryz.ntmps54
    go_wp2_with (go_at_call 67; refine (lcoefs_any _ _ _ _ HC.out (by omega) true HA.out).mono ?_; rintro e w1 ⟨rfl, rfl⟩)
    go_ret2
    exact Gave.none HR.out (Below.refl _ _)
  have hb2 : ((warm.length : Int) != (cs.length : Int)) = false := by simp; omega
  have hb3 : (warm.length != cs.length) = false := by simp; omega
  have HWC : Hid (warm.length = cs.length) := h2
  have hw12 : warm.length ≤ 12 := by omega
  clear h1 h2
  by_cases hS : allS warm
  case neg =>
    have HR : Hid (R = ([], 8)) := by show _ = _; rw [hR]; unfold lrestOut; rw [if_neg (by simp [HC1.out, HWC.out]), if_neg hS]
    have HT : Hid (false = decide (allS warm)) := (decide_eq_false hS).symm
    clear hR hS
    go_enter Tryz.func54, Tryz.ntmps54
    go_wp2_with first
      | (go_at_call 67; refine (lcoefs_any _ _ _ _ HC.out (by omega) true HA.out).mono ?_; rintro e w1 ⟨rfl, rfl⟩)
      | (go_at_call 68; refine (lare_any _ _ _ _ H.out.at_ (by omega) false HT.out).mono ?_; rintro e w1 ⟨rfl, rfl⟩)
    go_ret2
    exact Gave.none HR.out (Below.refl _ _)
  case pos =>
    have HT : Hid (true = decide (allS warm)) := (decide_eq_true hS).symm
    have HR : Hid (R = lrestOut warm res cs) := hR
    have HS : Hid (allS warm) := hS
    clear hR hS
    obtain ⟨T, hT⟩ : ∃ T, T = lrestZ cs warm res := ⟨_, rfl⟩
    have HTT : Hid (T = lrestZ cs warm res) := hT
    clear hT
    go_enter Tryz.func54, Tryz.ntmps54
    go_wp2_with first
      | (go_at_call 67; refine (lcoefs_any _ _ _ _ HC.out (by omega) true HA.out).mono ?_; rintro e w1 ⟨rfl, rfl⟩)
      | (go_at_call 68; refine (lare_any _ _ _ _ H.out.at_ (by omega) true HT.out).mono ?_; rintro e w1 ⟨rfl, rfl⟩)
      | (at_builtin; go_must (refine wpList_append_ints _ rfl (.tmp 25) (.tmp 26) rfl w.heap.size _ [] rfl (OwnInts.lit w w.heap.size [] 0 rfl (Nat.le_refl _) (by decide) #[] rfl) a cap warm rfl (H.out.mono ((Below.refl _ _).alloc (Nat.le_refl _) _)) (by simp; omega) (by simp) ?_))
    intro v2 w2 hv2 hk2 hd2
    have HB2 : Hid (Below w.heap.size w w2) := hk2.out.below_of ((Below.refl _ _).alloc (Nat.le_refl _) _) (fun k hk => by cases hk; exact Nat.le_refl _) (by simp)
    clear hk2 hd2
    go_wp2_with fail
    go_loopw [8, 30] (fun v i wr => ∃ (k : Nat) (x : List Int), k ≤ res.length ∧ i = .int .i64 (k : Int) ∧ x.length ≤ 1000000 ∧ Hid (x.length = warm.length + k) ∧ Hid (allS x) ∧ Hid (T = lrestZ cs x (res.drop k)) ∧ Hid (OwnInts wr w.heap.size v x) ∧ Hid (Below w.heap.size w wr)) (fun _ i _ => res.length - (intOf i).toNat)
    case atStart => exact ⟨0, warm, Nat.zero_le _, rfl, by omega, rfl, HS.out, HTT.out, hv2.out, HB2.out⟩
    case round =>
      obtain ⟨k, x, hk, rfl, hxl, HXL, hxs, ht, ho, hb⟩ := hrel
      obtain ⟨xa, xc, rfl, hxn, -, -⟩ := ho.out.ns
      have HXA : Hid (IntsAt wr xa x) := hxn.at_
      have hsz : w.heap.size ≤ wr.heap.size := hb.out.size
      clear hxn
      by_cases hkn : k < res.length
      · obtain ⟨r, hrx⟩ : ∃ x, res[k]? = some x := ⟨res[k], by simp [hkn]⟩
        obtain ⟨b, off, rfl, hc⟩ := HRI.out.mono hb.out k r hrx
        obtain ⟨hr1, hr2⟩ := HI.out r (List.mem_of_getElem? hrx)
        have HC2 : Hid (IntsAt wr ca cs) := HC.out.mono hb.out
        obtain ⟨g, hg⟩ : ∃ g, g = lguess x cs := ⟨_, rfl⟩
        have HG : Hid (g = lguess x cs) := hg
        obtain ⟨hg1, hg2⟩ := lguess_small x cs
        rw [← hg] at hg1 hg2
        have HX : Hid (res[k]? = some r) := hrx
        clear hrx hg
        have hbad : ¬ isS (g + r) → R = ([], 8) := fun hn => by
          rw [HR.out]
          refine lrestOut_none HC1.out HWC.out HS.out ?_
          rw [← HTT.out]
          exact lrestZ_bad HX.out (by rw [← HG.out]; exact hn) T ht.out
        by_cases hlo : r < -8388608 - g
        · have HR8 : Hid (R = ([], 8)) := hbad (by unfold isS; omega)
          clear hbad
          go_wp2_with (go_at_call 69; refine (lguess_any wr _ _ _ _ _ _ _ _ rfl rfl HXA.out HC2.out hxl (by omega) g HG.out).mono ?_; rintro e w3 ⟨rfl, rfl⟩)
          go_ret2
          exact Gave.none HR8.out hb.out
        by_cases hhi : 8388607 - g < r
        · have HR8 : Hid (R = ([], 8)) := hbad (by unfold isS; omega)
          clear hbad
          go_wp2_with (go_at_call 69; refine (lguess_any wr _ _ _ _ _ _ _ _ rfl rfl HXA.out HC2.out hxl (by omega) g HG.out).mono ?_; rintro e w3 ⟨rfl, rfl⟩)
          go_ret2
          exact Gave.none HR8.out hb.out
        · clear hbad
          have HSR : Hid (isS (g + r)) := by show isS _; unfold isS; omega
          go_wp2_with first
            | (go_at_call 69; refine (lguess_any wr _ _ _ _ _ _ _ _ rfl rfl HXA.out HC2.out hxl (by omega) g HG.out).mono ?_; rintro e w3 ⟨rfl, rfl⟩)
            | (at_builtin; go_must (refine wpList_append_int _ rfl (.tmp 47) (.tmp 51) 22 rfl w.heap.size i0 Tryz.underlying22 hi hz0 hz1 hz2 _ x rfl ho.out (g + r) rfl hxl hsz ?_))
          intro v' w' h1 h2
          have HB' : Hid (Below w.heap.size w w') := hb.out.trans h2.out
          have hxl' : (x ++ [g + r]).length ≤ 1000000 := by have := HXL.out; simp; omega
          have HXL' : Hid ((x ++ [g + r]).length = warm.length + (k + 1)) := by show _ = _; rw [List.length_append, HXL.out]; rfl
          have HT' : Hid (T = lrestZ cs (x ++ [g + r]) (res.drop (k + 1))) := by
            have := lrestZ_good HX.out (by rw [← HG.out]; exact HSR.out) T ht.out
            rw [← HG.out] at this
            exact this
          clear h2
          go_wp2_with fail
          exact ⟨⟨k + 1, x ++ [g + r], by omega, by go_num, hxl', HXL', hxs.out.snoc HSR.out, HT', h1, HB'⟩, by (simp [intOf]) <;> omega⟩
      · have e : k = res.length := by omega
        subst e
        have HX : Hid (lrestZ cs warm res = some x) := by
          show _ = _
          rw [← HTT.out]
          exact lrestZ_end T ht.out
        by_cases h64 : 64 < x.length
        · have HR4 : Hid (R = ([], 4)) := by show _ = _; rw [HR.out]; exact lrestOut_long HC1.out HWC.out HS.out HX.out h64
          go_wp2_with fail
          go_ret2
          exact Gave.none HR4.out hb.out
        · have HR0 : Hid (R = (x, 0)) := by show _ = _; rw [HR.out]; exact lrestOut_some HC1.out HWC.out HS.out HX.out h64
          go_wp2_with fail
          go_ret2
          rw [HR0.out]
          exact ⟨_, rfl, ho.out, hb.out⟩

end Go.Proofs.YtejgkgnocgplbabGreat

/- The document's example of law06; its coefficients. -/
namespace Go.Proofs.YtejgkgnocgplbabGreat
set_option linter.unusedVariables false
set_option linter.unusedSimpArgs false
open Go.RowKit Dg

end Go.Proofs.YtejgkgnocgplbabGreat

/- LpcBack: the walk of the law. -/
namespace Go.Proofs.YtejgkgnocgplbabGreat
set_option linter.unusedVariables false
set_option linter.unusedSimpArgs false
open Go.RowKit Dg

theorem lresOut_ok (l cs : List Int) (hc : areC cs) (hl : cs.length ≤ l.length) (h64 : l.length ≤ 64) (hS : allS l) : (lresidZ l cs, 0) = lresOut l cs := by
  unfold lresOut
  rw [if_neg (by simp [hc]; omega), if_pos hS, if_neg (by omega)]
theorem lresOut_arg (l cs : List Int) (h : ¬ areC cs ∨ l.length < cs.length) : ([], 1) = lresOut l cs := by
  unfold lresOut
  rw [if_pos h]
theorem lrestZ_resid (l cs : List Int) (hS : allS l) (m : Nat) : ∀ n, cs.length ≤ n → n + m = l.length → lrestZ cs (l.take n) ((lresidZ l cs).drop (n - cs.length)) = some l := by
  induction m with
  | zero =>
    intro n hn he
    rw [List.drop_of_length_le (by simp; omega), List.take_of_length_le (by omega)]
    rfl
  | succ m ih =>
    intro n hn he
    have hlt : n < l.length := by omega
    have hg := lresidZ_get l cs n hn hlt
    have hd : n - cs.length < (lresidZ l cs).length := by simp; omega
    have e1 : (lresidZ l cs)[n - cs.length] = l.getD n 0 - lguess (l.take n) cs := (List.getElem?_eq_some_iff.1 hg).2
    rw [List.drop_eq_getElem_cons hd, e1]
    simp only [lrestZ]
    have e2 : lguess (l.take n) cs + (l.getD n 0 - lguess (l.take n) cs) = l.getD n 0 := by omega
    rw [e2, if_pos (hS.at hlt)]
    have e3 : l.take n ++ [l.getD n 0] = l.take (n + 1) := (take_next l n _ (by simp [List.getD, hlt])).symm
    rw [e3, show n - cs.length + 1 = n + 1 - cs.length by omega]
    exact ih (n + 1) (by omega) (by omega)
theorem lrestOut_resid (l cs : List Int) (hc : areC cs) (hl : cs.length ≤ l.length) (h64 : l.length ≤ 64) (hS : allS l) : (l, 0) = lrestOut (l.take cs.length) (lresidZ l cs) cs := by
  have h := lrestZ_resid l cs hS (l.length - cs.length) cs.length (Nat.le_refl _) (by omega)
  rw [Nat.sub_self, List.drop_zero] at h
  exact (lrestOut_some hc (by simp; omega) (hS.take _) h (by omega)).symm
theorem lresidZ_i64 (l cs : List Int) (hS : allS l) : ∀ x ∈ lresidZ l cs, I64 x := by
  intro x hx
  unfold lresidZ at hx
  obtain ⟨j, hj, rfl⟩ := List.mem_map.1 hx
  have hj' := List.mem_range.1 hj
  have h1 := hS.at (k := cs.length + j) (by omega)
  have h2 := lguess_small (l.take (cs.length + j)) cs
  unfold isS at h1
  unfold I64
  omega

end Go.Proofs.YtejgkgnocgplbabGreat

/- Walks over the small functions of package rice. -/
namespace Go.Proofs.YtejgkgnocgplbabGreat
set_option linter.unusedVariables false
set_option linter.unusedSimpArgs false
open Go.RowKit Dg

/-- A number that may be. -/
def isNum (z : Int) : Bool := decide (0 ≤ z ∧ z < 4294967296)
/-- A parameter that may be. -/
def isPar (k : Int) : Bool := decide (0 ≤ k ∧ k ≤ 24)
/-- A number that is written raw. -/
def isRawOf (z : Int) (k : Nat) : Bool := decide (24 ≤ z / 2 ^ k)
/-- Zig, as the document says it. -/
def zigOf (n : Int) : Int := if n < -1099511627776 ∨ 1099511627776 ≤ n then 0 else if n < 0 then -2 * n - 1 else 2 * n
/-- Zag, as the document says it. -/
def zagOf (z : Int) : Int := if z < 0 ∨ 2199023255552 ≤ z then 0 else if z % 2 = 1 then -((z + 1) / 2) else z / 2
/-- The size of a number that may be, with a parameter that may be. -/
def sizeIn (z : Int) (k : Nat) : Int := if 24 ≤ z / 2 ^ k then 56 else z / 2 ^ k + 1 + k
/-- The size of a number. -/
def sizeOf1 (z k : Int) : Int := if isNum z = true ∧ isPar k = true then sizeIn z k.toNat else 0

theorem isNum_true {z : Int} (h : isNum z = true) : 0 ≤ z ∧ z < 4294967296 := by simpa [isNum] using h
theorem isNum_false {z : Int} (h : isNum z = false) : z < 0 ∨ 4294967296 ≤ z := by simp [isNum] at h; omega
theorem isPar_true {z : Int} (h : isPar z = true) : 0 ≤ z ∧ z ≤ 24 := by simpa [isPar] using h
theorem isPar_false {z : Int} (h : isPar z = false) : z < 0 ∨ 24 < z := by simp [isPar] at h; omega

theorem quot_le (z : Int) (k : Nat) (hz : 0 ≤ z) : 0 ≤ z / 2 ^ k ∧ z / 2 ^ k ≤ z := by
  have hp : (0 : Int) < 2 ^ k := Int.pow_pos (by decide)
  exact ⟨Int.ediv_nonneg hz (by omega), Int.ediv_le_self _ hz⟩

set_option maxHeartbeats 400000 in
theorem isNumber_any (z : Int) (w : World) :
    Calls Tryz.prog 85 #[.int .i64 z] w fun e w' => e = .returned (.bool (isNum z)) ∧ w = w' := by
  obtain ⟨b, hb⟩ : ∃ b, b = isNum z := ⟨_, rfl⟩
  rw [← hb]
  match b, hb with
  | true, hb =>
    obtain ⟨h1, h2⟩ := isNum_true hb.symm
    clear hb
    go_enter Tryz.func85, Tryz.ntmps85
    go_wp2
    go_ret
    exact ⟨rfl, rfl⟩
  | false, hb =>
    rcases isNum_false hb.symm with h1 | h1
    · clear hb
      go_enter Tryz.func85, Tryz.ntmps85
      go_wp2
      go_ret
      exact ⟨rfl, rfl⟩
    · clear hb
      have h2 : 0 ≤ z := by omega
      go_enter Tryz.func85, Tryz.ntmps85
      go_wp2
      go_ret
      refine ⟨?_, rfl⟩
      show Ending.returned (.bool (decide (z < 4294967296))) = _
      rw [decide_eq_false (by omega)]

set_option maxHeartbeats 400000 in
theorem isParameter_any (z : Int) (w : World) :
    Calls Tryz.prog 82 #[.int .i64 z] w fun e w' => e = .returned (.bool (isPar z)) ∧ w = w' := by
  obtain ⟨b, hb⟩ : ∃ b, b = isPar z := ⟨_, rfl⟩
  rw [← hb]
  match b, hb with
  | true, hb =>
    obtain ⟨h1, h2⟩ := isPar_true hb.symm
    clear hb
    go_enter Tryz.func82, Tryz.ntmps82
    go_wp2
    go_ret
    exact ⟨rfl, rfl⟩
  | false, hb =>
    rcases isPar_false hb.symm with h1 | h1
    · clear hb
      go_enter Tryz.func82, Tryz.ntmps82
      go_wp2
      go_ret
      exact ⟨rfl, rfl⟩
    · clear hb
      have h2 : 0 ≤ z := by omega
      go_enter Tryz.func82, Tryz.ntmps82
      go_wp2
      go_ret
      refine ⟨?_, rfl⟩
      show Ending.returned (.bool (decide (z ≤ 24))) = _
      rw [decide_eq_false (by omega)]

set_option maxHeartbeats 400000 in
theorem isRaw_any (z : Int) (k : Nat) (w : World) (h0 : 0 ≤ z) (h1 : z < 4294967296) (hk : k ≤ 62) :
    Calls Tryz.prog 87 #[.int .i64 z, .int .i64 k] w fun e w' => e = .returned (.bool (isRawOf z k)) ∧ w = w' := by
  go_enter Tryz.func87, Tryz.ntmps87
  go_wp2
  go_ret
  exact ⟨rfl, rfl⟩

set_option maxHeartbeats 1000000 in
theorem zig_any (n : Int) (w : World) :
    Calls Tryz.prog 70 #[.int .i64 n] w fun e w' => e = .returned (.int .i64 (zigOf n)) ∧ w = w' := by
  by_cases h1 : n < -1099511627776
  · have e : zigOf n = 0 := by simp [zigOf, h1]
    rw [e]
    go_enter Tryz.func70, Tryz.ntmps70
    go_wp2
    go_ret
    exact ⟨rfl, rfl⟩
  · by_cases h2 : 1099511627776 ≤ n
    · have e : zigOf n = 0 := by simp [zigOf, h2]
      rw [e]
      go_enter Tryz.func70, Tryz.ntmps70
      go_wp2
      go_ret
      exact ⟨rfl, rfl⟩
    · by_cases h3 : n < 0
      · have e : zigOf n = -2 * n - 1 := by simp only [zigOf]; rw [if_neg (by omega), if_pos h3]
        rw [e]
        clear e
        go_enter Tryz.func70, Tryz.ntmps70
        go_wp2
        go_ret
        exact ⟨rfl, rfl⟩
      · have e : zigOf n = 2 * n := by simp only [zigOf]; rw [if_neg (by omega), if_neg h3]
        rw [e]
        clear e
        go_enter Tryz.func70, Tryz.ntmps70
        go_wp2
        go_ret
        exact ⟨rfl, rfl⟩

theorem tdiv2_neg (z : Int) (h : 0 ≤ z) : (-(z + 1)).tdiv 2 = -((z + 1) / 2) := by
  rw [Int.neg_tdiv, Int.tdiv_eq_ediv_of_nonneg (by omega)]
theorem tdiv2_pos (z : Int) (h : 0 ≤ z) : z.tdiv 2 = z / 2 := Int.tdiv_eq_ediv_of_nonneg h
theorem tmod2_pos (z : Int) (h : 0 ≤ z) : z.tmod 2 = z % 2 := Int.tmod_eq_emod_of_nonneg h

set_option maxHeartbeats 1000000 in
theorem zag_any (n : Int) (w : World) :
    Calls Tryz.prog 63 #[.int .i64 n] w fun e w' => e = .returned (.int .i64 (zagOf n)) ∧ w = w' := by
  by_cases h1 : n < 0
  · have e : zagOf n = 0 := by simp [zagOf, h1]
    rw [e]
    go_enter Tryz.func63, Tryz.ntmps63
    go_wp2
    go_ret
    exact ⟨rfl, rfl⟩
  · by_cases h2 : 2199023255552 ≤ n
    · have e : zagOf n = 0 := by simp [zagOf, h2]
      rw [e]
      go_enter Tryz.func63, Tryz.ntmps63
      go_wp2
      go_ret
      exact ⟨rfl, rfl⟩
    · by_cases h3 : n % 2 = 1
      · have e : zagOf n = -((n + 1) / 2) := by simp only [zagOf]; rw [if_neg (by omega), if_pos h3]
        rw [e]
        clear e
        have hm : n.tmod 2 = 1 := by rw [tmod2_pos n (by omega)]; exact h3
        have hd := tdiv2_neg n (by omega)
        go_enter Tryz.func63, Tryz.ntmps63
        go_wp2
        all_goals go_ret
        all_goals exact ⟨rfl, rfl⟩
      · have e : zagOf n = n / 2 := by simp only [zagOf]; rw [if_neg (by omega), if_neg h3]
        rw [e]
        clear e
        have hm : n.tmod 2 = 0 := by rw [tmod2_pos n (by omega)]; omega
        have hd := tdiv2_pos n (by omega)
        go_enter Tryz.func63, Tryz.ntmps63
        go_wp2
        all_goals go_ret
        all_goals exact ⟨rfl, rfl⟩

set_option maxHeartbeats 1000000 in
theorem size_in (z : Int) (k : Nat) (w : World) (hz : isNum z = true) (hk : k ≤ 24) :
    Calls Tryz.prog 98 #[.int .i64 z, .int .i64 k] w fun e w' => e = .returned (.int .i64 (sizeIn z k)) ∧ w = w' := by
  have hp : isPar (k : Int) = true := by simp [isPar]; omega
  obtain ⟨h1, h2⟩ := isNum_true hz
  obtain ⟨h3, h4⟩ := quot_le z k h1
  by_cases hr : 24 ≤ z / 2 ^ k
  · have er : isRawOf z k = true := by simp [isRawOf, hr]
    have e : sizeIn z k = 56 := by simp [sizeIn, hr]
    rw [e]
    clear e
    go_enter Tryz.func98, Tryz.ntmps98
    go_wp2_with first
      | (go_at_call 85; refine (isNumber_any z w).mono ?_; rw [hz]; rintro e w2 ⟨rfl, rfl⟩)
      | (go_at_call 82; refine (isParameter_any k w).mono ?_; rw [hp]; rintro e w2 ⟨rfl, rfl⟩)
      | (go_at_call 87; refine (isRaw_any z k w h1 h2 (by omega)).mono ?_; rw [er]; rintro e w2 ⟨rfl, rfl⟩)
    go_ret
    exact ⟨rfl, rfl⟩
  · have er : isRawOf z k = false := by simp [isRawOf, hr]
    have e : sizeIn z k = z / 2 ^ k + 1 + k := by simp [sizeIn, hr]
    rw [e]
    clear e
    go_enter Tryz.func98, Tryz.ntmps98
    go_wp2_with first
      | (go_at_call 85; refine (isNumber_any z w).mono ?_; rw [hz]; rintro e w2 ⟨rfl, rfl⟩)
      | (go_at_call 82; refine (isParameter_any k w).mono ?_; rw [hp]; rintro e w2 ⟨rfl, rfl⟩)
      | (go_at_call 87; refine (isRaw_any z k w h1 h2 (by omega)).mono ?_; rw [er]; rintro e w2 ⟨rfl, rfl⟩)
    go_ret
    exact ⟨rfl, rfl⟩

set_option maxHeartbeats 1000000 in
theorem size_any (z k : Int) (w : World) :
    Calls Tryz.prog 98 #[.int .i64 z, .int .i64 k] w fun e w' => e = .returned (.int .i64 (sizeOf1 z k)) ∧ w = w' := by
  by_cases hz : isNum z = true
  · by_cases hk : isPar k = true
    · have e : sizeOf1 z k = sizeIn z k.toNat := by simp [sizeOf1, hz, hk]
      obtain ⟨h1, h2⟩ := isPar_true hk
      have ek : k = (k.toNat : Int) := by omega
      rw [e]
      have := size_in z k.toNat w hz (by omega)
      rw [← ek] at this
      exact this
    · have e : sizeOf1 z k = 0 := by simp [sizeOf1, hk]
      rw [e]
      clear e
      have hk : isPar k = false := by simpa using hk
      go_enter Tryz.func98, Tryz.ntmps98
      go_wp2_with first
        | (go_at_call 85; refine (isNumber_any z w).mono ?_; rw [hz]; rintro e w2 ⟨rfl, rfl⟩)
        | (go_at_call 82; refine (isParameter_any k w).mono ?_; rw [hk]; rintro e w2 ⟨rfl, rfl⟩)
      go_ret
      exact ⟨rfl, rfl⟩
  · have e : sizeOf1 z k = 0 := by simp [sizeOf1, hz]
    rw [e]
    clear e
    have hz : isNum z = false := by simpa using hz
    go_enter Tryz.func98, Tryz.ntmps98
    go_wp2_with first
      | (go_at_call 85; refine (isNumber_any z w).mono ?_; rw [hz]; rintro e w2 ⟨rfl, rfl⟩)
    go_ret
    exact ⟨rfl, rfl⟩

theorem size_wake : sizeOf1 5 1 = 4 := by decide
theorem zig_wake : zigOf (-1) = 1 := by decide

end Go.Proofs.YtejgkgnocgplbabGreat

/- Put of package rice. -/
namespace Go.Proofs.YtejgkgnocgplbabGreat
set_option linter.unusedVariables false
set_option linter.unusedSimpArgs false
open Go.RowKit Dg

/-- A number's digits, as the document says them. -/
def riceDig (z : Int) (k : Nat) : List Bool := if 24 ≤ z / 2 ^ k then List.replicate 24 true ++ dig z 32 else (List.replicate (z / 2 ^ k).toNat true ++ [false]) ++ dig z k

theorem length_riceDig (z : Int) (k : Nat) (hz : 0 ≤ z) : ((riceDig z k).length : Int) = sizeIn z k := by
  have := quot_le z k hz
  unfold riceDig sizeIn
  split <;> simp <;> omega
theorem length_riceDig_le (z : Int) (k : Nat) (hz : 0 ≤ z) (hk : k ≤ 24) : (riceDig z k).length ≤ 56 := by
  have := quot_le z k hz
  have e := length_riceDig z k hz
  unfold sizeIn at e
  split at e <;> omega

theorem ones_at (w : World) (b : Nat) (rv : Value) (ds : List Bool) (n : Nat) (h : WrAt w b rv ds) (hlt : ds.length < 4398046500000) (hn : n ≤ 1024) (I : Int) (hI : I = (n : Int)) :
    Calls Tryz.prog 88 #[.pointer (some ⟨b, 0, none⟩), .int .i64 I] w fun e w' => e = .returned (.bool true) ∧ Wrote w w' b rv (ds ++ (List.replicate n true ++ [false])) := by
  subst hI
  exact ones_any w b rv ds n h hlt hn

theorem dig_ones : dig (-1) 24 = List.replicate 24 true := by decide

set_option maxHeartbeats 1000000 in
theorem ricePut_bad (w : World) (p : Value) (z k : Int) (h : (isNum z && isPar k) = false) :
    Calls Tryz.prog 72 #[p, .int .i64 z, .int .i64 k] w fun e w' => e = .returned (.bool false) ∧ w = w' := by
  cases hz : isNum z with
  | false =>
    have HZ : Hid (isNum z = false) := hz
    clear h hz
    go_enter Tryz.func72, Tryz.ntmps72
    go_wp2_with (go_at_call 85; refine (isNumber_any z w).mono ?_; rw [HZ.out]; rintro e w2 ⟨rfl, rfl⟩)
    go_ret
    exact ⟨rfl, rfl⟩
  | true =>
    have HZ : Hid (isNum z = true) := hz
    have HK : Hid (isPar k = false) := by show _ = _; simpa [hz] using h
    clear h hz
    go_enter Tryz.func72, Tryz.ntmps72
    go_wp2_with first
      | (go_at_call 85; refine (isNumber_any z w).mono ?_; rw [HZ.out]; rintro e w2 ⟨rfl, rfl⟩)
      | (go_at_call 82; refine (isParameter_any k w).mono ?_; rw [HK.out]; rintro e w2 ⟨rfl, rfl⟩)
    go_ret
    exact ⟨rfl, rfl⟩

set_option maxHeartbeats 2000000 in
theorem ricePut_any (w : World) (b : Nat) (rv : Value) (ds : List Bool) (z : Int) (k : Nat) (h : WrAt w b rv ds) (hlt : ds.length ≤ 1000000) (hz : isNum z = true) (hk : k ≤ 24) :
    Calls Tryz.prog 72 #[.pointer (some ⟨b, 0, none⟩), .int .i64 z, .int .i64 k] w fun e w' => e = .returned (.bool true) ∧ Wrote w w' b rv (ds ++ riceDig z k) := by
  have hp : isPar (k : Int) = true := by simp [isPar]; omega
  obtain ⟨h1, h2⟩ := isNum_true hz
  obtain ⟨h3, h4⟩ := quot_le z k h1
  have HZ : Hid (isNum z = true) := hz
  have HP : Hid (isPar (k : Int) = true) := hp
  have HW : Hid (WrAt w b rv ds) := h
  clear hz hp h
  by_cases hr : 24 ≤ z / 2 ^ k
  · have er : isRawOf z k = true := by simp [isRawOf, hr]
    have HR : Hid (isRawOf z k = true) := er
    have HD : Hid (riceDig z k = List.replicate 24 true ++ dig z 32) := by show _ = _; simp only [riceDig]; rw [if_pos hr]
    clear er
    obtain ⟨d1, hd1⟩ : ∃ d1, d1 = ds ++ dig (-1) 24 := ⟨_, rfl⟩
    have HD1 : Hid (d1 = ds ++ dig (-1) 24) := hd1
    have hl1 : d1.length < 4398046511000 := by rw [hd1]; simp; omega
    clear hd1
    go_enter Tryz.func72, Tryz.ntmps72
    go_wp2_with first
      | (go_at_call 85; refine (isNumber_any z w).mono ?_; rw [HZ.out]; rintro e w2 ⟨rfl, rfl⟩)
      | (go_at_call 82; refine (isParameter_any k w).mono ?_; rw [HP.out]; rintro e w2 ⟨rfl, rfl⟩)
      | (go_at_call 87; refine (isRaw_any z k w h1 h2 (by omega)).mono ?_; rw [HR.out]; rintro e w2 ⟨rfl, rfl⟩)
      | fail
    refine (put_any w b rv ds (-1) 24 HW.out (by omega) (by decide)).mono ?_
    rw [← HD1.out]
    rintro e w1 ⟨rfl, rv1, hw1, hk1, hn1⟩
    have HW1 : Hid (WrAt w1 b rv1 d1) := hw1
    have HK1 : Hid (Kept (Wf b rv) w w1) := hk1
    have HN1 : Hid (∀ k, rv1.ownBlock = some k → rv.ownBlock = some k ∨ w.heap.size ≤ k) := hn1
    clear hw1 hk1 hn1
    go_wp2_with fail
    refine (put_any w1 b rv1 d1 z 32 HW1.out hl1 (by decide)).mono ?_
    rintro e w2 ⟨rfl, hw2⟩
    have HW2 : Hid (Wrote w1 w2 b rv1 (d1 ++ dig z 32)) := hw2
    clear hw2
    go_wp2
    go_ret
    refine ⟨rfl, ?_⟩
    have := Wrote.trans HK1.out HN1.out HW2.out
    rw [HD1.out, dig_ones, List.append_assoc, ← HD.out] at this
    exact this
  · have er : isRawOf z k = false := by simp [isRawOf, hr]
    have HR : Hid (isRawOf z k = false) := er
    obtain ⟨q, hq⟩ : ∃ q : Nat, q = (z / 2 ^ k).toNat := ⟨_, rfl⟩
    have HD : Hid (riceDig z k = (List.replicate q true ++ [false]) ++ dig z k) := by show _ = _; simp only [riceDig]; rw [if_neg hr, hq]
    have hqz : z / 2 ^ k = (q : Int) := by omega
    have HQ : Hid (z / 2 ^ k = (q : Int)) := hqz
    have hq24 : q < 24 := by omega
    clear er hq hqz
    obtain ⟨d1, hd1⟩ : ∃ d1, d1 = ds ++ (List.replicate q true ++ [false]) := ⟨_, rfl⟩
    have HD1 : Hid (d1 = ds ++ (List.replicate q true ++ [false])) := hd1
    have hl1 : d1.length < 4398046511000 := by rw [hd1]; simp; omega
    clear hd1
    go_enter Tryz.func72, Tryz.ntmps72
    go_wp2_with first
      | (go_at_call 85; refine (isNumber_any z w).mono ?_; rw [HZ.out]; rintro e w2 ⟨rfl, rfl⟩)
      | (go_at_call 82; refine (isParameter_any k w).mono ?_; rw [HP.out]; rintro e w2 ⟨rfl, rfl⟩)
      | (go_at_call 87; refine (isRaw_any z k w h1 h2 (by omega)).mono ?_; rw [HR.out]; rintro e w2 ⟨rfl, rfl⟩)
      | fail
    refine (ones_at w b rv ds q HW.out (by omega) (by omega) _ HQ.out).mono ?_
    rw [← HD1.out]
    rintro e w1 ⟨rfl, rv1, hw1, hk1, hn1⟩
    have HW1 : Hid (WrAt w1 b rv1 d1) := hw1
    have HK1 : Hid (Kept (Wf b rv) w w1) := hk1
    have HN1 : Hid (∀ k, rv1.ownBlock = some k → rv.ownBlock = some k ∨ w.heap.size ≤ k) := hn1
    clear hw1 hk1 hn1
    go_wp2_with fail
    refine (put_any w1 b rv1 d1 z k HW1.out hl1 (by omega)).mono ?_
    rintro e w2 ⟨rfl, hw2⟩
    have HW2 : Hid (Wrote w1 w2 b rv1 (d1 ++ dig z k)) := hw2
    clear hw2
    go_wp2
    go_ret
    refine ⟨rfl, ?_⟩
    have := Wrote.trans HK1.out HN1.out HW2.out
    rw [HD1.out, List.append_assoc, ← HD.out] at this
    exact this

end Go.Proofs.YtejgkgnocgplbabGreat

/- The document's own answers, by their contracts: digits as bytes: Get, TakeOnes, Rest. -/
namespace Go.Proofs.YtejgkgnocgplbabGreat
set_option linter.unusedVariables false
set_option linter.unusedSimpArgs false
open Go.RowKit Dg

/-- Digits, a byte each, that can be read. -/
def BtAt (w : World) (v : Value) (ds : List Bool) : Prop :=
  (v = .slice none 0 0 ∧ ds = []) ∨
  ∃ b off cap, v = .slice (some ⟨b, off, none⟩) ds.length cap ∧ b < w.heap.size ∧ ds.length ≤ cap ∧ cap ≤ maxLen ∧ ∀ j d, ds[j]? = some d → w.cell? ⟨b, off + j, none⟩ = some (.int .u8 (d.toNat : Int))

theorem BtAt.kept {w w' : World} {v : Value} {ds : List Bool} {F : Nat → Prop} (h : BtAt w v ds) (hk : Kept F w w') (hF : ∀ k, v.ownBlock = some k → ¬ F k) : BtAt w' v ds := by
  rcases h with h | ⟨b, off, cap, rfl, hb, hl, hm, hc⟩
  · exact Or.inl h
  · refine Or.inr ⟨b, off, cap, rfl, Nat.lt_of_lt_of_le hb hk.size, hl, hm, fun j d hd => ?_⟩
    rw [hk.cell hb (hF b rfl)]
    exact hc j d hd
theorem BtAt.below {w w' : World} {v : Value} {ds : List Bool} (h : BtAt w v ds) (hb : Below w.heap.size w w') : BtAt w' v ds :=
  h.kept (F := fun _ => False) (Kept.of_below hb) (fun _ _ h => h)
theorem BtAt.drew {w : World} {v : Value} {ds : List Bool} (h : BtAt w v ds) : BtAt w.drew v ds := h
theorem BtAt.drewN {w : World} {v : Value} {ds : List Bool} (n : Nat) (h : BtAt w v ds) : BtAt (w.drewN n) v ds := h
theorem BtAt.lt {w : World} {v : Value} {ds : List Bool} (h : BtAt w v ds) : ∀ k, v.ownBlock = some k → k < w.heap.size := by
  rcases h with ⟨rfl, _⟩ | ⟨b, off, cap, rfl, hb, _⟩
  · intro k hk; simp [Value.ownBlock] at hk
  · intro k hk; simp [Value.ownBlock] at hk; omega

/-- What is behind the first n digits. -/
theorem BtAt.drop {w : World} {b off cap o n : Nat} {ds : List Bool} (hb : b < w.heap.size) (hn : n ≤ ds.length) (hl : ds.length ≤ cap) (hm : cap ≤ maxLen) (hc : ∀ j d, ds[j]? = some d → w.cell? ⟨b, off + j, none⟩ = some (.int .u8 (d.toNat : Int))) (ho : cap ≠ n → o = off + n) :
    BtAt w (.slice (some ⟨b, o, none⟩) (ds.length - n) (cap - n)) (ds.drop n) := by
  refine Or.inr ⟨b, o, cap - n, by simp, hb, by simp; omega, by omega, fun j d hd => ?_⟩
  have hj : n + j < ds.length := by
    have := (List.getElem?_eq_some_iff.1 hd).1
    simp at this; omega
  rw [ho (by omega)]
  rw [List.getElem?_drop] at hd
  have := hc (n + j) d hd
  rw [Nat.add_assoc]
  exact this

/-- Get: what comes, how many are taken, whether it may be. -/
def getOut (ds : List Bool) (n : Int) : Nat × Nat × Bool :=
  if 0 ≤ n ∧ n ≤ 62 ∧ n ≤ ds.length then (num (ds.take n.toNat), n.toNat, true) else (0, 0, false)

end Go.Proofs.YtejgkgnocgplbabGreat

/- The document's own answers, by their contracts: TakeOnes, Rest. -/
namespace Go.Proofs.YtejgkgnocgplbabGreat
set_option linter.unusedVariables false
set_option linter.unusedSimpArgs false
open Go.RowKit Dg

/-- How many ones are ahead, m at most. -/
def lead : List Bool → Nat → Nat
  | [], _ => 0
  | _ :: _, 0 => 0
  | true :: ds, m + 1 => lead ds m + 1
  | false :: _, _ + 1 => 0
theorem lead_le (ds : List Bool) : ∀ m, lead ds m ≤ m := by
  induction ds with
  | nil => intro m; simp [lead]
  | cons d ds ih =>
    intro m
    cases m with
    | zero => simp [lead]
    | succ m => cases d with
      | true => have := ih m; simp [lead]; omega
      | false => simp [lead]
theorem lead_le_length (ds : List Bool) : ∀ m, lead ds m ≤ ds.length := by
  induction ds with
  | nil => intro m; simp [lead]
  | cons d ds ih =>
    intro m
    cases m with
    | zero => simp [lead]
    | succ m => cases d with
      | true => have := ih m; simp [lead]; omega
      | false => simp [lead]
theorem lead_true (ds : List Bool) : ∀ m i, i < lead ds m → ds[i]? = some true := by
  induction ds with
  | nil => intro m i h; simp [lead] at h
  | cons d ds ih =>
    intro m i h
    cases m with
    | zero => simp [lead] at h
    | succ m => cases d with
      | true =>
        simp only [lead] at h
        cases i with
        | zero => rfl
        | succ i => rw [List.getElem?_cons_succ]; exact ih m i (by omega)
      | false => simp [lead] at h
theorem lead_false (ds : List Bool) : ∀ m, lead ds m < m → lead ds m < ds.length → ds[lead ds m]? = some false := by
  induction ds with
  | nil => intro m _ h; simp at h
  | cons d ds ih =>
    intro m h1 h2
    cases m with
    | zero => omega
    | succ m => cases d with
      | true =>
        simp only [lead, List.length_cons] at h1 h2 ⊢
        rw [List.getElem?_cons_succ]
        exact ih m (by omega) (by omega)
      | false => simp [lead]

/-- Ones: what comes, how many are taken, whether it may be. -/
def onesOut (ds : List Bool) (most : Int) : Nat × Nat × Bool :=
  if 0 ≤ most ∧ most ≤ 1024 then
    if lead ds most.toNat = most.toNat then (most.toNat, most.toNat, true)
    else if lead ds most.toNat = ds.length then (0, 0, false)
    else (lead ds most.toNat, lead ds most.toNat + 1, true)
  else (0, 0, false)

end Go.Proofs.YtejgkgnocgplbabGreat

/- A reader and the document's own digits side by side: each call by one contract for all arguments. -/
namespace Go.Proofs.YtejgkgnocgplbabGreat
set_option linter.unusedVariables false
set_option linter.unusedSimpArgs false
open Go.RowKit Dg

theorem cell_one {w : World} {b off : Nat} {ds : List Bool} (hc : ∀ j d, ds[j]? = some d → w.cell? ⟨b, off + j, none⟩ = some (.int .u8 (d.toNat : Int))) {i : Nat} (h : ds[i]? = some true) : w.cell? ⟨b, off + i, none⟩ = some (.int .u8 1) := hc i true h
theorem cell_nought {w : World} {b off : Nat} {ds : List Bool} (hc : ∀ j d, ds[j]? = some d → w.cell? ⟨b, off + j, none⟩ = some (.int .u8 (d.toNat : Int))) {i : Nat} (h : ds[i]? = some false) : w.cell? ⟨b, off + i, none⟩ = some (.int .u8 0) := hc i false h

/-- What a reader has left. -/
def left (l : List Nat) (k : Nat) : List Bool := (unpack l).drop k
theorem left_get (l : List Nat) (k i : Nat) : (left l k)[i]? = (unpack l)[k + i]? := by simp [left]
theorem left_len (l : List Nat) (k : Nat) : (left l k).length = 8 * l.length - k := by simp [left]
theorem left_drop (l : List Nat) (k n : Nat) : left l (k + n) = (left l k).drop n := by simp [left]

theorem rones_all (w : World) (b : Nat) (rv : Value) (l : List Nat) (k : Nat) (n : Int) (h : RdAt w b rv l k) :
    Calls Tryz.prog 97 #[.pointer (some ⟨b, 0, none⟩), .int .i64 n] w fun e w' => e = .returned (.tuple #[.int .i64 ((onesOut (left l k) n).1 : Nat), .bool (onesOut (left l k) n).2.2]) ∧ RdAt w' b rv l (k + (onesOut (left l k) n).2.1) ∧ Kept (fun i => i = b) w w' := by
  by_cases hbad : n < 0 ∨ 1024 < n
  · refine (rones_bad w _ n hbad).mono ?_
    rintro e w' ⟨rfl, rfl⟩
    have hg : onesOut (left l k) n = (0, 0, false) := by unfold onesOut; rw [if_neg (by omega)]
    rw [hg]
    exact ⟨rfl, h, Kept.refl _ _⟩
  · obtain ⟨N, rfl⟩ := Int.eq_ofNat_of_zero_le (show 0 ≤ n by omega)
    have hle := lead_le (left l k) N
    have hlen := lead_le_length (left l k) N
    have hll := left_len l k
    have hkl := h.le
    by_cases h1 : lead (left l k) N = N
    · have hg : onesOut (left l k) (N : Nat) = (N, N, true) := by unfold onesOut; rw [if_pos (by omega)]; simp [h1]
      rw [hg]
      exact rones_most w b rv l k N h (by omega) (by omega) (fun i hi => by rw [← left_get]; exact lead_true _ N i (by omega))
    · by_cases h2 : lead (left l k) N = (left l k).length
      · have hg : onesOut (left l k) (N : Nat) = (0, 0, false) := by unfold onesOut; rw [if_pos (by omega), if_neg (by simpa using h1), if_pos (by simpa using h2)]
        rw [hg]
        refine (rones_end w b rv l k (left l k).length N h (by omega) (by omega) (by omega) (fun i hi => by rw [← left_get]; exact lead_true _ N i (by omega))).mono ?_
        rintro e w' ⟨rfl, rfl⟩
        exact ⟨rfl, h.drew, (Kept.refl _ _).drew⟩
      · have hg : onesOut (left l k) (N : Nat) = (lead (left l k) N, lead (left l k) N + 1, true) := by unfold onesOut; rw [if_pos (by omega), if_neg (by simpa using h1), if_neg (by simpa using h2)]; simp
        rw [hg]
        refine (rones_nought w b rv l k (lead (left l k) N) N h (by omega) (by omega) (by rw [← left_get]; exact lead_false _ N (by omega) (by omega)) (fun i hi => by rw [← left_get]; exact lead_true _ N i hi)).mono ?_
        rintro e w' ⟨rfl, h3, h4⟩
        exact ⟨rfl, h3, h4⟩

theorem get_all (w : World) (b : Nat) (rv : Value) (l : List Nat) (k : Nat) (n : Int) (h : RdAt w b rv l k) :
    Calls Tryz.prog 35 #[.pointer (some ⟨b, 0, none⟩), .int .i64 n] w fun e w' => e = .returned (.tuple #[.int .i64 ((getOut (left l k) n).1 : Nat), .bool (getOut (left l k) n).2.2]) ∧ RdAt w' b rv l (k + (getOut (left l k) n).2.1) ∧ Kept (fun i => i = b) w w' := by
  have hll := left_len l k
  have hkl := h.le
  by_cases hbad : n < 0 ∨ 62 < n
  · refine (get_bad w _ n hbad).mono ?_
    rintro e w' ⟨rfl, rfl⟩
    have hg : getOut (left l k) n = (0, 0, false) := by unfold getOut; rw [if_neg (by omega)]
    rw [hg]
    exact ⟨rfl, h, Kept.refl _ _⟩
  · by_cases hfew : 8 * (l.length : Int) - k < n
    · have hg : getOut (left l k) n = (0, 0, false) := by unfold getOut; rw [if_neg (by omega)]
      rw [hg]
      refine (get_few w b rv l k n h (by omega) (by omega) hfew).mono ?_
      rintro e w' ⟨rfl, rfl⟩
      exact ⟨rfl, h.drew, (Kept.refl _ _).drew⟩
    · obtain ⟨N, rfl⟩ := Int.eq_ofNat_of_zero_le (show 0 ≤ n by omega)
      have hg : getOut (left l k) (N : Nat) = (num ((left l k).take N), N, true) := by unfold getOut; rw [if_pos (by omega)]; simp
      rw [hg]
      exact get_any w b rv l k N h (by omega) (by omega)

/-- Are all noughts? -/
def noOnes (ds : List Bool) : Bool := !ds.any id
theorem noOnes_cons (d : Bool) (ds : List Bool) : noOnes (d :: ds) = (!d && noOnes ds) := by simp [noOnes]
theorem noOnes_split (ds : List Bool) : (noOnes ds = true ∧ ∀ i, i < ds.length → ds[i]? = some false) ∨ (noOnes ds = false ∧ ∃ c : Nat, ds[c]? = some true ∧ ∀ i : Nat, i < c → ds[i]? = some false) := by
  induction ds with
  | nil => exact Or.inl ⟨rfl, fun i h => by simp at h⟩
  | cons d ds ih =>
    cases d with
    | true => exact Or.inr ⟨by simp [noOnes], 0, rfl, fun i h => by omega⟩
    | false =>
      rw [noOnes_cons]
      rcases ih with ⟨h1, h2⟩ | ⟨h1, c, h2, h3⟩
      · refine Or.inl ⟨by simpa using h1, fun i h => ?_⟩
        cases i with
        | zero => rfl
        | succ i => rw [List.getElem?_cons_succ]; exact h2 i (by simpa using h)
      · refine Or.inr ⟨by simpa using h1, c + 1, by rw [List.getElem?_cons_succ]; exact h2, fun i h => ?_⟩
        cases i with
        | zero => rfl
        | succ i => rw [List.getElem?_cons_succ]; exact h3 i (by omega)

theorem rest_all (w : World) (b : Nat) (rv : Value) (l : List Nat) (k : Nat) (h : RdAt w b rv l k) :
    Calls Tryz.prog 26 #[.pointer (some ⟨b, 0, none⟩)] w fun e w' => e = .returned (.bool (noOnes (left l k))) ∧ w = w' := by
  have hll := left_len l k
  have hkl := h.le
  rcases noOnes_split (left l k) with ⟨h1, h2⟩ | ⟨h1, c, h2, h3⟩
  · rw [h1]
    refine rest_true w b rv l k h (fun i hi hi2 => ?_)
    have := h2 (i - k) (by omega)
    rw [left_get, show k + (i - k) = i by omega] at this
    exact this
  · rw [h1]
    refine rest_false w b rv l k (k + c) h (by omega) (by rw [← left_get]; exact h2) (fun i hi hi2 => ?_)
    have := h3 (i - k) (by omega)
    rw [left_get, show k + (i - k) = i by omega] at this
    exact this

end Go.Proofs.YtejgkgnocgplbabGreat

/- The document's own answers: Of. -/
namespace Go.Proofs.YtejgkgnocgplbabGreat
set_option linter.unusedVariables false
set_option linter.unusedSimpArgs false
open Go.RowKit Dg

/-- Digits as bytes. -/
def bn (ds : List Bool) : List Nat := ds.map Bool.toNat
@[simp] theorem length_bn (ds : List Bool) : (bn ds).length = ds.length := by simp [bn]
theorem bn_snoc (ds : List Bool) (d : Bool) : u8s (bn (ds ++ [d])) = u8s (bn ds) ++ [.int .u8 (d.toNat : Int)] := by simp [u8s, bn]
theorem bn_get (ds : List Bool) (j : Nat) : (u8s (bn ds))[j]? = ds[j]?.map fun d => Value.int .u8 (d.toNat : Int) := by simp [u8s, bn]; rfl

theorem BtAt.of_owns {w : World} {base : Nat} {v : Value} {ds : List Bool} (h : w.ownsRow base 5 1 v ds.length (u8s (bn ds))) : BtAt w v ds := by
  rcases h.2 with ⟨rfl, hn⟩ | ⟨g, cap, cur, rfl, hb, hh, hn, hm, hcs, htake⟩
  · exact Or.inl ⟨rfl, List.eq_nil_of_length_eq_zero hn⟩
  · refine Or.inr ⟨g, 0, cap, rfl, (Array.getElem?_eq_some_iff.1 hh).1, hn, hm, fun j d hd => ?_⟩
    have hj : j < ds.length := (List.getElem?_eq_some_iff.1 hd).1
    have e : (u8s (bn ds))[j]? = some (.int .u8 (d.toNat : Int)) := by rw [bn_get, hd]; rfl
    rw [← htake, List.getElem?_take, if_pos (by omega)] at e
    simp only [World.cell?, hh]
    simpa using e

theorem bit_k (x k : Nat) (d : Bool) (hx : x < 256) (hd : d = ((x : Int) / 2 ^ k % 2 == 1)) : bits BinOp.and IntKind.u8 ((x : Int) / 2 ^ k) 1 = (d.toNat : Int) := by
  have e : (x : Int) / 2 ^ k = ((x / 2 ^ k : Nat) : Int) := by push_cast; rfl
  have hlt : x / 2 ^ k < 256 := Nat.lt_of_le_of_lt (Nat.div_le_self _ _) hx
  rw [e] at hd ⊢
  have e1 : (1 : Int) = ((1 : Nat) : Int) := rfl
  rw [e1, u8_and_nat _ _ hlt (by decide), nat_mask1, hd]
  have h2 : x / 2 ^ k % 2 = 0 ∨ x / 2 ^ k % 2 = 1 := by omega
  have e3 : ((x / 2 ^ k : Nat) : Int) % 2 = ((x / 2 ^ k % 2 : Nat) : Int) := by push_cast; rfl
  rw [e3]
  rcases h2 with h | h <;> rw [h] <;> rfl

theorem dig8 (x : Nat) : dig (x : Int) 8 = (List.range 8).map (digitOf x) := by
  have h : ∀ k j : Nat, 7 - j = k → ((x : Int) / 2 ^ k % 2 == 1) = digitOf x j := by
    intro k j hk
    unfold digitOf
    rw [hk]
    have e : (x : Int) / 2 ^ k % 2 = ((x / 2 ^ k % 2 : Nat) : Int) := by push_cast; rfl
    rw [e]
    have h2 : x / 2 ^ k % 2 = 0 ∨ x / 2 ^ k % 2 = 1 := by omega
    rcases h2 with h | h <;> rw [h] <;> rfl
  have e : List.range 8 = [0, 1, 2, 3, 4, 5, 6, 7] := by decide
  rw [e]
  simp only [dig, List.map_cons, List.map_nil]
  rw [h 7 0 rfl, h 6 1 rfl, h 5 2 rfl, h 4 3 rfl, h 3 4 rfl, h 2 5 rfl, h 1 6 rfl, h 0 7 rfl]

theorem unpack_snoc (l : List Nat) (x : Nat) : unpack (l ++ [x]) = unpack l ++ dig (x : Int) 8 := by rw [dig8]; simp [unpack]

/-- What of bytes a loop has laid as digits. -/
def OfAt (w wr : World) (v : Value) (ds : List Bool) : Prop := wr.ownsRow w.heap.size 5 1 v ds.length (u8s (bn ds)) ∧ Below w.heap.size w wr

end Go.Proofs.YtejgkgnocgplbabGreat

/- Lend and Intact. -/
namespace Go.Proofs.YtejgkgnocgplbabGreat
set_option linter.unusedVariables false
set_option linter.unusedSimpArgs false
open Go.RowKit Dg

/-- 'make([]T, n, c)': a new row of c zero elements. -/
theorem wpList_make_cap {P : Program} (w : World) {ops : Array Oper} {rest : List Oper} {o : Oper} {a : Act} {Q : Exit → Act → World → Prop}
    (hg : o.guard = none) (l c : Operand) (t : TypeId) (hop : o.op = Op.makeSlice t l c)
    (e : TypeId) (i : TypeInfo) (z : Value) (h1 : P.underlying t = some (.slice e)) (h2 : P.info? e = some i) (h3 : i.zero = some z)
    (kl kc : IntKind) (L C : Int) (n m : Nat) (hl : a.eval l = .int kl L) (hc : a.eval c = .int kc C) (hL : L = (n : Int)) (hC : C = (m : Int)) (hnm : n ≤ m) (b2 : i.bytes * m ≤ 281474976710656) (b3 : m ≤ maxLen)
    (hK : ∀ cur : Array Value, cur.size = m * i.size → wpList P ops Q rest (a.put o.dst (.slice (some ⟨w.heap.size, 0, none⟩) n m)) (w.alloc (.cells cur e))) :
    wpList P ops Q (o :: rest) a w := by
  refine wpList_plain hg fun K hK' => ?_
  have b3' : (m : Int) ≤ 9223372036854775807 := by unfold maxLen at b3; omega
  have b2' : (i.bytes : Int) * (m : Int) ≤ 281474976710656 := by
    have h : ((i.bytes * m : Nat) : Int) ≤ 281474976710656 := by omega
    rwa [Int.natCast_mul] at h
  have hrun := run_make (P := P) w t e i z h1 h2 h3 kl kc n m (by omega) (by omega) b2' b3'
  simp only [Int.toNat_natCast] at hrun
  subst hL
  subst hC
  unfold Oper.wp
  simp [execOp, hop, hl, hc, hrun, Result.andThen]
  exact hK' _ _ (hK _ (size_madeCells _ _))

/-- A row's cells, all of them. -/
def RowIs (w : World) (g : Nat) (X : List Value) : Prop := w.heap[g]? = some (.cells X.toArray 5 (0, 0))
theorem RowIs.cell {w : World} {g : Nat} {X : List Value} (h : RowIs w g X) {j : Nat} {u : Value} (hu : X[j]? = some u) : w.cell? ⟨g, j, none⟩ = some u := by
  have h' : w.heap[g]? = some (.cells X.toArray 5 (0, 0)) := h
  simp only [World.cell?, h']
  simpa using hu
theorem RowIs.frozen {w : World} {g : Nat} {X : List Value} (h : RowIs w g X) (j : Nat) : w.frozen? ⟨g, j, none⟩ = false := by
  have h' : w.heap[g]? = some (.cells X.toArray 5 (0, 0)) := h
  simp [World.frozen?, h']
theorem RowIs.set {w : World} {g : Nat} {X : List Value} (h : RowIs w g X) (j : Nat) (u : Value) : RowIs (w.setCell ⟨g, j, none⟩ u) g (X.set j u) := by
  have := heap_setCell_of (o := j) (show w.heap[g]? = some (.cells X.toArray 5 (0, 0)) from h) u
  unfold RowIs
  rw [this]
  simp
theorem RowIs.kept {w w' : World} {g : Nat} {X : List Value} {F : Nat → Prop} (h : RowIs w g X) (hk : Kept F w w') (hF : ¬ F g) : RowIs w' g X := by
  have h' : w.heap[g]? = some (.cells X.toArray 5 (0, 0)) := h
  unfold RowIs
  rw [hk.block g (Array.getElem?_eq_some_iff.1 h').1 hF]
  exact h'
theorem RowIs.below {w w' : World} {g : Nat} {X : List Value} (h : RowIs w g X) (hb : Below w.heap.size w w') : RowIs w' g X := h.kept (F := fun _ => False) (Kept.of_below hb) (fun h => h)
theorem RowIs.lt {w : World} {g : Nat} {X : List Value} (h : RowIs w g X) : g < w.heap.size := by
  have h' : w.heap[g]? = some (.cells X.toArray 5 (0, 0)) := h
  exact (Array.getElem?_eq_some_iff.1 h').1

end Go.Proofs.YtejgkgnocgplbabGreat

/- BitsReads: the walk of the law. -/
namespace Go.Proofs.YtejgkgnocgplbabGreat
set_option linter.unusedVariables false
set_option linter.unusedSimpArgs false
open Go.RowKit Dg

theorem get_all' (w : World) (b : Nat) (rv : Value) (l : List Nat) (k : Nat) (n : Int) (h : RdAt w b rv l k) (o : Nat × Nat × Bool) (ho : getOut (left l k) n = o) :
    Calls Tryz.prog 35 #[.pointer (some ⟨b, 0, none⟩), .int .i64 n] w fun e w' => e = .returned (.tuple #[.int .i64 (o.1 : Nat), .bool o.2.2]) ∧ RdAt w' b rv l (k + o.2.1) ∧ Kept (fun i => i = b) w w' := by
  subst ho; exact get_all w b rv l k n h
theorem rones_all' (w : World) (b : Nat) (rv : Value) (l : List Nat) (k : Nat) (n : Int) (h : RdAt w b rv l k) (o : Nat × Nat × Bool) (ho : onesOut (left l k) n = o) :
    Calls Tryz.prog 97 #[.pointer (some ⟨b, 0, none⟩), .int .i64 n] w fun e w' => e = .returned (.tuple #[.int .i64 (o.1 : Nat), .bool o.2.2]) ∧ RdAt w' b rv l (k + o.2.1) ∧ Kept (fun i => i = b) w w' := by
  subst ho; exact rones_all w b rv l k n h
theorem BtAt.form {w : World} {v : Value} {ds : List Bool} (h : BtAt w v ds) : ∃ a cap, v = .slice a ds.length cap := by
  rcases h with ⟨rfl, rfl⟩ | ⟨b, off, cap, rfl, _⟩
  · exact ⟨none, 0, rfl⟩
  · exact ⟨_, cap, rfl⟩

theorem RowIs.sl {w : World} {g : Nat} {l : List Nat} (h : RowIs w g (u8s (l ++ [85, 85, 85]))) : SlAt w (.slice (some ⟨g, 0, none⟩) l.length (l.length + 3)) l := by
  refine ⟨some ⟨g, 0, none⟩, l.length + 3, rfl, fun j x hx => ⟨g, 0, rfl, ?_⟩⟩
  rw [Nat.zero_add]
  refine h.cell ?_
  rw [u8s_get, List.getElem?_append_left (List.getElem?_eq_some_iff.1 hx).1, hx]
  rfl

theorem RdAt.drewN {w : World} {b : Nat} {rv : Value} {l : List Nat} {k : Nat} (n : Nat) (h : RdAt w b rv l k) : RdAt (w.drewN n) b rv l k := ⟨h.box, h.row, h.le, h.ne, h.byte, h.small⟩

theorem rest_all' (w : World) (b : Nat) (rv : Value) (l : List Nat) (k : Nat) (h : RdAt w b rv l k) (q : Bool) (hq : q = noOnes (left l k)) :
    Calls Tryz.prog 26 #[.pointer (some ⟨b, 0, none⟩)] w fun e w' => e = .returned (.bool q) ∧ w = w' := by subst hq; exact rest_all w b rv l k h
/-- What the loop keeps: a reader and the document's digits, as much taken of each. -/
structure ReadAt (w wr : World) (r g : Nat) (rvr v : Value) (l : List Nat) (k : Nat) : Prop where
  rd : RdAt wr r rvr l k
  bt : BtAt wr v (left l k)
  ap : ∀ i, v.ownBlock = some i → r < i
  row : RowIs wr g (u8s (l ++ [85, 85, 85]))
  bel : Below w.heap.size w wr

end Go.Proofs.YtejgkgnocgplbabGreat
