/- Restore, of the program. -/
import Derived.Test.YtlonnoapbfjomabGreatFix1
namespace Go.Proofs.YtlonnoapbfjomabGreat
set_option linter.unusedVariables false
set_option linter.unusedSimpArgs false
open Go.RowKit Dg

theorem restOut_none {warm res : List Int} (h4 : ¬ 4 < warm.length) (hS : allS warm) (h : restZ (coefs (warm.length : Int)) warm res = none) : restOut warm res = ([], 8) := by
  unfold restOut
  rw [if_neg h4, if_pos hS, h]
theorem restOut_long {warm res x : List Int} (h4 : ¬ 4 < warm.length) (hS : allS warm) (h : restZ (coefs (warm.length : Int)) warm res = some x) (hx : 64 < x.length) : restOut warm res = ([], 4) := by
  unfold restOut
  rw [if_neg h4, if_pos hS, h]
  simp [hx]
theorem restOut_some {warm res x : List Int} (h4 : ¬ 4 < warm.length) (hS : allS warm) (h : restZ (coefs (warm.length : Int)) warm res = some x) (hx : ¬ 64 < x.length) : restOut warm res = (x, 0) := by
  unfold restOut
  rw [if_neg h4, if_pos hS, h]
  simp [hx]

set_option maxRecDepth 100000 in
set_option maxHeartbeats 4000000 in
theorem frest_any (w : World) (a ra : Option Addr) (cap rc : Nat) (warm res : List Int) (h : Ns w a cap warm) (hr : IntsAt w ra res) (hl : warm.length ≤ 100000) (hrl : res.length ≤ 100000) (hI : ∀ x ∈ res, I64 x) (R : List Int × Int) (hR : R = restOut warm res) :
    Calls Tryz.prog 78 #[.slice a warm.length cap, .slice ra res.length rc] w fun e w' => Gave w w' R e := by
  obtain ⟨i0, hi, hz0, hz1, hz2⟩ := info_parts Tryz.info3
  have H : Hid (Ns w a cap warm) := h
  have HRI : Hid (IntsAt w ra res) := hr
  have HI : Hid (∀ x ∈ res, I64 x) := hI
  clear h hr hI
  by_cases h4 : 4 < warm.length
  · have HR : Hid (R = ([], 1)) := by show _ = _; rw [hR]; unfold restOut; rw [if_pos h4]
    clear hR
    go_enter Tryz.func78, Tryz.ntmps78
    go_wp2_with fail
    go_ret2
    exact Gave.none HR.out (Below.refl _ _)
  by_cases hS : allS warm
  case neg =>
    have HR : Hid (R = ([], 8)) := by show _ = _; rw [hR]; unfold restOut; rw [if_neg h4, if_neg hS]
    have HT : Hid (false = decide (allS warm)) := (decide_eq_false hS).symm
    clear hR hS
    go_enter Tryz.func78, Tryz.ntmps78
    go_wp2_with (go_at_call 81; refine (fare_any _ _ _ _ H.out.at_ (by omega) false HT.out).mono ?_; rintro e w1 ⟨rfl, rfl⟩)
    go_ret2
    exact Gave.none HR.out (Below.refl _ _)
  case pos =>
    have HT : Hid (true = decide (allS warm)) := (decide_eq_true hS).symm
    have HR : Hid (R = restOut warm res) := hR
    have HS : Hid (allS warm) := hS
    clear hR hS
    obtain ⟨hcl, hcb⟩ := coefs_ge (warm.length : Int) (by omega) (by omega)
    obtain ⟨cs, hcs⟩ : ∃ cs, cs = coefs (warm.length : Int) := ⟨_, rfl⟩
    rw [← hcs] at hcl hcb
    have HCS : Hid (coefs (warm.length : Int) = cs) := hcs.symm
    have HCB : Hid (∀ c ∈ cs, -6 ≤ c ∧ c ≤ 6) := hcb
    have HCL : Hid (cs.length = warm.length) := by show _ = _; omega
    obtain ⟨T, hT⟩ : ∃ T, T = restZ cs warm res := ⟨_, rfl⟩
    have HTT : Hid (T = restZ cs warm res) := hT
    clear hcs hcb hcl hT
    go_enter Tryz.func78, Tryz.ntmps78
    go_wp2_with first
      | (go_at_call 81; refine (fare_any _ _ _ _ H.out.at_ (by omega) true HT.out).mono ?_; rintro e w1 ⟨rfl, rfl⟩)
      | (go_at_call 82; refine (fcoefs_any _ _).mono ?_; rw [HCS.out]; rintro e w1 ⟨cv, rfl, hco, hb1⟩; obtain ⟨ca, cc, rfl, hcn, -, -⟩ := hco.ns; have HC1 : Hid (IntsAt w1 ca cs) := hcn.at_; have HB1 : Hid (Below w.heap.size w w1) := hb1; clear hco hcn hb1)
      | (at_builtin; go_must (refine wpList_append_ints _ rfl (.tmp 20) (.tmp 21) rfl w1.heap.size _ [] rfl (OwnInts.lit w1 w1.heap.size [] 0 rfl (Nat.le_refl _) (by decide) #[] rfl) a cap warm rfl ((H.out.mono HB1.out).mono ((Below.refl _ _).alloc (Nat.le_refl _) _)) (by simp; omega) (by simp) ?_))
    intro v2 w2 hv2 hk2 hd2
    have hsw : w.heap.size ≤ w1.heap.size := HB1.out.size
    have HB2 : Hid (Below w1.heap.size w1 w2) := hk2.out.below_of ((Below.refl _ _).alloc (Nat.le_refl _) _) (fun k hk => by cases hk; exact Nat.le_refl _) (by simp)
    clear hk2 hd2
    go_wp2_with fail
    go_loopw [7, 25] (fun v i wr => ∃ (k : Nat) (x : List Int), k ≤ res.length ∧ i = .int .i64 (k : Int) ∧ x.length ≤ 1000000 ∧ Hid (x.length = warm.length + k) ∧ Hid (allS x) ∧ Hid (T = restZ cs x (res.drop k)) ∧ Hid (OwnInts wr w1.heap.size v x) ∧ Hid (Below w1.heap.size w1 wr)) (fun _ i _ => res.length - (intOf i).toNat)
    case atStart => exact ⟨0, warm, Nat.zero_le _, rfl, by omega, rfl, HS.out, HTT.out, hv2.out, HB2.out⟩
    case round =>
      obtain ⟨k, x, hk, rfl, hxl, HXL, hxs, ht, ho, hb⟩ := hrel
      obtain ⟨xa, xc, rfl, hxn, -, -⟩ := ho.out.ns
      have HXA : Hid (IntsAt wr xa x) := hxn.at_
      have hsz : w1.heap.size ≤ wr.heap.size := hb.out.size
      have hbw : Hid (Below w.heap.size w wr) := HB1.out.trans (hb.out.mono hsw)
      clear hxn
      by_cases hkn : k < res.length
      · obtain ⟨r, hrx⟩ : ∃ x, res[k]? = some x := ⟨res[k], by simp [hkn]⟩
        obtain ⟨b, off, rfl, hc⟩ := HRI.out.mono hbw.out k r hrx
        obtain ⟨hr1, hr2⟩ := HI.out r (List.mem_of_getElem? hrx)
        have HC2 : Hid (IntsAt wr ca cs) := HC1.out.mono hb.out
        obtain ⟨g, hg⟩ : ∃ g, g = guessZ x cs := ⟨_, rfl⟩
        have HG : Hid (g = guessZ x cs) := hg
        have hcx : Hid (cs.length ≤ x.length) := by show _ ≤ _; rw [HXL.out, HCL.out]; omega
        have hc4 : Hid (cs.length ≤ 4) := by show _ ≤ _; rw [HCL.out]; omega
        have hgb := guess_small hxs.out HCB.out hcx.out hc4.out
        rw [← hg] at hgb
        obtain ⟨hg1, hg2⟩ := hgb
        have HX : Hid (res[k]? = some r) := hrx
        clear hrx hg
        have hbad : ¬ isS (g + r) → R = ([], 8) := fun hn => by
          rw [HR.out]
          refine restOut_none h4 HS.out ?_
          rw [HCS.out, ← HTT.out]
          exact restZ_bad HX.out (by rw [← HG.out]; exact hn) T ht.out
        by_cases hlo : r < -8388608 - g
        · have HR8 : Hid (R = ([], 8)) := hbad (by unfold isS; omega)
          clear hbad
          go_wp2_with (go_at_call 83; refine (fguess_any wr _ _ _ _ _ _ _ rfl HXA.out HC2.out hxl hcx.out hc4.out hxs.out HCB.out g HG.out).mono ?_; rintro e w3 ⟨rfl, rfl⟩)
          go_ret2
          exact Gave.none HR8.out hbw.out
        by_cases hhi : 8388607 - g < r
        · have HR8 : Hid (R = ([], 8)) := hbad (by unfold isS; omega)
          clear hbad
          go_wp2_with (go_at_call 83; refine (fguess_any wr _ _ _ _ _ _ _ rfl HXA.out HC2.out hxl hcx.out hc4.out hxs.out HCB.out g HG.out).mono ?_; rintro e w3 ⟨rfl, rfl⟩)
          go_ret2
          exact Gave.none HR8.out hbw.out
        · clear hbad
          have HSR : Hid (isS (g + r)) := by show isS _; unfold isS; omega
          go_wp2_with first
            | (go_at_call 83; refine (fguess_any wr _ _ _ _ _ _ _ rfl HXA.out HC2.out hxl hcx.out hc4.out hxs.out HCB.out g HG.out).mono ?_; rintro e w3 ⟨rfl, rfl⟩)
            | (at_builtin; go_must (refine wpList_append_int _ rfl (.tmp 42) (.tmp 46) 22 rfl w1.heap.size i0 Tryz.underlying22 hi hz0 hz1 hz2 _ x rfl ho.out (g + r) rfl hxl hsz ?_))
          intro v' w' h1 h2
          have HB' : Hid (Below w1.heap.size w1 w') := hb.out.trans h2.out
          have hxl' : (x ++ [g + r]).length ≤ 1000000 := by have := HXL.out; simp; omega
          have HXL' : Hid ((x ++ [g + r]).length = warm.length + (k + 1)) := by show _ = _; rw [List.length_append, HXL.out]; rfl
          have HT' : Hid (T = restZ cs (x ++ [g + r]) (res.drop (k + 1))) := by
            have := restZ_good HX.out (by rw [← HG.out]; exact HSR.out) T ht.out
            rw [← HG.out] at this
            exact this
          clear h2
          go_wp2_with fail
          exact ⟨⟨k + 1, x ++ [g + r], by omega, by go_num, hxl', HXL', hxs.out.snoc HSR.out, HT', h1, HB'⟩, by (simp [intOf]) <;> omega⟩
      · have e : k = res.length := by omega
        subst e
        have HX : Hid (restZ (coefs (warm.length : Int)) warm res = some x) := by
          show _ = _
          rw [HCS.out, ← HTT.out]
          exact restZ_end T ht.out
        by_cases h64 : 64 < x.length
        · have HR4 : Hid (R = ([], 4)) := by show _ = _; rw [HR.out]; exact restOut_long h4 HS.out HX.out h64
          go_wp2_with fail
          go_ret2
          exact Gave.none HR4.out hbw.out
        · have HR0 : Hid (R = (x, 0)) := by show _ = _; rw [HR.out]; exact restOut_some h4 HS.out HX.out h64
          go_wp2_with fail
          go_ret2
          rw [HR0.out]
          exact ⟨_, rfl, ho.out.base hsw, hbw.out⟩

end Go.Proofs.YtlonnoapbfjomabGreat
