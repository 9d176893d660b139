/- The document's own LpcResidual and LpcRestore. -/
import Derived.Test.YtlonnoapbfjomaaLpc3
namespace Go.Proofs.Ytlonnoapbfjomaa
set_option linter.unusedVariables false
set_option linter.unusedSimpArgs false
open Go.RowKit Dg

theorem rguess_below (w : World) (a ca : Option Addr) (n m cap cc : Nat) (past cs : List Int) (hn : past.length = n) (hm : cs.length = m) (h : IntsAt w a past) (hc : IntsAt w ca cs) (hl : past.length ≤ 1000000) (hcl : cs.length ≤ 1000000) (g : Int) (hg : g = lguess past cs) :
    Calls Try.prog 74 #[.slice a n cap, .slice ca m cc] w fun e w' => e = .returned (.int .i64 g) ∧ Below w.heap.size w w' := by
  refine (rguess_any w a ca n m cap cc past cs hn hm h hc hl hcl g hg).mono ?_
  rintro e w' ⟨rfl, d, rfl⟩
  exact ⟨rfl, below_drewN (Below.refl _ _) d⟩

set_option maxRecDepth 100000 in
set_option maxHeartbeats 4000000 in
theorem rlresid_any (w : World) (a ca : Option Addr) (cap cc : Nat) (l cs : List Int) (h : Ns w a cap l) (hc : IntsAt w ca cs) (hl : l.length ≤ 1000000) (hcl : cs.length ≤ 1000000) (R : List Int × Int) (hR : R = lresOut l cs) :
    Calls Try.prog 55 #[.slice a l.length cap, .slice ca cs.length cc] w fun e w' => Gave w w' R e := by
  obtain ⟨i0, hi, hz0, hz1, hz2⟩ := info_parts Try.info3
  unfold lresOut at hR
  have H : Hid (Ns w a cap l) := h
  have HC : Hid (IntsAt w ca cs) := hc
  clear h hc
  by_cases h1 : areC cs
  case neg =>
    rw [if_pos (.inl h1)] at hR
    have HR : Hid (R = ([], 1)) := hR
    have HA : Hid (false = decide (areC cs)) := (decide_eq_false h1).symm
    clear hR h1
    go_enter Try.func55, Try.ntmps55
    go_wp2_with (go_at_call 73; refine (rcoefs6_any _ _ _ _ HC.out hcl false HA.out).mono ?_; rintro e w1 ⟨rfl, rfl⟩)
    go_ret2
    exact Gave.none HR.out (Below.refl _ _)
  have HA : Hid (true = decide (areC cs)) := (decide_eq_true h1).symm
  have HC1 : Hid (areC cs) := h1
  have hc12 : cs.length ≤ 12 := h1.2.1
  by_cases h2 : l.length < cs.length
  · rw [if_pos (.inr h2)] at hR
    have HR : Hid (R = ([], 1)) := hR
    clear hR h1
    go_enter Try.func55, Try.ntmps55
    go_wp2_with (go_at_call 73; refine (rcoefs6_any _ _ _ _ HC.out hcl true HA.out).mono ?_; rintro e w1 ⟨rfl, rfl⟩)
    go_ret2
    exact Gave.none HR.out (Below.refl _ _)
  rw [if_neg (by simp [h1, h2])] at hR
  clear h1
  have h2' : cs.length ≤ l.length := by omega
  by_cases hS : allS l
  case neg =>
    rw [if_neg hS] at hR
    have HT : Hid (8 = mayZ l) := by show _ = _; unfold mayZ; rw [if_neg hS]
    have HR : Hid (R = ([], 8)) := hR
    clear hR hS
    go_enter Try.func55, Try.ntmps55
    go_wp2_with first
      | (go_at_call 73; refine (rcoefs6_any _ _ _ _ HC.out hcl true HA.out).mono ?_; rintro e w1 ⟨rfl, rfl⟩)
      | (go_at_call 34; refine (rmay_any _ _ _ _ H.out.at_ hl 8 HT.out).mono ?_; rintro e w1 ⟨rfl, rfl⟩)
    go_ret2
    exact Gave.none HR.out (Below.refl _ _)
  case pos =>
    rw [if_pos hS] at hR
    by_cases h64 : 64 < l.length
    · rw [if_pos h64] at hR
      have HT : Hid (4 = mayZ l) := by show _ = _; unfold mayZ; rw [if_pos hS, if_pos h64]
      have HR : Hid (R = ([], 4)) := hR
      clear hR hS
      go_enter Try.func55, Try.ntmps55
      go_wp2_with first
        | (go_at_call 73; refine (rcoefs6_any _ _ _ _ HC.out hcl true HA.out).mono ?_; rintro e w1 ⟨rfl, rfl⟩)
        | (go_at_call 34; refine (rmay_any _ _ _ _ H.out.at_ hl 4 HT.out).mono ?_; rintro e w1 ⟨rfl, rfl⟩)
      go_ret2
      exact Gave.none HR.out (Below.refl _ _)
    · rw [if_neg h64] at hR
      have HT : Hid (0 = mayZ l) := by show _ = _; unfold mayZ; rw [if_pos hS, if_neg h64]
      have HR : Hid (R = (lresidZ l cs, 0)) := hR
      have HS : Hid (allS l) := hS
      clear hR hS
      go_enter Try.func55, Try.ntmps55
      go_wp2_with first
        | (go_at_call 73; refine (rcoefs6_any _ _ _ _ HC.out hcl true HA.out).mono ?_; rintro e w1 ⟨rfl, rfl⟩)
        | (go_at_call 34; refine (rmay_any _ _ _ _ H.out.at_ hl 0 HT.out).mono ?_; rintro e w1 ⟨rfl, rfl⟩)
      go_loopw [7, 8] (fun v i wr => ∃ (k : Nat), cs.length ≤ k ∧ k ≤ l.length ∧ i = .int .i64 (k : Int) ∧ Hid (OwnInts wr w.heap.size v ((lresidZ l cs).take (k - cs.length))) ∧ Hid (Below w.heap.size w wr)) (fun _ i _ => l.length - (intOf i).toNat)
      case atStart => exact ⟨cs.length, Nat.le_refl _, h2', rfl, by rw [Nat.sub_self]; exact OwnInts.nil _ _, Below.refl _ _⟩
      case round =>
        obtain ⟨k, hnk, hkl, rfl, ho, hb⟩ := hrel
        by_cases hk : k < l.length
        · obtain ⟨x, hx⟩ : ∃ x, l[k]? = some x := ⟨l[k], by simp [hk]⟩
          have hat := H.out.at_.mono hb.out
          obtain ⟨b, off, rfl, hc⟩ := hat k x hx
          have hs1 := slice_ints (some ⟨b, off, none⟩) l.length cap k (by have := H.out.le; omega)
          have HTL : Hid ((l.take k).length = k) := by show _ = _; simp; omega
          have HTK : Hid (IntsAt wr (some ⟨b, off, none⟩) (l.take k)) := hat.take k
          have HC2 : Hid (IntsAt wr ca cs) := HC.out.mono hb.out
          obtain ⟨g, hg⟩ : ∃ g, g = lguess (l.take k) cs := ⟨_, rfl⟩
          have HG : Hid (g = lguess (l.take k) cs) := hg
          obtain ⟨hg1, hg2⟩ := lguess_small (l.take k) cs
          rw [← hg] at hg1 hg2
          obtain ⟨hx1, hx2⟩ := HS.out x (List.mem_of_getElem? hx)
          obtain ⟨y, hy⟩ : ∃ y, y = x - g := ⟨_, rfl⟩
          have HNX : Hid ((lresidZ l cs).take (k + 1 - cs.length) = (lresidZ l cs).take (k - cs.length) ++ [x - g]) := lresidZ_next l cs k hnk hk _ (by rw [getD_of hx, ← hg])
          have hol : ((lresidZ l cs).take (k - cs.length)).length ≤ 1000000 := by simp; omega
          have hsz : w.heap.size ≤ wr.heap.size := hb.out.size
          clear hx hg hat
          go_wp2_with fail
          have HW : Hid (IntKind.i64.wrap (x - g) = x - g) := Go.IntWalk.i64_in _ (by omega)
          go_region_law first
            | (go_simp; go_at_call 74; refine (rguess_below wr.drew _ _ _ _ _ _ _ _ HTL.out rfl HTK.out HC2.out (by rw [HTL.out]; omega) hcl g HG.out).mono ?_; rintro e w2 ⟨rfl, hb2⟩; have hc2 : w2.cell? ⟨b, off + k, none⟩ = some (.int .i64 x) := (hb2.cell (p := ⟨b, off + k, none⟩) (World.block_lt_of_cell? wr _ hc)).trans hc; have HO2 : Hid (OwnInts w2 w.heap.size u7 ((lresidZ l cs).take (k - cs.length))) := OwnInts.mono (w := wr.drew) (World.ownsRow.drew ho.out) hb2; have HB2 : Hid (Below w.heap.size w w2) := hb.out.drew.trans (hb2.mono hsz); have hsz2 : w.heap.size ≤ w2.heap.size := Nat.le_trans hsz hb2.size; clear hb2)
            | (refine step_append_int w2 rfl (.tmp 32) (.tmp 43) 22 rfl w.heap.size i0 Try.underlying22 hi hz0 hz1 hz2 u7 ((lresidZ l cs).take (k - cs.length)) (by rfl) HO2.out (IntKind.i64.wrap (x - g)) (by rfl) hol hsz2 ?_; intro v' w' h1 h2)
          all_goals
            rw [HW.out, ← HNX.out] at h1
            have HB' : Hid (Below w.heap.size w w') := HB2.out.trans h2.out
            clear h2
            go_wp2_with fail
            exact ⟨⟨k + 1, by omega, by omega, by go_num, h1, HB'⟩, by (simp [intOf]) <;> omega⟩
        · have e : k = l.length := by omega
          subst e
          have ho' := ho.out
          rw [List.take_of_length_le (by simp)] at ho'
          have HO : Hid (OwnInts wr w.heap.size _ (lresidZ l cs)) := ho'
          clear ho ho'
          go_wp2_with fail
          go_ret2
          rw [HR.out]
          exact ⟨_, rfl, HO.out, hb.out⟩

end Go.Proofs.Ytlonnoapbfjomaa
