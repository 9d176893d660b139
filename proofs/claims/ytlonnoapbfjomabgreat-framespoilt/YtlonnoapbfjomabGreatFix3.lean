/- The document's own answers: May, Fixed, told, Residual, Restore. -/
import Derived.Test.YtlonnoapbfjomabGreatFix2
namespace Go.Proofs.YtlonnoapbfjomabGreat
set_option linter.unusedVariables false
set_option linter.unusedSimpArgs false
open Go.RowKit Dg

set_option maxHeartbeats 1000000 in
theorem rcoefs_any (w : World) (o : Int) :
    Calls Tryz.prog 66 #[.int .i64 o] w fun e w' => ∃ v, e = .returned v ∧ OwnInts w' w.heap.size v (coefs o) ∧ Below w.heap.size w w' := by
  have hb : ∀ obj, Below w.heap.size w (w.alloc obj) := fun obj => (Below.refl _ _).alloc (Nat.le_refl _) _
  by_cases h1 : o = 1
  · subst h1
    go_enter Tryz.func66, Tryz.ntmps66
    go_wp2
    go_ret
    exact ⟨_, rfl, OwnInts.lit _ _ _ _ rfl (Nat.le_refl _) (by decide) _ rfl, hb _⟩
  by_cases h2 : o = 2
  · subst h2
    go_enter Tryz.func66, Tryz.ntmps66
    go_wp2
    go_ret
    exact ⟨_, rfl, OwnInts.lit _ _ _ _ rfl (Nat.le_refl _) (by decide) _ rfl, hb _⟩
  by_cases h3 : o = 3
  · subst h3
    go_enter Tryz.func66, Tryz.ntmps66
    go_wp2
    go_ret
    exact ⟨_, rfl, OwnInts.lit _ _ _ _ rfl (Nat.le_refl _) (by decide) _ rfl, hb _⟩
  by_cases h4 : o = 4
  · subst h4
    go_enter Tryz.func66, Tryz.ntmps66
    go_wp2
    go_ret
    exact ⟨_, rfl, OwnInts.lit _ _ _ _ rfl (Nat.le_refl _) (by decide) _ rfl, hb _⟩
  · have e : coefs o = [] := by simp [coefs, h1, h2, h3, h4]
    have HE : Hid (coefs o = []) := e
    clear e
    go_enter Tryz.func66, Tryz.ntmps66
    go_wp2
    go_ret
    exact ⟨_, rfl, by rw [HE.out]; exact OwnInts.nil _ _, Below.refl _ _⟩

def mayZ (l : List Int) : Int := if allS l then (if 64 < l.length then 4 else 0) else 8
set_option maxHeartbeats 1000000 in
theorem rmay_any (w : World) (a : Option Addr) (cap : Nat) (l : List Int) (h : IntsAt w a l) (hl : l.length ≤ 1000000) (t : Int) (ht : t = mayZ l) :
    Calls Tryz.prog 10 #[.slice a l.length cap] w fun e w' => e = .returned (.int .i64 t) ∧ w = w' := by
  have H : Hid (IntsAt w a l) := h
  have HT : Hid (t = mayZ l) := ht
  clear h ht
  go_enter Tryz.func10, Tryz.ntmps10
  go_wp2
  go_loopw [6] (fun i wr => ∃ k : Nat, k ≤ l.length ∧ i = .int .i64 k ∧ Hid (allS (l.take k)) ∧ w = wr) (fun i _ => l.length - (intOf i).toNat)
  case atStart => exact ⟨0, Nat.zero_le _, rfl, fun x hx => by simp at hx, rfl⟩
  case round =>
    obtain ⟨k, hk, rfl, hall, rfl⟩ := hrel
    by_cases hkn : k < l.length
    · obtain ⟨x, hx⟩ : ∃ x, l[k]? = some x := ⟨l[k], by simp [hkn]⟩
      obtain ⟨b, off, rfl, hc⟩ := H.out k x hx
      have HX : Hid (l[k]? = some x) := hx
      clear hx
      have hbad : ¬ isS x → t = 8 := fun hn => by
        rw [HT.out]
        unfold mayZ
        rw [if_neg (fun ha => hn (ha x (List.mem_of_getElem? HX.out)))]
      by_cases hlo : x < -8388608
      · have ht := hbad (by unfold isS; omega)
        subst ht
        clear hbad
        go_wp2_with fail
        go_ret
        exact ⟨rfl, rfl⟩
      · by_cases hhi : 8388607 < x
        · have ht := hbad (by unfold isS; omega)
          subst ht
          clear hbad
          go_wp2_with fail
          go_ret
          exact ⟨rfl, rfl⟩
        · clear hbad
          go_wp2_with fail
          refine ⟨⟨k + 1, by omega, by go_num, ?_, by trivial⟩, by (simp [intOf]) <;> omega⟩
          show allS _
          rw [take_next l k x HX.out]
          exact hall.out.snoc (by unfold isS; omega)
    · have e : k = l.length := by omega
      subst e
      have ha := hall.out
      rw [List.take_length] at ha
      have ht : t = if 64 < l.length then 4 else 0 := by
        rw [HT.out]
        unfold mayZ
        rw [if_pos ha]
      clear ha hall
      by_cases h64 : 64 < l.length
      · rw [if_pos h64] at ht
        subst ht
        go_wp2_with fail
        go_ret
        exact ⟨rfl, rfl⟩
      · rw [if_neg h64] at ht
        subst ht
        go_wp2_with fail
        go_ret
        exact ⟨rfl, rfl⟩

set_option maxHeartbeats 1000000 in
theorem rtold_any (w : World) (a : Option Addr) (n cap : Nat) (past : List Int) (o : Int) (hn : past.length = n) (h : IntsAt w a past) (hl : past.length ≤ 1000000) (cs : List Int) (hcs : coefs o = cs) (hcl : cs.length ≤ past.length) (h4 : cs.length ≤ 4) (hS : allS past) (hC : ∀ c ∈ cs, -6 ≤ c ∧ c ≤ 6) (g : Int) (hg : g = guessZ past cs) :
    Calls Tryz.prog 40 #[.slice a n cap, .int .i64 o] w fun e w' => e = .returned (.int .i64 g) ∧ Below w.heap.size w w' := by
  subst hn
  have H : Hid (IntsAt w a past) := h
  have HCS : Hid (coefs o = cs) := hcs
  have HS : Hid (allS past) := hS
  have HCC : Hid (∀ c ∈ cs, -6 ≤ c ∧ c ≤ 6) := hC
  have HG : Hid (g = guessZ past cs) := hg
  clear h hS hC hg hcs
  go_enter Tryz.func40, Tryz.ntmps40
  go_wp2_with (go_at_call 66; refine (rcoefs_any _ _).mono ?_; rw [HCS.out]; rintro e w1 ⟨cv, rfl, hco, hb1⟩; obtain ⟨ca, cc, rfl, hcn, -, -⟩ := hco.ns; have HC1 : Hid (IntsAt w1 ca cs) := hcn.at_; have HB1 : Hid (Below w.heap.size w w1) := hb1; clear hco hcn hb1)
  have H1 : Hid (IntsAt w1 a past) := H.out.mono HB1.out
  clear H
  go_loopw [6, 12] (fun s i wr => ∃ (k m : Nat) (t : Int), k ≤ cs.length ∧ s = .int .i64 t ∧ i = .int .i64 k ∧ Hid (t = gsum past cs k) ∧ -201326592 ≤ t ∧ t ≤ 201326592 ∧ wr = w1.drewN m) (fun _ i _ => cs.length - (intOf i).toNat)
  case atStart => exact ⟨0, 0, 0, Nat.zero_le _, rfl, rfl, rfl, by decide, by decide, rfl⟩
  case round =>
    obtain ⟨k, n, t, hk, rfl, rfl, ht, ht1, ht2, rfl⟩ := hrel
    by_cases hkn : k < cs.length
    · obtain ⟨c, hcx⟩ : ∃ x, cs[k]? = some x := ⟨cs[k], by simp [hkn]⟩
      obtain ⟨b1, o1, rfl, hc1⟩ := HC1.out k c hcx
      obtain ⟨m, hm⟩ : ∃ m, m = past.length - 1 - k := ⟨_, rfl⟩
      have hml : m < past.length := by omega
      obtain ⟨x, hx⟩ : ∃ x, past[m]? = some x := ⟨past[m], by simp [hml]⟩
      obtain ⟨b2, o2, rfl, hc2⟩ := H1.out m x hx
      have hmI : (past.length : Int) - 1 - (k : Int) = (m : Int) := by omega
      have hcs := HCC.out c (List.mem_of_getElem? hcx)
      have hxs := HS.out x (List.mem_of_getElem? hx)
      obtain ⟨p, hp⟩ : ∃ p, p = c * x := ⟨_, rfl⟩
      have hp12 := mul_small hcs hxs
      rw [← hp] at hp12
      obtain ⟨hp1, hp2⟩ := hp12
      have HP : Hid (c * x = p) := hp.symm
      have hnext : t + p = gsum past cs (k + 1) := by
        simp only [gsum]
        rw [getD_of hcx, ← hm, getD_of hx, ← hp, ← ht.out]
      have hb' := gsum_small HS.out HCC.out hcl (k + 1) (by omega)
      rw [← hnext] at hb'
      have hb1 : -201326592 ≤ t + p := by omega
      have hb2 : t + p ≤ 201326592 := by omega
      have HN : Hid (t + p = gsum past cs (k + 1)) := hnext
      clear hm hb' hnext hp hcs hxs hcx hx
      go_wp2_with fail
      go_region
      all_goals go_wp2_with fail
      all_goals
        rw [HP.out, Go.IntWalk.wrap64_in p (by omega), Go.IntWalk.wrap64_in (t + p) (by omega)]
        exact ⟨⟨k + 1, n + 1, t + p, by omega, rfl, by go_num, HN, hb1, hb2, rfl⟩, by (simp [intOf]) <;> omega⟩
    · have e : k = cs.length := by omega
      subst e
      have e2 : t = g := by rw [ht.out, HG.out]; rfl
      subst e2
      go_wp2_with fail
      go_ret
      exact ⟨rfl, below_drewN HB1.out n⟩

set_option maxRecDepth 100000 in
set_option maxHeartbeats 4000000 in
theorem rresid_any (w : World) (a : Option Addr) (cap : Nat) (l : List Int) (o : Int) (h : Ns w a cap l) (hl : l.length ≤ 1000000) (R : List Int × Int) (hR : R = resOut l o) :
    Calls Tryz.prog 21 #[.slice a l.length cap, .int .i64 o] w fun e w' => Gave w w' R e := by
  obtain ⟨i0, hi, hz0, hz1, hz2⟩ := info_parts Tryz.info3
  unfold resOut at hR
  by_cases h1 : o < 0
  · rw [if_pos (by omega)] at hR
    have HR : Hid (R = ([], 1)) := hR
    clear hR h
    go_enter Tryz.func21, Tryz.ntmps21
    go_wp2_with fail
    go_ret2
    exact Gave.none HR.out (Below.refl _ _)
  by_cases h2 : 4 < o
  · rw [if_pos (by omega)] at hR
    have HR : Hid (R = ([], 1)) := hR
    clear hR h
    go_enter Tryz.func21, Tryz.ntmps21
    go_wp2_with fail
    go_ret2
    exact Gave.none HR.out (Below.refl _ _)
  by_cases h3 : (l.length : Int) < o
  · rw [if_pos (by omega)] at hR
    have HR : Hid (R = ([], 1)) := hR
    clear hR h
    go_enter Tryz.func21, Tryz.ntmps21
    go_wp2_with fail
    go_ret2
    exact Gave.none HR.out (Below.refl _ _)
  rw [if_neg (by omega)] at hR
  obtain ⟨n, rfl⟩ := Int.eq_ofNat_of_zero_le (show 0 ≤ o by omega)
  have H : Hid (Ns w a cap l) := h
  clear h
  by_cases hS : allS l
  case neg =>
    rw [if_neg hS] at hR
    have HT : Hid (8 = mayZ l) := by show _ = _; unfold mayZ; rw [if_neg hS]
    have HR : Hid (R = ([], 8)) := hR
    clear hR hS
    go_enter Tryz.func21, Tryz.ntmps21
    go_wp2_with (go_at_call 10; refine (rmay_any _ _ _ _ H.out.at_ hl 8 HT.out).mono ?_; rintro e w1 ⟨rfl, rfl⟩)
    go_ret2
    exact Gave.none HR.out (Below.refl _ _)
  case pos =>
    rw [if_pos hS] at hR
    by_cases h64 : 64 < l.length
    · rw [if_pos h64] at hR
      have HT : Hid (4 = mayZ l) := by show _ = _; unfold mayZ; rw [if_pos hS, if_pos h64]
      have HR : Hid (R = ([], 4)) := hR
      clear hR hS
      go_enter Tryz.func21, Tryz.ntmps21
      go_wp2_with (go_at_call 10; refine (rmay_any _ _ _ _ H.out.at_ hl 4 HT.out).mono ?_; rintro e w1 ⟨rfl, rfl⟩)
      go_ret2
      exact Gave.none HR.out (Below.refl _ _)
    · rw [if_neg h64, Int.toNat_natCast] at hR
      have HT : Hid (0 = mayZ l) := by show _ = _; unfold mayZ; rw [if_pos hS, if_neg h64]
      have HR : Hid (R = (residZ l n, 0)) := hR
      have HS : Hid (allS l) := hS
      clear hR hS
      have h4 : n ≤ 4 := by omega
      have hnl : n ≤ l.length := by omega
      obtain ⟨hcl, hcb⟩ := coefs_ge (n : Int) (by omega) (by omega)
      obtain ⟨cs, hcs⟩ : ∃ cs, cs = coefs (n : Int) := ⟨_, rfl⟩
      rw [← hcs] at hcl hcb
      have HCS : Hid (coefs (n : Int) = cs) := hcs.symm
      have HCB : Hid (∀ c ∈ cs, -6 ≤ c ∧ c ≤ 6) := hcb
      have hcl' : cs.length = n := by omega
      have HCL : Hid (cs.length = n) := hcl'
      clear hcs hcb hcl hcl' h1 h2 h3
      go_enter Tryz.func21, Tryz.ntmps21
      go_wp2_with (go_at_call 10; refine (rmay_any _ _ _ _ H.out.at_ hl 0 HT.out).mono ?_; rintro e w1 ⟨rfl, rfl⟩)
      go_loopw [7, 8] (fun v i wr => ∃ (k : Nat), n ≤ k ∧ k ≤ l.length ∧ i = .int .i64 (k : Int) ∧ Hid (OwnInts wr w.heap.size v ((residZ l n).take (k - n))) ∧ Hid (Below w.heap.size w wr)) (fun _ i _ => l.length - (intOf i).toNat)
      case atStart => exact ⟨n, Nat.le_refl _, hnl, rfl, by rw [Nat.sub_self]; exact OwnInts.nil _ _, Below.refl _ _⟩
      case round =>
        obtain ⟨k, hnk, hkl, rfl, ho, hb⟩ := hrel
        by_cases hk : k < l.length
        · obtain ⟨x, hx⟩ : ∃ x, l[k]? = some x := ⟨l[k], by simp [hk]⟩
          have hat := H.out.at_.mono hb.out
          obtain ⟨b, off, rfl, hc⟩ := hat k x hx
          have hs1 := slice_ints (some ⟨b, off, none⟩) l.length cap k (by have := H.out.le; omega)
          have HTL : Hid ((l.take k).length = k) := by show _ = _; simp; omega
          have HTK : Hid (IntsAt wr (some ⟨b, off, none⟩) (l.take k)) := hat.take k
          have HTS : Hid (allS (l.take k)) := HS.out.take k
          obtain ⟨g, hg⟩ : ∃ g, g = guessZ (l.take k) cs := ⟨_, rfl⟩
          have HG : Hid (g = guessZ (l.take k) cs) := hg
          have hgb := guess_small HTS.out HCB.out (by rw [HTL.out, HCL.out]; exact hnk) (by rw [HCL.out]; exact h4)
          rw [← hg] at hgb
          obtain ⟨hg1, hg2⟩ := hgb
          obtain ⟨hx1, hx2⟩ := HS.out x (List.mem_of_getElem? hx)
          obtain ⟨y, hy⟩ : ∃ y, y = x - g := ⟨_, rfl⟩
          have HNX : Hid ((residZ l n).take (k + 1 - n) = (residZ l n).take (k - n) ++ [x - g]) := residZ_next l n k hnk hk _ (by rw [getD_of hx, HCS.out, ← hg])
          have hol : ((residZ l n).take (k - n)).length ≤ 1000000 := by simp; omega
          have hsz : w.heap.size ≤ wr.heap.size := hb.out.size
          clear hx hg hat
          go_wp2_with fail
          have HW : Hid (IntKind.i64.wrap (x - g) = x - g) := Go.IntWalk.i64_in _ (by omega)
          go_region_law first
            | (go_simp; go_at_call 40; refine (rtold_any wr.drew _ _ _ _ _ HTL.out HTK.out (by rw [HTL.out]; omega) cs HCS.out (by rw [HTL.out, HCL.out]; exact hnk) (by rw [HCL.out]; exact h4) HTS.out HCB.out g HG.out).mono ?_; rintro e w2 ⟨rfl, hb2⟩; have hc2 : w2.cell? ⟨b, off + k, none⟩ = some (.int .i64 x) := (hb2.cell (p := ⟨b, off + k, none⟩) (World.block_lt_of_cell? wr _ hc)).trans hc; have HO2 : Hid (OwnInts w2 w.heap.size u7 ((residZ l n).take (k - n))) := OwnInts.mono (w := wr.drew) (World.ownsRow.drew ho.out) hb2; have HB2 : Hid (Below w.heap.size w w2) := hb.out.drew.trans (hb2.mono hsz); have hsz2 : w.heap.size ≤ w2.heap.size := Nat.le_trans hsz hb2.size; clear hb2)
            | (refine step_append_int w2 rfl (.tmp 33) (.tmp 44) 22 rfl w.heap.size i0 Tryz.underlying22 hi hz0 hz1 hz2 u7 ((residZ l n).take (k - n)) (by rfl) HO2.out (IntKind.i64.wrap (x - g)) (by rfl) hol hsz2 ?_; intro v' w' h1 h2)
          all_goals
            rw [HW.out, ← HNX.out] at h1
            have HB' : Hid (Below w.heap.size w w') := HB2.out.trans h2.out
            clear h2
            go_wp2_with fail
            exact ⟨⟨k + 1, by omega, by omega, by go_num, h1, HB'⟩, by (simp [intOf]) <;> omega⟩
        · have e : k = l.length := by omega
          subst e
          have ho' := ho.out
          rw [List.take_of_length_le (by simp)] at ho'
          have HO : Hid (OwnInts wr w.heap.size _ (residZ l n)) := ho'
          clear ho ho'
          go_wp2_with fail
          go_ret2
          rw [HR.out]
          exact ⟨_, rfl, HO.out, hb.out⟩

set_option maxRecDepth 100000 in
set_option maxHeartbeats 4000000 in
theorem rrest_any (w : World) (a ra : Option Addr) (cap rc : Nat) (warm res : List Int) (h : Ns w a cap warm) (hr : IntsAt w ra res) (hl : warm.length ≤ 100000) (hrl : res.length ≤ 100000) (hI : ∀ x ∈ res, I64 x) (R : List Int × Int) (hR : R = restOut warm res) :
    Calls Tryz.prog 37 #[.slice a warm.length cap, .slice ra res.length rc] w fun e w' => Gave w w' R e := by
  obtain ⟨i0, hi, hz0, hz1, hz2⟩ := info_parts Tryz.info3
  have H : Hid (Ns w a cap warm) := h
  have HRI : Hid (IntsAt w ra res) := hr
  have HI : Hid (∀ x ∈ res, I64 x) := hI
  clear h hr hI
  by_cases h4 : 4 < warm.length
  · have HR : Hid (R = ([], 1)) := by show _ = _; rw [hR]; unfold restOut; rw [if_pos h4]
    clear hR
    go_enter Tryz.func37, Tryz.ntmps37
    go_wp2_with fail
    go_ret2
    exact Gave.none HR.out (Below.refl _ _)
  by_cases hS : allS warm
  case neg =>
    have HR : Hid (R = ([], 8)) := by show _ = _; rw [hR]; unfold restOut; rw [if_neg h4, if_neg hS]
    have HT : Hid (8 = mayZ warm) := by show _ = _; unfold mayZ; rw [if_neg hS]
    clear hR hS
    go_enter Tryz.func37, Tryz.ntmps37
    go_wp2_with (go_at_call 10; refine (rmay_any _ _ _ _ H.out.at_ (by omega) 8 HT.out).mono ?_; rintro e w1 ⟨rfl, rfl⟩)
    go_ret2
    exact Gave.none HR.out (Below.refl _ _)
  case pos =>
    have HT : Hid (0 = mayZ warm) := by show _ = _; unfold mayZ; rw [if_pos hS, if_neg (by omega)]
    have HR : Hid (R = restOut warm res) := hR
    have HS : Hid (allS warm) := hS
    clear hR hS
    obtain ⟨hcl, hcb⟩ := coefs_ge (warm.length : Int) (by omega) (by omega)
    obtain ⟨cs, hcs⟩ : ∃ cs, cs = coefs (warm.length : Int) := ⟨_, rfl⟩
    rw [← hcs] at hcl hcb
    have HCS : Hid (coefs (warm.length : Int) = cs) := hcs.symm
    have HCB : Hid (∀ c ∈ cs, -6 ≤ c ∧ c ≤ 6) := hcb
    have HCL : Hid (cs.length = warm.length) := by show _ = _; omega
    obtain ⟨T, hT⟩ : ∃ T, T = restZ cs warm res := ⟨_, rfl⟩
    have HTT : Hid (T = restZ cs warm res) := hT
    clear hcs hcb hcl hT
    go_enter Tryz.func37, Tryz.ntmps37
    go_wp2_with first
      | (go_at_call 10; refine (rmay_any _ _ _ _ H.out.at_ (by omega) 0 HT.out).mono ?_; rintro e w1 ⟨rfl, rfl⟩)
      | (at_builtin; go_must (refine wpList_append_ints _ rfl _ (.tmp 18) rfl w.heap.size _ [] rfl (OwnInts.nil _ _) a cap warm rfl H.out (by simp; omega) (Nat.le_refl _) ?_))
    intro v2 w2 hv2 hk2 hd2
    have HB2 : Hid (Below w.heap.size w w2) := hk2.out.below_of (Below.refl _ _) (fun k hk => by cases hk) (Nat.le_refl _)
    clear hk2 hd2
    go_wp2_with fail
    go_loopw [7, 22] (fun v i wr => ∃ (k : Nat) (x : List Int), k ≤ res.length ∧ i = .int .i64 (k : Int) ∧ x.length ≤ 1000000 ∧ Hid (x.length = warm.length + k) ∧ Hid (allS x) ∧ Hid (T = restZ cs x (res.drop k)) ∧ Hid (OwnInts wr w.heap.size v x) ∧ Hid (Below w.heap.size w wr)) (fun _ i _ => res.length - (intOf i).toNat)
    case atStart => exact ⟨0, warm, Nat.zero_le _, rfl, by omega, rfl, HS.out, HTT.out, hv2.out, HB2.out⟩
    case round =>
      obtain ⟨k, x, hk, rfl, hxl, HXL, hxs, ht, ho, hb⟩ := hrel
      obtain ⟨xa, xc, rfl, hxn, -, -⟩ := ho.out.ns
      have HXA : Hid (IntsAt wr xa x) := hxn.at_
      have hsz : w.heap.size ≤ wr.heap.size := hb.out.size
      have hbw : Hid (Below w.heap.size w wr) := hb.out
      clear hxn
      by_cases hkn : k < res.length
      · obtain ⟨r, hrx⟩ : ∃ x, res[k]? = some x := ⟨res[k], by simp [hkn]⟩
        obtain ⟨b, off, rfl, hc⟩ := HRI.out.mono hbw.out k r hrx
        obtain ⟨hr1, hr2⟩ := HI.out r (List.mem_of_getElem? hrx)
        obtain ⟨g, hg⟩ : ∃ g, g = guessZ x cs := ⟨_, rfl⟩
        have HG : Hid (g = guessZ x cs) := hg
        have hcx : Hid (cs.length ≤ x.length) := by show _ ≤ _; rw [HXL.out, HCL.out]; omega
        have hc4 : Hid (cs.length ≤ 4) := by show _ ≤ _; rw [HCL.out]; omega
        have hgb := guess_small hxs.out HCB.out hcx.out hc4.out
        rw [← hg] at hgb
        obtain ⟨hg1, hg2⟩ := hgb
        have HX : Hid (res[k]? = some r) := hrx
        clear hrx hg
        have hbad : ¬ isS (g + r) → R = ([], 8) := fun hn => by
          rw [HR.out]
          refine restOut_none h4 HS.out ?_
          rw [HCS.out, ← HTT.out]
          exact restZ_bad HX.out (by rw [← HG.out]; exact hn) T ht.out
        by_cases hfar1 : r < -1099511627776
        · have HR8 : Hid (R = ([], 8)) := hbad (by unfold isS; omega)
          clear hbad
          go_wp2_with fail
          go_ret2
          exact Gave.none HR8.out hbw.out
        by_cases hfar2 : 1099511627776 < r
        · have HR8 : Hid (R = ([], 8)) := hbad (by unfold isS; omega)
          clear hbad
          go_wp2_with fail
          go_ret2
          exact Gave.none HR8.out hbw.out
        have HW : Hid (IntKind.i64.wrap (g + r) = g + r) := Go.IntWalk.i64_in _ (by omega)
        by_cases hlo : g + r < -8388608
        · have HR8 : Hid (R = ([], 8)) := hbad (by unfold isS; omega)
          clear hbad
          go_wp2_with fail
          go_region_law (go_simp; go_at_call 40; refine (rtold_any wr.drew _ _ _ _ _ rfl HXA.out hxl cs HCS.out hcx.out hc4.out hxs.out HCB.out g HG.out).mono ?_; rintro e w3 ⟨rfl, hb3⟩; have hc3 : w3.cell? ⟨b, off + k, none⟩ = some (.int .i64 r) := (hb3.cell (p := ⟨b, off + k, none⟩) (World.block_lt_of_cell? wr _ hc)).trans hc; have HO3 : Hid (OwnInts w3 w.heap.size (.slice xa x.length xc) x) := OwnInts.mono (w := wr.drew) (World.ownsRow.drew ho.out) hb3; have HB3 : Hid (Below w.heap.size w w3) := hb.out.drew.trans (hb3.mono hsz); have hsz3 : w.heap.size ≤ w3.heap.size := Nat.le_trans hsz hb3.size; clear hb3)
          all_goals
            rw [HW.out]
            go_wp2_with fail
            go_ret2
            exact Gave.none HR8.out HB3.out
        by_cases hhi : 8388607 < g + r
        · have HR8 : Hid (R = ([], 8)) := hbad (by unfold isS; omega)
          clear hbad
          go_wp2_with fail
          go_region_law (go_simp; go_at_call 40; refine (rtold_any wr.drew _ _ _ _ _ rfl HXA.out hxl cs HCS.out hcx.out hc4.out hxs.out HCB.out g HG.out).mono ?_; rintro e w3 ⟨rfl, hb3⟩; have hc3 : w3.cell? ⟨b, off + k, none⟩ = some (.int .i64 r) := (hb3.cell (p := ⟨b, off + k, none⟩) (World.block_lt_of_cell? wr _ hc)).trans hc; have HO3 : Hid (OwnInts w3 w.heap.size (.slice xa x.length xc) x) := OwnInts.mono (w := wr.drew) (World.ownsRow.drew ho.out) hb3; have HB3 : Hid (Below w.heap.size w w3) := hb.out.drew.trans (hb3.mono hsz); have hsz3 : w.heap.size ≤ w3.heap.size := Nat.le_trans hsz hb3.size; clear hb3)
          all_goals
            rw [HW.out]
            go_wp2_with fail
            go_ret2
            exact Gave.none HR8.out HB3.out
        · clear hbad
          have HSR : Hid (isS (g + r)) := by show isS _; unfold isS; omega
          go_wp2_with fail
          go_region_law (go_simp; go_at_call 40; refine (rtold_any wr.drew _ _ _ _ _ rfl HXA.out hxl cs HCS.out hcx.out hc4.out hxs.out HCB.out g HG.out).mono ?_; rintro e w3 ⟨rfl, hb3⟩; have hc3 : w3.cell? ⟨b, off + k, none⟩ = some (.int .i64 r) := (hb3.cell (p := ⟨b, off + k, none⟩) (World.block_lt_of_cell? wr _ hc)).trans hc; have HO3 : Hid (OwnInts w3 w.heap.size (.slice xa x.length xc) x) := OwnInts.mono (w := wr.drew) (World.ownsRow.drew ho.out) hb3; have HB3 : Hid (Below w.heap.size w w3) := hb.out.drew.trans (hb3.mono hsz); have hsz3 : w.heap.size ≤ w3.heap.size := Nat.le_trans hsz hb3.size; clear hb3)
          all_goals
            rw [HW.out]
            go_wp2_with (at_builtin; go_must (refine wpList_append_int _ rfl (.tmp 52) (.tmp 54) 22 rfl w.heap.size i0 Tryz.underlying22 hi hz0 hz1 hz2 _ x rfl HO3.out (g + r) rfl hxl hsz3 ?_))
            intro v' w' h1 h2
            have HB' : Hid (Below w.heap.size w w') := HB3.out.trans h2.out
            have hxl' : (x ++ [g + r]).length ≤ 1000000 := by have := HXL.out; simp; omega
            have HXL' : Hid ((x ++ [g + r]).length = warm.length + (k + 1)) := by show _ = _; rw [List.length_append, HXL.out]; rfl
            have HT' : Hid (T = restZ cs (x ++ [g + r]) (res.drop (k + 1))) := by
              have := restZ_good HX.out (by rw [← HG.out]; exact HSR.out) T ht.out
              rw [← HG.out] at this
              exact this
            clear h2
            go_wp2_with fail
            exact ⟨⟨k + 1, x ++ [g + r], by omega, by go_num, hxl', HXL', hxs.out.snoc HSR.out, HT', h1, HB'⟩, by (simp [intOf]) <;> omega⟩
      · have e : k = res.length := by omega
        subst e
        have HX : Hid (restZ (coefs (warm.length : Int)) warm res = some x) := by
          show _ = _
          rw [HCS.out, ← HTT.out]
          exact restZ_end T ht.out
        by_cases h64 : 64 < x.length
        · have HR4 : Hid (R = ([], 4)) := by show _ = _; rw [HR.out]; exact restOut_long h4 HS.out HX.out h64
          go_wp2_with fail
          go_ret2
          exact Gave.none HR4.out hbw.out
        · have HR0 : Hid (R = (x, 0)) := by show _ = _; rw [HR.out]; exact restOut_some h4 HS.out HX.out h64
          go_wp2_with fail
          go_ret2
          rw [HR0.out]
          exact ⟨_, rfl, ho.out, hbw.out⟩

end Go.Proofs.YtlonnoapbfjomabGreat
