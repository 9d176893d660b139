/- The small functions of fixed, and Residual. -/
import Derived.Test.YtlonnoapbfjomabGreatFixMath
namespace Go.Proofs.YtlonnoapbfjomabGreat
set_option linter.unusedVariables false
set_option linter.unusedSimpArgs false
open Go.RowKit Dg

set_option maxHeartbeats 1000000 in
theorem fcoefs_any (w : World) (o : Int) :
    Calls Tryz.prog 82 #[.int .i64 o] w fun e w' => ∃ v, e = .returned v ∧ OwnInts w' w.heap.size v (coefs o) ∧ Below w.heap.size w w' := by
  have hb : ∀ obj, Below w.heap.size w (w.alloc obj) := fun obj => (Below.refl _ _).alloc (Nat.le_refl _) _
  by_cases h1 : o = 1
  · subst h1
    go_enter Tryz.func82, Tryz.ntmps82
    go_wp2
    go_ret
    exact ⟨_, rfl, OwnInts.lit _ _ _ _ rfl (Nat.le_refl _) (by decide) _ rfl, hb _⟩
  by_cases h2 : o = 2
  · subst h2
    go_enter Tryz.func82, Tryz.ntmps82
    go_wp2
    go_ret
    exact ⟨_, rfl, OwnInts.lit _ _ _ _ rfl (Nat.le_refl _) (by decide) _ rfl, hb _⟩
  by_cases h3 : o = 3
  · subst h3
    go_enter Tryz.func82, Tryz.ntmps82
    go_wp2
    go_ret
    exact ⟨_, rfl, OwnInts.lit _ _ _ _ rfl (Nat.le_refl _) (by decide) _ rfl, hb _⟩
  by_cases h4 : o = 4
  · subst h4
    go_enter Tryz.func82, Tryz.ntmps82
    go_wp2
    go_ret
    exact ⟨_, rfl, OwnInts.lit _ _ _ _ rfl (Nat.le_refl _) (by decide) _ rfl, hb _⟩
  · have e : coefs o = [] := by simp [coefs, h1, h2, h3, h4]
    have HE : Hid (coefs o = []) := e
    clear e
    go_enter Tryz.func82, Tryz.ntmps82
    go_wp2
    go_ret
    exact ⟨_, rfl, by rw [HE.out]; exact OwnInts.nil _ _, Below.refl _ _⟩

set_option maxHeartbeats 1000000 in
theorem fare_any (w : World) (a : Option Addr) (cap : Nat) (l : List Int) (h : IntsAt w a l) (hl : l.length ≤ 1000000) (t : Bool) (ht : t = decide (allS l)) :
    Calls Tryz.prog 81 #[.slice a l.length cap] w fun e w' => e = .returned (.bool t) ∧ w = w' := by
  have H : Hid (IntsAt w a l) := h
  have HT : Hid (t = decide (allS l)) := ht
  clear h ht
  go_enter Tryz.func81, Tryz.ntmps81
  go_wp2
  go_loopw [7] (fun i wr => ∃ k : Nat, k ≤ l.length ∧ i = .int .i64 k ∧ Hid (allS (l.take k)) ∧ w = wr) (fun i _ => l.length - (intOf i).toNat)
  case atStart => exact ⟨0, Nat.zero_le _, rfl, fun x hx => by simp at hx, rfl⟩
  case round =>
    obtain ⟨k, hk, rfl, hall, rfl⟩ := hrel
    by_cases hkn : k < l.length
    · obtain ⟨x, hx⟩ : ∃ x, l[k]? = some x := ⟨l[k], by simp [hkn]⟩
      obtain ⟨b, off, rfl, hc⟩ := H.out k x hx
      have HX : Hid (l[k]? = some x) := hx
      clear hx
      have hbad : ¬ isS x → t = false := fun hn => by
        rw [HT.out]
        exact decide_eq_false (fun ha => hn (ha x (List.mem_of_getElem? HX.out)))
      by_cases hlo : x < -8388608
      · have ht := hbad (by unfold isS; omega)
        subst ht
        clear hbad
        go_wp2_with fail
        go_ret
        exact ⟨rfl, rfl⟩
      · by_cases hhi : 8388607 < x
        · have ht := hbad (by unfold isS; omega)
          subst ht
          clear hbad
          go_wp2_with fail
          go_ret
          exact ⟨rfl, rfl⟩
        · clear hbad
          go_wp2_with fail
          refine ⟨⟨k + 1, by omega, by go_num, ?_, by trivial⟩, by (simp [intOf]) <;> omega⟩
          show allS _
          rw [take_next l k x HX.out]
          exact hall.out.snoc (by unfold isS; omega)
    · have e : k = l.length := by omega
      subst e
      have ht : t = true := by
        have := hall.out
        rw [List.take_length] at this
        rw [HT.out]; exact decide_eq_true this
      subst ht
      go_wp2_with fail
      go_ret
      exact ⟨rfl, rfl⟩

set_option maxHeartbeats 1000000 in
theorem fguess_any (w : World) (a ca : Option Addr) (n cap cc : Nat) (past cs : List Int) (hn : past.length = n) (h : IntsAt w a past) (hc : IntsAt w ca cs) (hl : past.length ≤ 1000000) (hcl : cs.length ≤ past.length) (h4 : cs.length ≤ 4) (hS : allS past) (hC : ∀ c ∈ cs, -6 ≤ c ∧ c ≤ 6) (g : Int) (hg : g = guessZ past cs) :
    Calls Tryz.prog 83 #[.slice a n cap, .slice ca cs.length cc] w fun e w' => e = .returned (.int .i64 g) ∧ w = w' := by
  subst hn
  have H : Hid (IntsAt w a past) := h
  have HC : Hid (IntsAt w ca cs) := hc
  have HS : Hid (allS past) := hS
  have HCC : Hid (∀ c ∈ cs, -6 ≤ c ∧ c ≤ 6) := hC
  have HG : Hid (g = guessZ past cs) := hg
  clear h hc hS hC hg
  go_enter Tryz.func83, Tryz.ntmps83
  go_wp2
  go_loopw [5, 10] (fun s i wr => ∃ (k : Nat) (t : Int), k ≤ cs.length ∧ s = .int .i64 t ∧ i = .int .i64 k ∧ Hid (t = gsum past cs k) ∧ -201326592 ≤ t ∧ t ≤ 201326592 ∧ w = wr) (fun _ i _ => cs.length - (intOf i).toNat)
  case atStart => exact ⟨0, 0, Nat.zero_le _, rfl, rfl, rfl, by decide, by decide, rfl⟩
  case round =>
    obtain ⟨k, t, hk, rfl, rfl, ht, ht1, ht2, rfl⟩ := hrel
    by_cases hkn : k < cs.length
    · obtain ⟨c, hcx⟩ : ∃ x, cs[k]? = some x := ⟨cs[k], by simp [hkn]⟩
      obtain ⟨b1, o1, rfl, hc1⟩ := HC.out k c hcx
      obtain ⟨m, hm⟩ : ∃ m, m = past.length - 1 - k := ⟨_, rfl⟩
      have hml : m < past.length := by omega
      obtain ⟨x, hx⟩ : ∃ x, past[m]? = some x := ⟨past[m], by simp [hml]⟩
      obtain ⟨b2, o2, rfl, hc2⟩ := H.out m x hx
      have hmI : (past.length : Int) - 1 - (k : Int) = (m : Int) := by omega
      have hcs := HCC.out c (List.mem_of_getElem? hcx)
      have hxs := HS.out x (List.mem_of_getElem? hx)
      obtain ⟨p, hp⟩ : ∃ p, p = c * x := ⟨_, rfl⟩
      have hp12 := mul_small hcs hxs
      rw [← hp] at hp12
      obtain ⟨hp1, hp2⟩ := hp12
      have HP : Hid (c * x = p) := hp.symm
      have hnext : t + p = gsum past cs (k + 1) := by
        simp only [gsum]
        rw [getD_of hcx, ← hm, getD_of hx, ← hp, ← ht.out]
      have hb' := gsum_small HS.out HCC.out hcl (k + 1) (by omega)
      rw [← hnext] at hb'
      have hb1 : -201326592 ≤ t + p := by omega
      have hb2 : t + p ≤ 201326592 := by omega
      have HN : Hid (t + p = gsum past cs (k + 1)) := hnext
      clear hm hb' hnext hp hcs hxs hcx hx
      go_wp2_with fail
      rw [HP.out, Go.IntWalk.wrap64_in p (by omega), Go.IntWalk.wrap64_in (t + p) (by omega)]
      exact ⟨⟨k + 1, t + p, by omega, rfl, by go_num, HN, hb1, hb2, by trivial⟩, by (simp [intOf]) <;> omega⟩
    · have e : k = cs.length := by omega
      subst e
      have e2 : t = g := by rw [ht.out, HG.out]; rfl
      subst e2
      go_wp2_with fail
      go_ret
      exact ⟨rfl, rfl⟩

/-- What a function of a list and an error has given. -/
def Gave (w w' : World) (R : List Int × Int) (e : Ending) : Prop :=
  ∃ v, e = .returned (.tuple #[v, .int .i64 R.2]) ∧ OwnInts w' w.heap.size v R.1 ∧ Below w.heap.size w w'
theorem Gave.none {w w' : World} {R : List Int × Int} {k : Int} (hR : R = ([], k)) (hb : Below w.heap.size w w') : Gave w w' R (.returned (.tuple #[.slice none 0 0, .int .i64 k])) := by
  subst hR
  exact ⟨_, rfl, OwnInts.nil _ _, hb⟩

set_option maxRecDepth 100000 in
set_option maxHeartbeats 4000000 in
theorem fresid_any (w : World) (a : Option Addr) (cap : Nat) (l : List Int) (o : Int) (h : Ns w a cap l) (hl : l.length ≤ 1000000) (R : List Int × Int) (hR : R = resOut l o) :
    Calls Tryz.prog 71 #[.slice a l.length cap, .int .i64 o] w fun e w' => Gave w w' R e := by
  obtain ⟨i0, hi, hz0, hz1, hz2⟩ := info_parts Tryz.info3
  unfold resOut at hR
  by_cases h1 : o < 0
  · rw [if_pos (by omega)] at hR
    have HR : Hid (R = ([], 1)) := hR
    clear hR h
    go_enter Tryz.func71, Tryz.ntmps71
    go_wp2_with fail
    go_ret2
    exact Gave.none HR.out (Below.refl _ _)
  by_cases h2 : 4 < o
  · rw [if_pos (by omega)] at hR
    have HR : Hid (R = ([], 1)) := hR
    clear hR h
    go_enter Tryz.func71, Tryz.ntmps71
    go_wp2_with fail
    go_ret2
    exact Gave.none HR.out (Below.refl _ _)
  by_cases h3 : (l.length : Int) < o
  · rw [if_pos (by omega)] at hR
    have HR : Hid (R = ([], 1)) := hR
    clear hR h
    go_enter Tryz.func71, Tryz.ntmps71
    go_wp2_with fail
    go_ret2
    exact Gave.none HR.out (Below.refl _ _)
  rw [if_neg (by omega)] at hR
  obtain ⟨n, rfl⟩ := Int.eq_ofNat_of_zero_le (show 0 ≤ o by omega)
  have H : Hid (Ns w a cap l) := h
  clear h
  by_cases hS : allS l
  case neg =>
    rw [if_neg hS] at hR
    have HT : Hid (false = decide (allS l)) := (decide_eq_false hS).symm
    have HR : Hid (R = ([], 8)) := hR
    clear hR hS
    go_enter Tryz.func71, Tryz.ntmps71
    go_wp2_with (go_at_call 81; refine (fare_any _ _ _ _ H.out.at_ hl false HT.out).mono ?_; rintro e w1 ⟨rfl, rfl⟩)
    go_ret2
    exact Gave.none HR.out (Below.refl _ _)
  case pos =>
    rw [if_pos hS] at hR
    have HT : Hid (true = decide (allS l)) := (decide_eq_true hS).symm
    by_cases h64 : 64 < l.length
    · rw [if_pos h64] at hR
      have HR : Hid (R = ([], 4)) := hR
      clear hR hS
      go_enter Tryz.func71, Tryz.ntmps71
      go_wp2_with (go_at_call 81; refine (fare_any _ _ _ _ H.out.at_ hl true HT.out).mono ?_; rintro e w1 ⟨rfl, rfl⟩)
      go_ret2
      exact Gave.none HR.out (Below.refl _ _)
    · rw [if_neg h64, Int.toNat_natCast] at hR
      have HR : Hid (R = (residZ l n, 0)) := hR
      have HS : Hid (allS l) := hS
      clear hR hS
      have h4 : n ≤ 4 := by omega
      have hnl : n ≤ l.length := by omega
      obtain ⟨hcl, hcb⟩ := coefs_ge (n : Int) (by omega) (by omega)
      obtain ⟨cs, hcs⟩ : ∃ cs, cs = coefs (n : Int) := ⟨_, rfl⟩
      rw [← hcs] at hcl hcb
      have HCS : Hid (coefs (n : Int) = cs) := hcs.symm
      have HCB : Hid (∀ c ∈ cs, -6 ≤ c ∧ c ≤ 6) := hcb
      have hcl' : cs.length = n := by omega
      have HCL : Hid (cs.length = n) := hcl'
      clear hcs hcb hcl hcl' h1 h2 h3
      go_enter Tryz.func71, Tryz.ntmps71
      go_wp2_with first
        | (go_at_call 81; refine (fare_any _ _ _ _ H.out.at_ hl true HT.out).mono ?_; rintro e w1 ⟨rfl, rfl⟩)
        | (go_at_call 82; refine (fcoefs_any _ _).mono ?_; rw [HCS.out]; rintro e w1 ⟨cv, rfl, hco, hb1⟩; obtain ⟨ca, cc, rfl, hcn, -, -⟩ := hco.ns; have HC1 : Hid (IntsAt w1 ca cs) := hcn.at_; have HB1 : Hid (Below w.heap.size w w1) := hb1; clear hco hcn hb1)
      have hsw : w.heap.size ≤ w1.heap.size := HB1.out.size
      go_loopw [7, 8] (fun v i wr => ∃ (k : Nat), n ≤ k ∧ k ≤ l.length ∧ i = .int .i64 (k : Int) ∧ Hid (OwnInts wr w1.heap.size v ((residZ l n).take (k - n))) ∧ Hid (Below w1.heap.size w1 wr)) (fun _ i _ => l.length - (intOf i).toNat)
      case atStart => exact ⟨n, Nat.le_refl _, hnl, rfl, by rw [Nat.sub_self]; exact OwnInts.nil _ _, Below.refl _ _⟩
      case round =>
        obtain ⟨k, hnk, hkl, rfl, ho, hb⟩ := hrel
        by_cases hk : k < l.length
        · obtain ⟨x, hx⟩ : ∃ x, l[k]? = some x := ⟨l[k], by simp [hk]⟩
          have hbw : Below w.heap.size w wr := HB1.out.trans (hb.out.mono hsw)
          have hat := H.out.at_.mono hbw
          obtain ⟨b, off, rfl, hc⟩ := hat k x hx
          have hs1 := slice_ints (some ⟨b, off, none⟩) l.length cap k (by have := H.out.le; omega)
          have HTL : Hid ((l.take k).length = k) := by show _ = _; simp; omega
          have HTK : Hid (IntsAt wr (some ⟨b, off, none⟩) (l.take k)) := hat.take k
          have HTS : Hid (allS (l.take k)) := HS.out.take k
          have HC2 : Hid (IntsAt wr ca cs) := HC1.out.mono hb.out
          obtain ⟨g, hg⟩ : ∃ g, g = guessZ (l.take k) cs := ⟨_, rfl⟩
          have HG : Hid (g = guessZ (l.take k) cs) := hg
          have hgb := guess_small HTS.out HCB.out (by rw [HTL.out, HCL.out]; exact hnk) (by rw [HCL.out]; exact h4)
          rw [← hg] at hgb
          obtain ⟨hg1, hg2⟩ := hgb
          obtain ⟨hx1, hx2⟩ := HS.out x (List.mem_of_getElem? hx)
          obtain ⟨y, hy⟩ : ∃ y, y = x - g := ⟨_, rfl⟩
          have HNX : Hid ((residZ l n).take (k + 1 - n) = (residZ l n).take (k - n) ++ [x - g]) := residZ_next l n k hnk hk _ (by rw [getD_of hx, HCS.out, ← hg])
          have hol : ((residZ l n).take (k - n)).length ≤ 1000000 := by simp; omega
          have hsz : w1.heap.size ≤ wr.heap.size := hb.out.size
          clear hx hg hat hbw
          go_wp2_with fail
          have HW : Hid (IntKind.i64.wrap (x - g) = x - g) := Go.IntWalk.i64_in _ (by omega)
          go_region_law first
            | (go_simp; go_at_call 83; refine (fguess_any wr.drew _ _ _ _ _ _ _ HTL.out HTK.out HC2.out (by rw [HTL.out]; omega) (by rw [HTL.out, HCL.out]; exact hnk) (by rw [HCL.out]; exact h4) HTS.out HCB.out g HG.out).mono ?_; rintro e w2 ⟨rfl, rfl⟩)
            | (refine step_append_int wr.drew rfl (.tmp 36) (.tmp 47) 22 rfl w1.heap.size i0 Tryz.underlying22 hi hz0 hz1 hz2 u7 ((residZ l n).take (k - n)) (by rfl) (World.ownsRow.drew ho.out) (IntKind.i64.wrap (x - g)) (by rfl) hol hsz ?_; intro v' w' h1 h2)
          all_goals
            rw [HW.out, ← HNX.out] at h1
            have HB' : Hid (Below w1.heap.size w1 w') := hb.out.drew.trans h2.out
            clear h2
            go_wp2_with fail
            exact ⟨⟨k + 1, by omega, by omega, by go_num, h1, HB'⟩, by (simp [intOf]) <;> omega⟩
        · have e : k = l.length := by omega
          subst e
          have ho' := ho.out
          rw [List.take_of_length_le (by simp)] at ho'
          have HO : Hid (OwnInts wr w1.heap.size _ (residZ l n)) := ho'
          have hbw : Hid (Below w.heap.size w wr) := HB1.out.trans (hb.out.mono hsw)
          clear ho ho' hb
          go_wp2_with fail
          go_ret2
          rw [HR.out]
          exact ⟨_, rfl, HO.out.base hsw, hbw.out⟩

end Go.Proofs.YtlonnoapbfjomabGreat
