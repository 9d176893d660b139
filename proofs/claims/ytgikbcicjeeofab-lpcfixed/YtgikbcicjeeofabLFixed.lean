/- LpcFixed: the walk of the law. -/
import Derived.Test.YtgikbcicjeeofabLpc5
namespace Go.Proofs.Ytgikbcicjeeofab
set_option linter.unusedVariables false
set_option linter.unusedSimpArgs false
open Go.RowKit Dg

/-- Coefficients, times 4096. -/
def scaled (cs : List Int) : List Int := cs.map fun c => 4096 * c
@[simp] theorem length_scaled (cs : List Int) : (scaled cs).length = cs.length := by simp [scaled]
theorem scaled_next (cs : List Int) (k : Nat) (c : Int) (h : cs[k]? = some c) : (scaled cs).take (k + 1) = (scaled cs).take k ++ [4096 * c] := by
  refine take_next _ _ _ ?_
  unfold scaled
  rw [List.getElem?_map, h]
  rfl
theorem lsum_scaled {past cs : List Int} (hS : allS past) (hC : ∀ c ∈ cs, -6 ≤ c ∧ c ≤ 6) (hl : cs.length ≤ past.length) (k : Nat) (hk : k ≤ cs.length) : lsum past (scaled cs) k = 4096 * gsum past cs k := by
  induction k with
  | zero => rfl
  | succ k ih =>
    have hk' : k < cs.length := by omega
    have e : cs[k]? = some cs[k] := by simp [hk']
    have e2 : (scaled cs)[k]? = some (4096 * cs[k]) := by unfold scaled; rw [List.getElem?_map, e]; rfl
    have h1 := hC cs[k] (List.getElem_mem hk')
    have h2 := hS.at (k := past.length - 1 - k) (by omega)
    simp only [lsum, gsum]
    rw [ih (by omega), getD_of e, getD_of e2]
    unfold term
    unfold isS at h2
    rw [if_pos ⟨by unfold isC; omega, by unfold isN; omega⟩]
    rw [Int.mul_add, Int.mul_assoc]
theorem lguess_scaled {past cs : List Int} (hS : allS past) (hC : ∀ c ∈ cs, -6 ≤ c ∧ c ≤ 6) (hl : cs.length ≤ past.length) (h4 : cs.length ≤ 4) : lguess past (scaled cs) = guessZ past cs := by
  have e : terms past (scaled cs) = cs.length := by unfold terms; simp; omega
  unfold lguess guessZ
  rw [e, lsum_scaled hS hC hl _ (Nat.le_refl _)]
  omega
theorem areC_scaled {cs : List Int} (hC : ∀ c ∈ cs, -6 ≤ c ∧ c ≤ 6) (h1 : 1 ≤ cs.length) (h4 : cs.length ≤ 4) : areC (scaled cs) := by
  refine ⟨by simpa using h1, by simp; omega, fun x hx => ?_⟩
  unfold scaled at hx
  obtain ⟨c, hc, rfl⟩ := List.mem_map.1 hx
  have := hC c hc
  unfold isC
  omega
theorem lresidZ_scaled (l : List Int) (o : Nat) (h4 : o ≤ 4) (hS : allS l) : lresidZ l (scaled (coefs (o : Int))) = residZ l o := by
  obtain ⟨h1, h2⟩ := coefs_ge (o : Int) (by omega) (by omega)
  have hl : (coefs (o : Int)).length = o := by omega
  apply List.ext_getElem?
  intro k
  by_cases hk : o + k < l.length
  · have a1 := lresidZ_get l (scaled (coefs (o : Int))) (o + k) (by simp; omega) hk
    have a2 := residZ_get l o (o + k) (by omega) hk
    simp only [length_scaled, hl] at a1
    rw [show o + k - o = k by omega] at a1 a2
    rw [a1, a2, lguess_scaled (hS.take _) h2 (by simp; omega) (by omega)]
  · rw [List.getElem?_eq_none (by simp; omega), List.getElem?_eq_none (by simp; omega)]
theorem resOut_scaled (l : List Int) (o : Nat) (h1 : 1 ≤ o) (h4 : o ≤ 4) : resOut l (o : Int) = lresOut l (scaled (coefs (o : Int))) := by
  obtain ⟨e1, e2⟩ := coefs_ge (o : Int) (by omega) (by omega)
  have hl : (coefs (o : Int)).length = o := by omega
  have hA := areC_scaled e2 (by omega) (by omega)
  unfold resOut lresOut
  by_cases hs : l.length < o
  · rw [if_pos (by omega), if_pos (.inr (by simp; omega))]
  · rw [if_neg (show ¬ ((o : Int) < 0 ∨ 4 < (o : Int) ∨ (l.length : Int) < (o : Int)) by omega), if_neg (show ¬ (¬ areC (scaled (coefs (o : Int))) ∨ l.length < (scaled (coefs (o : Int))).length) by simp [hA]; omega)]
    by_cases hS : allS l
    · rw [if_pos hS, if_pos hS]
      by_cases h64 : 64 < l.length
      · rw [if_pos h64, if_pos h64]
      · rw [if_neg h64, if_neg h64, Int.toNat_natCast, lresidZ_scaled l o h4 hS]
    · rw [if_neg hS, if_neg hS]

set_option maxRecDepth 100000 in
set_option maxHeartbeats 4000000 in
theorem lfixed_any (W : World) (a : Option Addr) (len cap : Nat) (z : List Int) (n : Int) (hr : IsRow .i64 W a len cap z) (hn : I64 n) :
    Calls Try.prog 3 #[.slice a len cap, .int .i64 n] W fun e W' => e = .returned (.bool true) ∧ Below W.heap.size W W' := by
  obtain ⟨i0, hi, hz0, hz1, hz2⟩ := info_parts Try.info3
  obtain ⟨l, hll, hI, hat, hle, hm, hnone, hblk⟩ := hr.ints
  obtain ⟨hn1, hn2⟩ := hn
  subst hll
  have HA : Hid (IntsAt W a l) := hat
  have HI : Hid (∀ x ∈ l, I64 x) := hI
  have HM : Hid (l.length ≤ maxLen) := Nat.le_trans hle hm
  obtain ⟨o, ho⟩ : ∃ o : Nat, (o : Int) = 1 + n % 4 := ⟨(1 + n % 4).toNat, by omega⟩
  have ho1 : 1 ≤ o := by omega
  have ho4 : o ≤ 4 := by omega
  have HO : Hid (n % 4 = (o : Int) - 1) := by show _ = _; omega
  have hoo : 1 + ((o : Int) - 1) = (o : Int) := by omega
  obtain ⟨e1, e2⟩ := coefs_ge (o : Int) (by omega) (by omega)
  obtain ⟨cs, hcs⟩ : ∃ cs, cs = coefs (o : Int) := ⟨_, rfl⟩
  rw [← hcs] at e1 e2
  have HCS : Hid (coefs (o : Int) = cs) := hcs.symm
  have HCB : Hid (∀ c ∈ cs, -6 ≤ c ∧ c ≤ 6) := e2
  have hc4 : cs.length ≤ 4 := by omega
  have HCO : Hid ((cs.length : Int) = (o : Int)) := e1
  clear hat hI hle hm hnone hblk hr ho hcs e1 e2
  go_enter Try.func3, Try.ntmps3
  go_wp2_with fail
  refine (samples_any W a cap 64 l false HA.out HM.out HI.out (by decide)).mono ?_
  rintro e w1 ⟨v1, xs, rfl, hv1, hxl, -, hxS, hb1⟩
  obtain ⟨a1, c1, rfl, hn1', hor1, hm1⟩ := hv1.ns
  have hx64 : xs.length ≤ 64 := by omega
  have HB1 : Hid (Below W.heap.size W w1) := hb1
  have HN1 : Hid (Ns w1 a1 c1 xs) := hn1'
  have hs1 : W.heap.size ≤ w1.heap.size := hb1.size
  clear hv1 hxl hb1 hn1' hor1 hm1 HA HI HM hxS
  go_wp2_with fail
  refine (within_any n 4 w1 hn1 hn2 (by decide) (by decide)).mono ?_
  rw [HO.out]
  rintro e w0 ⟨rfl, rfl⟩
  go_wp2_with fail
  refine (fcoefs_any w1 (o : Int)).mono ?_
  rw [HCS.out]
  rintro e w2 ⟨v2, rfl, hv2, hb2⟩
  obtain ⟨a2, c2, rfl, hn2', -, -⟩ := hv2.ns
  have HB2 : Hid (Below W.heap.size W w2) := HB1.out.trans (hb2.mono hs1)
  have HN2 : Hid (Ns w2 a1 c1 xs) := HN1.out.mono hb2
  have HC2 : Hid (IntsAt w2 a2 cs) := hn2'.at_
  have hs2 : W.heap.size ≤ w2.heap.size := HB2.out.size
  clear hv2 hb2 hn2' HB1 HN1
  go_wp2_with fail
  go_loopw [6, 21] (fun v i wr => ∃ (k : Nat), k ≤ cs.length ∧ i = .int .i64 (k : Int) ∧ Hid (OwnInts wr w2.heap.size v ((scaled cs).take k)) ∧ Hid (Below w2.heap.size w2 wr)) (fun _ i _ => cs.length - (intOf i).toNat)
  case atStart => exact ⟨0, Nat.zero_le _, rfl, OwnInts.nil _ _, Below.refl _ _⟩
  case round =>
    obtain ⟨k, hk, rfl, ho, hb⟩ := hrel
    have hsz : w2.heap.size ≤ wr.heap.size := hb.out.size
    by_cases hkn : k < cs.length
    · obtain ⟨c, hcx⟩ : ∃ x, cs[k]? = some x := ⟨cs[k], by simp [hkn]⟩
      obtain ⟨b, off, rfl, hc⟩ := HC2.out.mono hb.out k c hcx
      obtain ⟨hc1, hc2⟩ := HCB.out c (List.mem_of_getElem? hcx)
      have HNX : Hid ((scaled cs).take (k + 1) = (scaled cs).take k ++ [4096 * c]) := scaled_next cs k c hcx
      have hol : ((scaled cs).take k).length ≤ 1000000 := by simp; omega
      clear hcx
      go_wp2_with (at_builtin; go_must (refine wpList_append_int _ rfl (.tmp 24) (.tmp 30) 22 rfl w2.heap.size i0 Try.underlying22 hi hz0 hz1 hz2 _ ((scaled cs).take k) rfl ho.out (4096 * c) rfl hol hsz ?_))
      intro v' w' h1 h2
      rw [← HNX.out] at h1
      have HB' : Hid (Below w2.heap.size w2 w') := hb.out.trans h2.out
      clear h2
      go_wp2_with fail
      exact ⟨⟨k + 1, by omega, by go_num, h1, HB'⟩, by (simp [intOf]) <;> omega⟩
    · have e : k = cs.length := by omega
      subst e
      obtain ⟨ds, hds⟩ : ∃ ds, ds = scaled cs := ⟨_, rfl⟩
      have ho' := ho.out
      rw [List.take_of_length_le (by simp), ← hds] at ho'
      obtain ⟨a3, c3, rfl, hn3, -, -⟩ := ho'.ns
      have HD3 : Hid (IntsAt wr a3 ds) := hn3.at_
      have hd4 : ds.length ≤ 4 := by rw [hds]; simpa using hc4
      have HB3 : Hid (Below W.heap.size W wr) := HB2.out.trans (hb.out.mono hs2)
      have HN3 : Hid (Ns wr a1 c1 xs) := HN2.out.mono hb.out
      have hs3 : W.heap.size ≤ wr.heap.size := HB3.out.size
      obtain ⟨⟨L, j⟩, hR⟩ : ∃ R, R = resOut xs (o : Int) := ⟨_, rfl⟩
      have HR1 := hid_of hR
      have HR2 : Hid ((L, j) = lresOut xs ds) := by show _ = _; rw [hR, hds, resOut_scaled xs o ho1 ho4, HCS.out]
      have hLl : L.length ≤ 64 := by
        have := lresOut_len xs ds
        rw [← HR2.out] at this
        simp at this
        omega
      have hco : ((cs.length : Int) == (o : Int)) = true := beq_iff_eq.2 HCO.out
      clear ho ho' hn3 hds hR hb HN2 HC2 HB2 hkn hk
      go_wp2_with fail
      refine (lresid_any wr a1 a3 c1 c3 xs ds HN3.out HD3.out (by omega) (by omega) _ HR2.out).mono ?_
      rintro e w4 hg
      obtain ⟨a4, c4, rfl, -, hn4, hb4⟩ := hg.ok
      have HB4 : Hid (Below W.heap.size W w4) := HB3.out.trans (hb4.mono hs3)
      have HN4 : Hid (Ns w4 a1 c1 xs) := HN3.out.mono hb4
      have HL4 : Hid (IntsAt w4 a4 L) := hn4.at_
      have hs4 : W.heap.size ≤ w4.heap.size := HB4.out.size
      clear hg hn4 hb4 HN3 HD3 HB3
      go_wp2_with fail
      refine (fresid_any w4 a1 c1 xs (o : Int) HN4.out (by omega) _ HR1.out).mono ?_
      rintro e w5 hg
      obtain ⟨a5, c5, rfl, -, hn5, hb5⟩ := hg.ok
      have HB5 : Hid (Below W.heap.size W w5) := HB4.out.trans (hb5.mono hs4)
      have HL5 : Hid (IntsAt w5 a4 L) := HL4.out.mono hb5
      have HQ5 : Hid (IntsAt w5 a5 L) := hn5.at_
      have hs5 : W.heap.size ≤ w5.heap.size := HB5.out.size
      clear hg hn5 hb5 HN4 HL4 HB4
      go_wp2_with fail
      refine (sameInt_any w5 a4 a5 c4 c5 L HL5.out HQ5.out (by omega)).mono ?_
      rintro e w6 ⟨rfl, n6, rfl⟩
      go_wp2_with fail
      refine (wakes6_any _).mono ?_
      rintro e w7 ⟨rfl, hb7⟩
      have HB7 : Hid (Below W.heap.size W w7) := (below_drewN HB5.out n6).trans (hb7.mono hs5)
      clear hb7
      go_wp2
      go_ret
      exact ⟨rfl, HB7.out⟩

end Go.Proofs.Ytgikbcicjeeofab
