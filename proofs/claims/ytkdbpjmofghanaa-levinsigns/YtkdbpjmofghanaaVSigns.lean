/- LevinSigns: the walk of the law. -/
import Derived.Test.YtkdbpjmofghanaaLevSym
import Derived.Test.YtkdbpjmofghanaaLevTwo
namespace Go.Proofs.Ytkdbpjmofghanaa
set_option linter.unusedVariables false
set_option linter.unusedSimpArgs false
open Go.RowKit Dg

theorem kept_cell_new {F : Nat → Prop} {w w' : World} (h : Kept F w w') {g : Nat} {u : Value} (hc : w.cell? ⟨g, 0, none⟩ = some u) (hF : ¬ F g) : w'.cell? ⟨g, 0, none⟩ = some u := (h.cell (World.block_lt_of_cell? w _ hc) hF).trans hc
theorem shift_autos (l : List Int) : ∃ s, allS l → l.length ≤ 64 → IsShift (autoZ l 0) s := by
  by_cases h : allS l ∧ l.length ≤ 64
  · have := autoZ_small h.1 h.2 0
    obtain ⟨s, -, hs⟩ := shift_exists (autoZ_zero l) (by omega)
    exact ⟨s, fun _ _ => hs⟩
  · exact ⟨0, fun h1 h2 => absurd ⟨h1, h2⟩ h⟩
theorem coOut_small (l : List Int) (o : Int) (s : Nat) : (coOut l o s).1.length ≤ 12 := by
  unfold coOut
  split
  · simp
  · split
    · simp; omega
    · simp
set_option maxRecDepth 100000 in
set_option maxHeartbeats 4000000 in
theorem vsigns_any (W : World) (a : Option Addr) (len cap : Nat) (z : List Int) (o : Int) (hr : IsRow .i64 W a len cap z) (ho : I64 o) :
    Calls Try.prog 3 #[.slice a len cap, .int .i64 o] W fun e W' => e = .returned (.bool true) ∧ Below W.heap.size W W' := by
  obtain ⟨i0, hi, hz0, hz1, hz2⟩ := info_parts Try.info3
  obtain ⟨l, hll, hI, hat, hle, hm, hnone, hblk⟩ := hr.ints
  subst hll
  obtain ⟨ho1, ho2⟩ := ho
  have HA : Hid (IntsAt W a l) := hat
  have HI : Hid (∀ x ∈ l, I64 x) := hI
  have HM : Hid (l.length ≤ maxLen) := Nat.le_trans hle hm
  obtain ⟨q, hq⟩ : ∃ q : Nat, 1 + o % 12 = (q : Int) := ⟨(1 + o % 12).toNat, by omega⟩
  have HQ : Hid (o % 12 = (q : Int) - 1) := by show _ = _; omega
  have hq1 : 1 ≤ q := by omega
  have hq12 : q ≤ 12 := by omega
  have hqq : 1 + ((q : Int) - 1) = (q : Int) := by omega
  clear hat hI hle hm hnone hblk hr hq
  go_enter Try.func3, Try.ntmps3
  go_wp2_with fail
  refine (samples_any W a cap 64 l false HA.out HM.out HI.out (by decide)).mono ?_
  rintro e w1 ⟨v1, xs, rfl, hv1, hxl, -, hxS, hb1⟩
  obtain ⟨a1, c1, rfl, hn1', -, -⟩ := hv1.ns
  have hx64 : xs.length ≤ 64 := by omega
  have HS : Hid (allS xs) := hxS rfl
  have HB1 : Hid (Below W.heap.size W w1) := hb1
  have HN1 : Hid (IntsAt w1 a1 xs) := hn1'.at_
  have hs1 : W.heap.size ≤ w1.heap.size := hb1.size
  clear hv1 hxl hb1 hn1' HA HI HM hxS
  go_wp2_with fail
  refine (within_any o 12 w1 ho1 ho2 (by decide) (by decide)).mono ?_
  rw [HQ.out]
  rintro e w0 ⟨rfl, rfl⟩
  clear ho1 ho2 HQ
  obtain ⟨Y, hY⟩ : ∃ Y, Y = xs.map fun v => -v := ⟨_, rfl⟩
  obtain ⟨Z, hZ⟩ : ∃ Z, Z = xs.reverse := ⟨_, rfl⟩
  have HYL : Hid (Y.length = xs.length) := by show _ = _; rw [hY]; simp
  have HZL : Hid (Z.length = xs.length) := by show _ = _; rw [hZ]; simp
  have HYG : Hid (∀ (k : Nat) (x : Int), xs[k]? = some x → Y.take (k + 1) = Y.take k ++ [-x]) := by
    intro k x hx
    refine take_next Y k _ ?_
    rw [hY, List.getElem?_map, hx]
    rfl
  have HZG : Hid (∀ (k m : Nat) (x : Int), m = xs.length - 1 - k → k < xs.length → xs[m]? = some x → Z.take (k + 1) = Z.take k ++ [x]) := by
    intro k m x hm hk hx
    refine take_next Z k _ ?_
    rw [hZ, List.getElem?_reverse hk, ← hm]
    exact hx
  have HYA : Hid ((∀ v ∈ xs, -8388607 ≤ v) → Alike xs Y) := by
    intro h
    rw [hY]
    exact alike_neg (fun v hv => ⟨h v hv, (HS.out v hv).2⟩)
  have HZA : Hid (Alike xs Z) := by rw [hZ]; exact alike_rev HS.out
  clear hY hZ
  go_wp2_with fail
  go_loopw [5, 6, 28] (fun vy vz i wr => ∃ k : Nat, k ≤ xs.length ∧ i = .int .i64 (k : Int) ∧ Hid (∀ v ∈ xs.take k, -8388607 ≤ v) ∧ Hid (F2 w1 wr vy vz (Y.take k) (Z.take k))) (fun _ _ i _ => xs.length - (intOf i).toNat)
  case atStart => exact ⟨0, Nat.zero_le _, rfl, fun v hv => by simp at hv, ⟨OwnInts.nil _ _, OwnInts.nil _ _, (fun k hk => by cases hk), Below.refl _ _⟩⟩
  case round =>
    obtain ⟨k, hk, rfl, hlow, hf⟩ := hrel
    have HBW : Hid (Below W.heap.size W wr) := HB1.out.trans (hf.out.bel.mono hs1)
    have hsw : W.heap.size ≤ wr.heap.size := HBW.out.size
    by_cases hkn : k < xs.length
    · obtain ⟨x, hx⟩ : ∃ x, xs[k]? = some x := ⟨xs[k], by simp [hkn]⟩
      have hat := HN1.out.mono hf.out.bel
      obtain ⟨b, off, rfl, hc⟩ := hat k x hx
      obtain ⟨hx1, hx2⟩ := HS.out x (List.mem_of_getElem? hx)
      by_cases hxlow : x = -8388608
      · have hxb : (x == -8388608) = true := beq_iff_eq.2 hxlow
        clear hx hlow hat
        go_wp2_with fail
        refine (wakes7_any _).mono ?_
        rintro e w6 ⟨rfl, hb6⟩
        have HB6 : Hid (Below W.heap.size W w6) := HBW.out.trans (hb6.mono hsw)
        clear hb6
        go_wp2
        go_ret
        exact ⟨rfl, HB6.out⟩
      · have hxb : (x == -8388608) = false := beq_eq_false_iff_ne.2 hxlow
        obtain ⟨m, hm⟩ : ∃ m, m = xs.length - 1 - k := ⟨_, rfl⟩
        have hmx : m < xs.length := by omega
        obtain ⟨u, hu⟩ : ∃ u, xs[m]? = some u := ⟨xs[m], by simp [hmx]⟩
        have hcu : wr.cell? ⟨b, off + m, none⟩ = some (.int .i64 u) := by
          obtain ⟨b2, o2, e2, hc2⟩ := hat m u hu
          cases e2
          exact hc2
        have hmI : (xs.length : Int) - 1 - (k : Int) = (m : Int) := by omega
        have hmw : IntKind.i64.wrap (m : Int) = (m : Int) := Go.IntWalk.i64_in _ (by omega)
        have hlw : IntKind.i64.wrap ((xs.length : Int) - 1) = (xs.length : Int) - 1 := Go.IntWalk.i64_in _ (by omega)
        have HYN := hid_of (HYG.out k x hx)
        have HZN := hid_of (HZG.out k m u hm hkn hu)
        have HLW : Hid (∀ v ∈ xs.take (k + 1), -8388607 ≤ v) := by
          intro v hv
          rw [take_next xs k x hx] at hv
          rcases List.mem_append.1 hv with h | h
          · exact hlow.out v h
          · simp at h; subst h; omega
        have hyl : (Y.take k).length ≤ 1000000 := by rw [List.length_take, HYL.out]; omega
        have hzl : (Z.take k).length ≤ 1000000 := by rw [List.length_take, HZL.out]; omega
        have HCU : Hid (∀ w', Below w1.heap.size w1 w' → w'.cell? ⟨b, off + m, none⟩ = some (.int .i64 u)) := by
          intro w' hb'
          obtain ⟨b2, o2, e2, hc2⟩ := HN1.out.mono hb' m u hu
          cases e2
          exact hc2
        have hcuA : (wr.alloc (.cells #[.int .i64 (-x)] 3)).cell? ⟨b, off + m, none⟩ = some (.int .i64 u) := HCU.out _ (hf.out.bel.alloc hf.out.bel.size _)
        have HOB : Hid (∀ k, u5.ownBlock = some k → k < wr.heap.size) := fun k hk => (World.ownsRow.lt hf.out.a k hk).2
        clear hx hm hu hat hlow
        go_wp2_with fail
        go_region_law first
          | (refine step_append_f2 w1 _ rfl (.tmp 42) (.tmp 44) 22 rfl i0 Try.underlying22 hi hz0 hz1 hz2 u5 u6 (Y.take k) (Z.take k) (by rfl) (by first | exact hf.out.drew.alloc _ | exact (hf.out.drew.alloc _).alloc _) (-x) _ (by rfl) (by simp) hyl ?_; intro v1 w4 h1 h2; have hcu4 := HCU.out w4 h1.out.bel)
          | (refine step_append_f2 w1 _ rfl (.tmp 46) (.tmp 55) 22 rfl i0 Try.underlying22 hi hz0 hz1 hz2 u6 v1 (Z.take k) (Y.take k ++ [-x]) (by rfl) ?_ u ?_ ?_ ?_ hzl ?_
             rotate_left 2
             rfl
             · first | (simp; done) | exact kept_cell_new h2.out (by simp) (fun h => by have h5 := HOB.out _ h; (try simp at h5) <;> omega)
             rotate_left 1
             · first | exact h1.out.rot | exact h1.out.rot.alloc _
             intro v2 w5 h3 h4)
        all_goals
          have HF5 : Hid (F2 w1 w5 v1 v2 (Y.take (k + 1)) (Z.take (k + 1))) := by rw [HYN.out, HZN.out]; exact h3.out.rot
          clear h1 h2 h3 h4
          go_wp2_with fail
          exact ⟨⟨k + 1, by omega, by go_num, HLW, HF5⟩, by (simp [intOf]) <;> omega⟩
    · have e : k = xs.length := by omega
      subst e
      have hf' := hf.out
      rw [List.take_of_length_le (by rw [HYL.out]; exact Nat.le_refl _), List.take_of_length_le (by rw [HZL.out]; exact Nat.le_refl _)] at hf'
      have hlow' := hlow.out
      rw [List.take_length] at hlow'
      have HYA' := hid_of (HYA.out hlow')
      obtain ⟨ya, yc, hu5, hny, -, -⟩ := hf'.a.ns
      obtain ⟨za, zc, hu6, hnz, -, -⟩ := hf'.b.ns
      subst hu5 hu6
      have HX : Hid (IntsAt wr a1 xs) := HN1.out.mono hf'.bel
      have HY : Hid (IntsAt wr ya Y) := hny.at_
      have HZ : Hid (IntsAt wr za Z) := hnz.at_
      have hyl : Y.length ≤ 64 := by rw [HYL.out]; exact hx64
      have hzl : Z.length ≤ 64 := by rw [HZL.out]; exact hx64
      obtain ⟨A, hA⟩ : ∃ A, A = autoL xs (q + 1) := ⟨_, rfl⟩
      have hA1 : (A, 0) = autoOut xs (q : Int) := by
        unfold autoOut
        rw [if_neg (by omega), if_pos HS.out, if_neg (by omega), Int.toNat_natCast, hA]
      have HA1 := hid_of hA1
      have HA2 : Hid ((A, 0) = autoOut Y (q : Int)) := by show _ = _; rw [HYA'.out.out HS.out]; exact hA1
      have HA3 : Hid ((A, 0) = autoOut Z (q : Int)) := by show _ = _; rw [HZA.out.out HS.out]; exact hA1
      have HAL : Hid (A.length = q + 1) := by show _ = _; rw [hA]; simp
      have hAl : A.length ≤ 13 := by rw [HAL.out]; omega
      have hAb : ((A.length : Int) == (q : Int) + 1) = true := beq_iff_eq.2 (by rw [HAL.out]; omega)
      obtain ⟨s, hs⟩ := shift_autos xs
      have HSX := hid_of hs
      have HSY : Hid (allS Y → Y.length ≤ 64 → IsShift (autoZ Y 0) s) := by intro _ _; rw [HYA'.out.2.2 0]; exact hs HS.out hx64
      have HSZ : Hid (allS Z → Z.length ≤ 64 → IsShift (autoZ Z 0) s) := by intro _ _; rw [HZA.out.2.2 0]; exact hs HS.out hx64
      obtain ⟨⟨L, kk⟩, hR⟩ : ∃ R, R = coOut xs (q : Int) s := ⟨_, rfl⟩
      have HR1 := hid_of hR
      have HR2 : Hid ((L, kk) = coOut Y (q : Int) s) := by show _ = _; rw [HYA'.out.co HS.out]; exact hR
      have HR3 : Hid ((L, kk) = coOut Z (q : Int) s) := by show _ = _; rw [HZA.out.co HS.out]; exact hR
      have hLl : L.length ≤ 12 := by
        have := coOut_small xs (q : Int) s
        rw [← hR] at this
        exact this
      clear hf hf' hlow hlow' hny hnz hA hA1 hs hR HYG HZG HYA HYA' HZA HYL HZL hk hkn HN1 HB1
      go_wp2_with fail
      refine (vauto_any wr a1 c1 xs _ HX.out (by omega) _ HA1.out).mono ?_
      rintro e w2 hg
      obtain ⟨a2, c2, rfl, -, hn2, hb2⟩ := hg.ok
      have HB2 : Hid (Below wr.heap.size wr w2) := hb2
      have HL2 : Hid (IntsAt w2 a2 A) := hn2.at_
      clear hg hb2 hn2
      go_wp2_with fail
      refine (vauto_any w2 ya yc Y _ (HY.out.mono HB2.out) (by omega) _ HA2.out).mono ?_
      rintro e w3 hg
      obtain ⟨a3, c3, rfl, -, hn3, hb3⟩ := hg.ok
      have HB3 : Hid (Below wr.heap.size wr w3) := HB2.out.trans (hb3.mono HB2.out.size)
      have HL3 : Hid (IntsAt w3 a2 A) := HL2.out.mono hb3
      have HM3 : Hid (IntsAt w3 a3 A) := hn3.at_
      clear hg hb3 hn3 HB2 HL2
      go_wp2_with fail
      refine (vauto_any w3 za zc Z _ (HZ.out.mono HB3.out) (by omega) _ HA3.out).mono ?_
      rintro e w4 hg
      obtain ⟨a4, c4, rfl, -, hn4, hb4⟩ := hg.ok
      have HB4 : Hid (Below wr.heap.size wr w4) := HB3.out.trans (hb4.mono HB3.out.size)
      have HL4 : Hid (IntsAt w4 a2 A) := HL3.out.mono hb4
      have HM4 : Hid (IntsAt w4 a3 A) := HM3.out.mono hb4
      have HN4 : Hid (IntsAt w4 a4 A) := hn4.at_
      clear hg hb4 hn4 HB3 HL3 HM3
      go_wp2_with fail
      refine (vco_any w4 a1 c1 xs _ s (HX.out.mono HB4.out) (by omega) HSX.out _ HR1.out).mono ?_
      rintro e w5 hg
      obtain ⟨a5, c5, rfl, -, hn5, hb5⟩ := hg.ok
      have HB5 : Hid (Below wr.heap.size wr w5) := HB4.out.trans (hb5.mono HB4.out.size)
      have HC5 : Hid (Below w4.heap.size w4 w5) := hb5
      have HL5 : Hid (IntsAt w5 a5 L) := hn5.at_
      clear hg hb5 hn5 HB4
      go_wp2_with fail
      refine (vco_any w5 ya yc Y _ s (HY.out.mono HB5.out) (by omega) HSY.out _ HR2.out).mono ?_
      rintro e w6 hg
      obtain ⟨a6, c6, rfl, -, hn6, hb6⟩ := hg.ok
      have HB6 : Hid (Below wr.heap.size wr w6) := HB5.out.trans (hb6.mono HB5.out.size)
      have HC6 : Hid (Below w4.heap.size w4 w6) := HC5.out.trans (hb6.mono HC5.out.size)
      have HL6 : Hid (IntsAt w6 a5 L) := HL5.out.mono hb6
      have HM6 : Hid (IntsAt w6 a6 L) := hn6.at_
      clear hg hb6 hn6 HB5 HC5 HL5
      go_wp2_with fail
      refine (vco_any w6 za zc Z _ s (HZ.out.mono HB6.out) (by omega) HSZ.out _ HR3.out).mono ?_
      rintro e w7 hg
      obtain ⟨a7, c7, rfl, -, hn7, hb7⟩ := hg.ok
      have HB7 : Hid (Below W.heap.size W w7) := HBW.out.trans ((HB6.out.trans (hb7.mono HB6.out.size)).mono hsw)
      have HC7 : Hid (Below w4.heap.size w4 w7) := HC6.out.trans (hb7.mono HC6.out.size)
      have HL7 : Hid (IntsAt w7 a5 L) := HL6.out.mono hb7
      have HM7 : Hid (IntsAt w7 a6 L) := HM6.out.mono hb7
      have HN7 : Hid (IntsAt w7 a7 L) := hn7.at_
      have HA7 : Hid (IntsAt w7 a2 A) := HL4.out.mono HC7.out
      have HA7' : Hid (IntsAt w7 a3 A) := HM4.out.mono HC7.out
      have HA7'' : Hid (IntsAt w7 a4 A) := HN4.out.mono HC7.out
      have hs7 : W.heap.size ≤ w7.heap.size := HB7.out.size
      clear hg hb7 hn7 HB6 HC6 HL6 HM6 HX HY HZ HL4 HM4 HN4 HC7 HSX HSY HSZ HR1 HR2 HR3 HA1 HA2 HA3
      cases kk
      all_goals
        go_wp2_with fail
        refine (sameInt_any w7 a2 a3 c2 c3 A HA7.out HA7'.out (by omega)).mono ?_
        rintro e w8 ⟨rfl, n8, rfl⟩
        go_wp2_with fail
        refine (sameInt_any (w7.drewN n8) a2 a4 c2 c4 A HA7.out HA7''.out (by omega)).mono ?_
        rintro e w9 ⟨rfl, n9, rfl⟩
        go_wp2_with fail
        refine (sameInt_any (w7.drewN (n8 + n9)) a5 a6 c5 c6 L HL7.out HM7.out (by omega)).mono ?_
        rintro e w10 ⟨rfl, n10, rfl⟩
        go_wp2_with fail
        refine (sameInt_any (w7.drewN (n8 + n9 + n10)) a5 a7 c5 c7 L HL7.out HN7.out (by omega)).mono ?_
        rintro e w11 ⟨rfl, n11, rfl⟩
        go_wp2_with fail
        refine (wakes7_any _).mono ?_
        rintro e w12 ⟨rfl, hb12⟩
        have HB12 : Hid (Below W.heap.size W w12) := (below_drewN HB7.out (n8 + n9 + n10 + n11)).trans (hb12.mono hs7)
        clear hb12
        go_wp2
        go_ret
        exact ⟨rfl, HB12.out⟩

end Go.Proofs.Ytkdbpjmofghanaa
