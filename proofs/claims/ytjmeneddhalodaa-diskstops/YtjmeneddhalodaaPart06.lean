/- The texts DkPlay2, one behind the other. -/
import Derived.Test.YtjmeneddhalodaaPart05
import Derived.Deep.RegionHeld

/- 'play': the walk. -/
namespace Go.Proofs.Ytjmeneddhalodaa
set_option linter.unusedVariables false
set_option linter.unusedSimpArgs false
open Go.RowKit Dg

set_option maxRecDepth 100000 in
set_option maxHeartbeats 100000000 in
theorem play_any {Di : DiP} (C : Dsk Di) (CR : DRead Di) (CF : DFlush Di) (CS : DStop Di) (CP : DPoke Di) (CD : DDead Di) (CL : DLen Di) (CC : DCounts Di) (w : World) (d r : Nat) (F G F2 G2 : Nat → Prop) (s : Sk) (h1 : Di w d F G s) (h2 : RkAt w r F2 G2 s) (h3 : Apart F G2) (h4 : Apart F2 G) (B0 : Nat) (hB0 : B0 ≤ w.heap.size) (hG : ∀ k, G k → B0 ≤ k) (hG2 : ∀ k, G2 k → B0 ≤ k)
    (a : Option Addr) (len cap : Nat) (L : List Act1) (hL : L.length = len) (hlen : len ≤ 9223372036854775807) (hact : ActsK w B0 a L) (c : Nat) (hc : c ≤ 1000) (hu : s.used c) :
    Calls Try.prog 27 #[.pointer (some ⟨d, 0, none⟩), .pointer (some ⟨r, 0, none⟩), .slice a len cap] w fun e w' => e = .returned (.bool true) ∧ ∃ s', Two Di w F G F2 G2 (fun k => k < B0) w' d r s' s' ∧ s'.used (c + 30) := by
  have HT0 : Hid (Two Di w F G F2 G2 (fun k => k < B0) w d r s s) := Two.first C h1 h2 h3 h4 (fun k e => ⟨⟨fun f => by have := hG k f; omega, fun f => by have := hG2 k f; omega⟩, by omega⟩)
  have HA := hid_of hact
  have HU := hid_of hu
  have HL := hid_of hL
  clear h1 h2 h3 h4 hact hu hL
  go_enter Try.func27, Try.ntmps27
  go_wp2_with fail
  go_loopw [7] (fun v ws => ∃ (j : Nat) (t : Sk), j ≤ len ∧ j ≤ 30 ∧ v = .int .i64 (j : Int) ∧ Hid (Two Di w F G F2 G2 (fun k => k < B0) ws d r t t) ∧ Hid (t.used (c + j)) ∧ Hid (Kept (fun k => ¬ k < B0) w ws)) (fun v _ => 30 - (intOf v).toNat)
  case atStart => exact ⟨0, s, Nat.zero_le _, by decide, rfl, HT0, HU, Kept.refl _ _⟩
  case round =>
    obtain ⟨j, t, hj, hj30, rfl, hT, hU, hK⟩ := hrel
    by_cases hjl : j < len
    · by_cases hj3 : j < 30
      · obtain ⟨x, hx⟩ : ∃ x, L[j]? = some x := ⟨_, List.getElem?_eq_getElem (by rw [HL.out]; exact hjl)⟩
        obtain ⟨b, off, ba, bc, ka, kc, rfl, hbB, ⟨c0, c1, c2, c3, c4⟩, ⟨⟨i1, i2⟩, ⟨i3, i4⟩, ⟨i5, i6⟩⟩, ⟨hBs, h256, hBx⟩, hBl, hKx, hkl, hkc⟩ := (HA.out j x hx).kept hB0 hK.out (fun k e f => f e)
        obtain ⟨xd, hxd⟩ : ∃ y, y = x.do_ := ⟨_, rfl⟩
        obtain ⟨xi, hxi⟩ : ∃ y, y = x.i := ⟨_, rfl⟩
        obtain ⟨xn, hxn⟩ : ∃ y, y = x.n := ⟨_, rfl⟩
        obtain ⟨xB, hxB⟩ : ∃ y, y = x.B := ⟨_, rfl⟩
        obtain ⟨xK, hxK⟩ : ∃ y, y = x.K := ⟨_, rfl⟩
        obtain ⟨xl, hxl⟩ : ∃ y, y = xB.length := ⟨_, rfl⟩
        obtain ⟨yl, hyl⟩ : ∃ y, y = xK.length := ⟨_, rfl⟩
        rw [← hxd] at c0 i1 i2
        rw [← hxi] at c1 i3 i4
        rw [← hxn] at c2 i5 i6
        rw [← hxB] at c3 hBs h256 hBx
        rw [← hxK] at c4 hBl hKx hkl
        rw [← hxl] at c3
        rw [← hyl] at c4 hkl
        have HBs := hid_of hBs
        have H256 := hid_of h256
        have HBx := hid_of hBx
        have HBl := hid_of hBl
        have HKx := hid_of hKx
        have HXL := hid_of hxl
        have HYL := hid_of hyl
        clear hx hxd hxi hxn hxB hxK hBs h256 hBx hBl hKx hxl hyl
        obtain ⟨w1, hw1⟩ : ∃ w1, w1 = wr.alloc (.cells #[.int .i64 xd, .int .i64 xi, .int .i64 xn, .slice ba xl bc, .slice ka yl kc] 84) := ⟨_, rfl⟩
        obtain ⟨bx, hbx⟩ : ∃ bx, bx = wr.heap.size := ⟨_, rfl⟩
        have hk1 : Kept (fun _ => False) wr w1 := by rw [hw1]; exact Kept.alloc _ _ _
        have HBX : Hid (w1.heap[bx]? = some (.cells #[.int .i64 xd, .int .i64 xi, .int .i64 xn, .slice ba xl bc, .slice ka yl kc] 84 (0, 0))) := by show _ = _; rw [hw1, hbx]; exact heap_alloc_new wr _
        have hs1 : w1.heap.size ≤ bx + 1 := by rw [hw1, hbx]; simp
        have hs2 : bx + 1 ≤ w1.heap.size := by rw [hw1, hbx]; simp
        have HT1 : Hid (Two Di w F G F2 G2 (fun k => k < B0 ∨ k = bx) w1 d r t t) := hT.out.keep C (hk1.mono (fun _ _ h => h.elim)) (fun k e => by rcases e with e | e; exact .inl e; exact .inr (by omega))
        have HBs1 := hid_of (HBs.out.kept hk1 (fun _ _ _ h => h))
        have HBl1 := hid_of (HBl.out.kept hk1 (fun _ _ _ h => h))
        have HK1 : Hid (Kept (fun k => ¬ k < B0) w w1) := hK.out.trans (hk1.mono (fun _ _ h => h.elim))
        have hw0 : w.heap.size ≤ bx := by rw [hbx]; exact hK.out.size
        have hbB0 : B0 ≤ bx := by omega
        clear hk1 HBs HBl hT hK
        have hj3b : decide ((j : Int) < 30) = true := decide_eq_true (by omega)
        obtain ⟨m, hm⟩ : ∃ m, m = xd % 10 := ⟨_, rfl⟩
        have HW : Hid (Calls Try.prog 9 #[.int .i64 xd, .int .i64 10] w1 fun e w' => e = .returned (.int .i64 m) ∧ w1 = w') := by rw [hm]; exact within_any xd 10 w1 i1 i2 (by decide) (by decide)
        have hm0 : 0 ≤ m := by omega
        have hm9 : m < 10 := by omega
        have HBC : Hid (∀ w', Kept (fun k => ¬ (k < B0 ∨ k = bx)) w1 w' → w'.cell? ⟨bx, 0, none⟩ = some (.int .i64 xd) ∧ w'.cell? ⟨bx, 1, none⟩ = some (.int .i64 xi) ∧ w'.cell? ⟨bx, 2, none⟩ = some (.int .i64 xn) ∧ w'.cell? ⟨bx, 3, none⟩ = some (.slice ba xl bc) ∧ w'.cell? ⟨bx, 4, none⟩ = some (.slice ka yl kc)) := fun w' hk => by
          have e : w'.heap[bx]? = some (.cells #[.int .i64 xd, .int .i64 xi, .int .i64 xn, .slice ba xl bc, .slice ka yl kc] 84 (0, 0)) := by rw [hk.block bx (by omega) (fun f => f (.inr rfl))]; exact HBX.out
          simp [World.cell?, e]
        obtain ⟨x0, x1, x2, x3, x4⟩ := HBC.out w1 (Kept.refl _ _)
        have HUL : Hid (t.reads ≤ 1000000 ∧ t.writes ≤ 1000000 ∧ t.flushes ≤ 1000000 ∧ t.W.length ≤ 100000) := by have h5 := hU.out; unfold Sk.used at h5; exact ⟨by omega, by omega, by omega, by omega⟩
        clear hm
        go_wp2_with fail
        rw [← hw1, ← hbx]
        have hbx1 : bx ≤ wr.heap.size := by omega
        clear hw1 hbx c0 c1 c2 c3 c4
        refine HW.out.mono ?_
        rintro e w1' ⟨rfl, rfl⟩
        rcases (by omega : m = 5 ∨ m = 6 ∨ m = 7 ∨ m = 8 ∨ m = 9 ∨ (m ≠ 5 ∧ m ≠ 6 ∧ m ≠ 7 ∧ m ≠ 8 ∧ m ≠ 9)) with rfl | rfl | rfl | rfl | rfl | ⟨n5, n6, n7, n8, n9⟩
        · -- Read
          as_aux_lemma =>
          obtain ⟨R1, hR1⟩ : ∃ R, R = (t.readR xi).1 := ⟨_, rfl⟩
          obtain ⟨R2, hR2⟩ : ∃ R, R = (t.readR xi).2 := ⟨_, rfl⟩
          obtain ⟨t2, ht2⟩ : ∃ t2, t2 = t.readS xi := ⟨_, rfl⟩
          have HUT : Hid (t2.used (c + (j + 1))) := by rw [ht2]; exact hU.out.read xi
          have HRL : Hid (R1.length ≤ 1000000) := by
            show R1.length ≤ 1000000
            rw [hR1]
            unfold Sk.readR
            split
            · simp
            · split
              · simp
              · rename_i e1 e2
                have e3 : t.fits xi := Decidable.byContradiction e1
                obtain ⟨k, rfl, hk⟩ := e3.nat
                have e4 := (t.now_fine (HT1.out.fine C).1 e3.room).1
                show (t.now ((k : Int)).toNat).length ≤ _
                rw [Int.toNat_natCast, e4]
                decide
          have HC := hid_of (two_dread C CR HT1.out xi ⟨i3, i4⟩ HUL.out.1 HUL.out.2.2.2)
          rw [← hR1, ← hR2, ← ht2] at HC
          have HR1 := hid_of hR1
          have HR2 := hid_of hR2
          have HT2E := hid_of ht2
          clear hR1 hR2 ht2
          go_wp2_with fail
          refine HC.out.mono ?_
          rintro e w2 ⟨v, rfl, hv, hT2, hk2⟩
          obtain ⟨y0, y1, y2, y3, y4⟩ := HBC.out w2 hk2
          have HC2 := hid_of (two_rread C hT2 xi ⟨i3, i4⟩ HUL.out.1 HUL.out.2.2.2)
          rw [← HR1.out, ← HR2.out, ← HT2E.out] at HC2
          have HV2 := hid_of hv
          have HK2 := hid_of hk2
          clear hT2 hk2 hv HC
          go_wp2_with fail
          refine HC2.out.mono ?_
          rintro e w3 ⟨v3, rfl, hv3, hT3, hk3⟩
          have HV3 : Hid (WholeB w3 w1.heap.size v R1) := HV2.out.kept hk3 (fun k e f => f (.inr e))
          have HSV : Hid (SlAt w3 v R1) := SlAt.of_owns HV3.out.own
          have HSV3 : Hid (SlAt w3 v3 R1) := SlAt.of_owns hv3
          have HT3 := hid_of hT3
          have HK3 : Hid (Kept (fun k => ¬ k < B0) w w3) := (HK1.out.trans (HK2.out.mono (fun k _ e f => e (.inl f)))).trans (hk3.mono (fun k _ e f => e (.inl (.inl f))))
          clear hv3 hT3 hk3 HC2 HV2 HK2 y0 y1 y2 y3 y4 x0 x1 x2 x3 x4
          go_wp2_with fail
          refine (same_any w3 v v3 R1 HSV.out HSV3.out (by have := HRL.out; omega)).mono ?_
          rintro e w4 ⟨rfl, n4, hw4⟩
          have HV4 : Hid (WholeB w4 w1.heap.size v R1) := by rw [hw4]; exact HV3.out
          have HT4 : Hid (Two Di w F G F2 G2 (fun k => (k < B0 ∨ k = bx) ∨ v.ownBlock = some k) w4 d r t2 t2) := by rw [hw4]; exact HT3.out.draws C n4
          have HK4 : Hid (Kept (fun k => ¬ k < B0) w w4) := by rw [hw4]; exact ⟨HK3.out.os, HK3.out.tape, HK3.out.output, HK3.out.size, HK3.out.block⟩
          clear hw4 HSV HSV3 HV3 HT3 HK3
          go_wp2_with fail
          refine (spoil_whole w4 _ v R1 HV4.out).mono ?_
          rintro e wt ⟨rfl, hk5⟩
          have hvb : ∀ k, v.ownBlock = some k → w1.heap.size ≤ k := fun k e => (World.ownsRow.lt HV4.out.own k e).1
          have HT : Hid (Two Di w F G F2 G2 (fun k => k < B0) wt d r t2 t2) := (HT4.out.mineV C v hk5 (fun k e => ⟨.inr e, by have := hvb k e; omega⟩)).less (fun k e => .inl (.inl e))
          have HKT : Hid (Kept (fun k => ¬ k < B0) w wt) := HK4.out.trans (hk5.mono (fun k _ e f => by have := hvb k e; omega))
          clear hk5 HV4 HT4 HK4 hvb
          obtain ⟨gB, cB, wa, wc, f0, f1, f2, f5, f6, f7, -⟩ := HT.out.fields
          obtain ⟨q1, hq1⟩ : ∃ q, q = t2.reads := ⟨_, rfl⟩
          obtain ⟨q2, hq2⟩ : ∃ q, q = t2.writes := ⟨_, rfl⟩
          obtain ⟨q3, hq3⟩ : ∃ q, q = t2.flushes := ⟨_, rfl⟩
          obtain ⟨q4, hq4⟩ : ∃ q, q = t2.W.length := ⟨_, rfl⟩
          obtain ⟨q5, hq5⟩ : ∃ q, q = t2.B.length / 128 := ⟨_, rfl⟩
          obtain ⟨q6, hq6⟩ : ∃ q, q = t2.dead := ⟨_, rfl⟩
          rw [← hq1] at f5
          rw [← hq2] at f6
          rw [← hq3] at f7
          rw [← hq4] at f1
          rw [← hq6] at f2
          have HQ : Hid (q1 = t2.reads ∧ q2 = t2.writes ∧ q3 = t2.flushes) := ⟨hq1, hq2, hq3⟩
          have HQ4 := hid_of hq4
          have HQ5 := hid_of hq5
          have HQ6 := hid_of hq6
          clear hq1 hq2 hq3 hq4 hq5 hq6 f0
          go_wp2_with fail
          refine (two_counts C CC HT.out q1 q2 q3 HQ.out).mono ?_
          rintro e wu ⟨rfl, nu, hwu⟩
          have HTU : Hid (Two Di w F G F2 G2 (fun k => k < B0) wu d r t2 t2) := by rw [hwu]; exact HT.out.draws C nu
          have HKU : Hid (Kept (fun k => ¬ k < B0) w wu) := by rw [hwu]; exact ⟨HKT.out.os, HKT.out.tape, HKT.out.output, HKT.out.size, HKT.out.block⟩
          have g1 : wu.cell? ⟨r, 1, none⟩ = some (.slice wa q4 wc) := by rw [hwu]; exact f1
          have g2 : wu.cell? ⟨r, 2, none⟩ = some (.bool q6) := by rw [hwu]; exact f2
          have g5 : wu.cell? ⟨r, 5, none⟩ = some (.int .i64 (q1 : Int)) := by rw [hwu]; exact f5
          have g6 : wu.cell? ⟨r, 6, none⟩ = some (.int .i64 (q2 : Int)) := by rw [hwu]; exact f6
          have g7 : wu.cell? ⟨r, 7, none⟩ = some (.int .i64 (q3 : Int)) := by rw [hwu]; exact f7
          clear hwu f1 f2 f5 f6 f7 HT HKT
          go_upto_region 33 with fail
          go_quiet (first
            | (go_at_call 14; exact two_dead C CD HTU.out _ _ HQ6.out)
            | (go_at_call 17; exact two_wait C HTU.out _ _ HQ4.out)
            | (go_at_call 53; exact two_len C CL HTU.out _ _ HQ5.out)
            | (go_at_call 54; exact two_rlen C HTU.out _ _ HQ5.out))
          have HTV : Hid (Two Di w F G F2 G2 (fun k => k < B0) (wu.drewN nq) d r t2 t2) := HTU.out.draws C nq
          have HKV : Hid (Kept (fun k => ¬ k < B0) w (wu.drewN nq)) := ⟨HKU.out.os, HKU.out.tape, HKU.out.output, HKU.out.size, HKU.out.block⟩
          go_wp2_with fail
          refine ⟨?_, by (simp [intOf]) <;> omega⟩
          first
            | exact ⟨j + 1, t2, by omega, by omega, by go_num, HTV, HUT, HKV⟩
            | ((repeat apply Exists.intro); refine ⟨?_, rfl⟩; exact ⟨j + 1, t2, by omega, by omega, by go_num, HTV, HUT, HKV⟩)
        · -- Flush
          as_aux_lemma =>
          obtain ⟨R, hR⟩ : ∃ R, R = t.flushR := ⟨_, rfl⟩
          have HC := hid_of (two_dflush C CF HT1.out HUL.out.2.2.1 HUL.out.2.2.2)
          rw [← hR] at HC
          have HRR := hid_of hR
          clear hR
          go_wp2_with fail
          refine HC.out.mono ?_
          rintro e w2 ⟨rfl, hT2, hk2⟩
          have HK2 := hid_of hk2
          have HC2 := hid_of (two_rflush C hT2 HUL.out.2.2.1 HUL.out.2.2.2)
          rw [← HRR.out] at HC2
          clear hT2 hk2 HC
          go_wp2_with fail
          refine HC2.out.mono ?_
          rintro e wt ⟨rfl, hT3, hk3⟩
          obtain ⟨t2, ht2⟩ : ∃ t2, t2 = t.flushS := ⟨_, rfl⟩
          rw [← ht2] at hT3
          have HT : Hid (Two Di w F G F2 G2 (fun k => k < B0) wt d r t2 t2) := hT3.less (fun k e => .inl e)
          have HKT : Hid (Kept (fun k => ¬ k < B0) w wt) := (HK1.out.trans (HK2.out.mono (fun k _ e f => e (.inl f)))).trans (hk3.mono (fun k _ e f => e (.inl f)))
          have HUT : Hid (t2.used (c + (j + 1))) := by rw [ht2]; exact hU.out.flush
          clear hT3 hk3 ht2 HC2 HK2 x0 x1 x2 x3 x4
          obtain ⟨gB, cB, wa, wc, f0, f1, f2, f5, f6, f7, -⟩ := HT.out.fields
          obtain ⟨q1, hq1⟩ : ∃ q, q = t2.reads := ⟨_, rfl⟩
          obtain ⟨q2, hq2⟩ : ∃ q, q = t2.writes := ⟨_, rfl⟩
          obtain ⟨q3, hq3⟩ : ∃ q, q = t2.flushes := ⟨_, rfl⟩
          obtain ⟨q4, hq4⟩ : ∃ q, q = t2.W.length := ⟨_, rfl⟩
          obtain ⟨q5, hq5⟩ : ∃ q, q = t2.B.length / 128 := ⟨_, rfl⟩
          obtain ⟨q6, hq6⟩ : ∃ q, q = t2.dead := ⟨_, rfl⟩
          rw [← hq1] at f5
          rw [← hq2] at f6
          rw [← hq3] at f7
          rw [← hq4] at f1
          rw [← hq6] at f2
          have HQ : Hid (q1 = t2.reads ∧ q2 = t2.writes ∧ q3 = t2.flushes) := ⟨hq1, hq2, hq3⟩
          have HQ4 := hid_of hq4
          have HQ5 := hid_of hq5
          have HQ6 := hid_of hq6
          clear hq1 hq2 hq3 hq4 hq5 hq6 f0
          go_wp2_with fail
          refine (two_counts C CC HT.out q1 q2 q3 HQ.out).mono ?_
          rintro e wu ⟨rfl, nu, hwu⟩
          have HTU : Hid (Two Di w F G F2 G2 (fun k => k < B0) wu d r t2 t2) := by rw [hwu]; exact HT.out.draws C nu
          have HKU : Hid (Kept (fun k => ¬ k < B0) w wu) := by rw [hwu]; exact ⟨HKT.out.os, HKT.out.tape, HKT.out.output, HKT.out.size, HKT.out.block⟩
          have g1 : wu.cell? ⟨r, 1, none⟩ = some (.slice wa q4 wc) := by rw [hwu]; exact f1
          have g2 : wu.cell? ⟨r, 2, none⟩ = some (.bool q6) := by rw [hwu]; exact f2
          have g5 : wu.cell? ⟨r, 5, none⟩ = some (.int .i64 (q1 : Int)) := by rw [hwu]; exact f5
          have g6 : wu.cell? ⟨r, 6, none⟩ = some (.int .i64 (q2 : Int)) := by rw [hwu]; exact f6
          have g7 : wu.cell? ⟨r, 7, none⟩ = some (.int .i64 (q3 : Int)) := by rw [hwu]; exact f7
          clear hwu f1 f2 f5 f6 f7 HT HKT
          go_upto_region 33 with fail
          go_quiet (first
            | (go_at_call 14; exact two_dead C CD HTU.out _ _ HQ6.out)
            | (go_at_call 17; exact two_wait C HTU.out _ _ HQ4.out)
            | (go_at_call 53; exact two_len C CL HTU.out _ _ HQ5.out)
            | (go_at_call 54; exact two_rlen C HTU.out _ _ HQ5.out))
          have HTV : Hid (Two Di w F G F2 G2 (fun k => k < B0) (wu.drewN nq) d r t2 t2) := HTU.out.draws C nq
          have HKV : Hid (Kept (fun k => ¬ k < B0) w (wu.drewN nq)) := ⟨HKU.out.os, HKU.out.tape, HKU.out.output, HKU.out.size, HKU.out.block⟩
          go_wp2_with fail
          refine ⟨?_, by (simp [intOf]) <;> omega⟩
          first
            | exact ⟨j + 1, t2, by omega, by omega, by go_num, HTV, HUT, HKV⟩
            | ((repeat apply Exists.intro); refine ⟨?_, rfl⟩; exact ⟨j + 1, t2, by omega, by omega, by go_num, HTV, HUT, HKV⟩)
        · -- Stop
          as_aux_lemma =>
          go_wp2_with fail
          refine (two_dstop C CS HT1.out xn ⟨i5, i6⟩).mono ?_
          rintro e w2 ⟨rfl, hT2, hk2⟩
          obtain ⟨y0, y1, y2, y3, y4⟩ := HBC.out w2 hk2
          have HT2 := hid_of hT2
          have HK2 := hid_of hk2
          clear hT2 hk2
          go_wp2_with fail
          refine (two_rstop C HT2.out xn ⟨i5, i6⟩).mono ?_
          rintro e wt ⟨rfl, hT3, hk3⟩
          obtain ⟨t2, ht2⟩ : ∃ t2, t2 = t.stopS xn := ⟨_, rfl⟩
          rw [← ht2] at hT3
          have HT : Hid (Two Di w F G F2 G2 (fun k => k < B0) wt d r t2 t2) := hT3.less (fun k e => .inl e)
          have HKT : Hid (Kept (fun k => ¬ k < B0) w wt) := (HK1.out.trans (HK2.out.mono (fun k _ e f => e (.inl f)))).trans (hk3.mono (fun k _ e f => e (.inl f)))
          have HUT : Hid (t2.used (c + (j + 1))) := by rw [ht2]; exact hU.out.stop xn
          clear hT3 hk3 ht2 HT2 HK2 y0 y1 y2 y3 y4 x0 x1 x2 x3 x4
          obtain ⟨gB, cB, wa, wc, f0, f1, f2, f5, f6, f7, -⟩ := HT.out.fields
          obtain ⟨q1, hq1⟩ : ∃ q, q = t2.reads := ⟨_, rfl⟩
          obtain ⟨q2, hq2⟩ : ∃ q, q = t2.writes := ⟨_, rfl⟩
          obtain ⟨q3, hq3⟩ : ∃ q, q = t2.flushes := ⟨_, rfl⟩
          obtain ⟨q4, hq4⟩ : ∃ q, q = t2.W.length := ⟨_, rfl⟩
          obtain ⟨q5, hq5⟩ : ∃ q, q = t2.B.length / 128 := ⟨_, rfl⟩
          obtain ⟨q6, hq6⟩ : ∃ q, q = t2.dead := ⟨_, rfl⟩
          rw [← hq1] at f5
          rw [← hq2] at f6
          rw [← hq3] at f7
          rw [← hq4] at f1
          rw [← hq6] at f2
          have HQ : Hid (q1 = t2.reads ∧ q2 = t2.writes ∧ q3 = t2.flushes) := ⟨hq1, hq2, hq3⟩
          have HQ4 := hid_of hq4
          have HQ5 := hid_of hq5
          have HQ6 := hid_of hq6
          clear hq1 hq2 hq3 hq4 hq5 hq6 f0
          go_wp2_with fail
          refine (two_counts C CC HT.out q1 q2 q3 HQ.out).mono ?_
          rintro e wu ⟨rfl, nu, hwu⟩
          have HTU : Hid (Two Di w F G F2 G2 (fun k => k < B0) wu d r t2 t2) := by rw [hwu]; exact HT.out.draws C nu
          have HKU : Hid (Kept (fun k => ¬ k < B0) w wu) := by rw [hwu]; exact ⟨HKT.out.os, HKT.out.tape, HKT.out.output, HKT.out.size, HKT.out.block⟩
          have g1 : wu.cell? ⟨r, 1, none⟩ = some (.slice wa q4 wc) := by rw [hwu]; exact f1
          have g2 : wu.cell? ⟨r, 2, none⟩ = some (.bool q6) := by rw [hwu]; exact f2
          have g5 : wu.cell? ⟨r, 5, none⟩ = some (.int .i64 (q1 : Int)) := by rw [hwu]; exact f5
          have g6 : wu.cell? ⟨r, 6, none⟩ = some (.int .i64 (q2 : Int)) := by rw [hwu]; exact f6
          have g7 : wu.cell? ⟨r, 7, none⟩ = some (.int .i64 (q3 : Int)) := by rw [hwu]; exact f7
          clear hwu f1 f2 f5 f6 f7 HT HKT
          go_upto_region 33 with fail
          go_quiet (first
            | (go_at_call 14; exact two_dead C CD HTU.out _ _ HQ6.out)
            | (go_at_call 17; exact two_wait C HTU.out _ _ HQ4.out)
            | (go_at_call 53; exact two_len C CL HTU.out _ _ HQ5.out)
            | (go_at_call 54; exact two_rlen C HTU.out _ _ HQ5.out))
          have HTV : Hid (Two Di w F G F2 G2 (fun k => k < B0) (wu.drewN nq) d r t2 t2) := HTU.out.draws C nq
          have HKV : Hid (Kept (fun k => ¬ k < B0) w (wu.drewN nq)) := ⟨HKU.out.os, HKU.out.tape, HKU.out.output, HKU.out.size, HKU.out.block⟩
          go_wp2_with fail
          refine ⟨?_, by (simp [intOf]) <;> omega⟩
          first
            | exact ⟨j + 1, t2, by omega, by omega, by go_num, HTV, HUT, HKV⟩
            | ((repeat apply Exists.intro); refine ⟨?_, rfl⟩; exact ⟨j + 1, t2, by omega, by omega, by go_num, HTV, HUT, HKV⟩)
        · -- Crash
          as_aux_lemma =>
          obtain ⟨ml, hml⟩ : ∃ ml, ml = min yl 20 := ⟨_, rfl⟩
          obtain ⟨K, hKK⟩ : ∃ K, K = xK.take 20 := ⟨_, rfl⟩
          have hKl : K.length = ml := by rw [hKK, List.length_take, ← HYL.out, hml]; omega
          have hBK : BlAt w1 ka K := by rw [hKK]; exact HBl1.out.take 20
          have hXK : K ≠ [] → ∀ y, ka = some y → (y.block < B0 ∨ y.block = bx) := fun hne y hy => .inl (HKx.out (fun e => hne (by rw [hKK, e]; rfl)) y hy)
          have HCU := hid_of (cutBool_any w1 ka yl kc 20 hkl (by omega) (by decide) ml hml)
          have HC := hid_of (two_dcrash C HT1.out ka ml kc K hKl hBK (by omega) hXK HUL.out.2.2.2 _ rfl)
          have HKL := hid_of hKl
          have HBK := hid_of hBK
          have HXK : Hid (K ≠ [] → ∀ y, ka = some y → (y.block < B0 ∨ y.block = bx)) := hXK
          have hml20 : ml ≤ 20 := by omega
          clear hml hKK hKl hBK hXK
          go_wp2_with fail
          refine HCU.out.mono ?_
          rintro e w1' ⟨rfl, rfl⟩
          go_wp2_with fail
          refine HC.out.mono ?_
          rintro e w2 ⟨rfl, hT2, hk2⟩
          have HK2 := hid_of hk2
          have HC2 := hid_of (two_rcrash C hT2 ka ml kc K HKL.out (HBK.out.kept hk2 (fun hne y hy f => f (HXK.out hne y hy))) (by omega) HXK.out HUL.out.2.2.2 _ rfl)
          obtain ⟨t2, ht2⟩ : ∃ t2, t2 = t.crashS K := ⟨_, rfl⟩
          rw [← ht2] at HC2
          have HUT : Hid (t2.used (c + (j + 1))) := by rw [ht2]; exact hU.out.crash K
          clear hT2 hk2 HC ht2
          go_wp2_with fail
          refine HC2.out.mono ?_
          rintro e wt ⟨rfl, hT3, hk3⟩
          have HT : Hid (Two Di w F G F2 G2 (fun k => k < B0) wt d r t2 t2) := hT3.less (fun k e => .inl e)
          have HKT : Hid (Kept (fun k => ¬ k < B0) w wt) := (HK1.out.trans (HK2.out.mono (fun k _ e f => e (.inl f)))).trans (hk3.mono (fun k _ e f => e (.inl f)))
          clear hT3 hk3 HC2 HK2 x0 x1 x2 x3 x4 HCU
          obtain ⟨gB, cB, wa, wc, f0, f1, f2, f5, f6, f7, -⟩ := HT.out.fields
          obtain ⟨q1, hq1⟩ : ∃ q, q = t2.reads := ⟨_, rfl⟩
          obtain ⟨q2, hq2⟩ : ∃ q, q = t2.writes := ⟨_, rfl⟩
          obtain ⟨q3, hq3⟩ : ∃ q, q = t2.flushes := ⟨_, rfl⟩
          obtain ⟨q4, hq4⟩ : ∃ q, q = t2.W.length := ⟨_, rfl⟩
          obtain ⟨q5, hq5⟩ : ∃ q, q = t2.B.length / 128 := ⟨_, rfl⟩
          obtain ⟨q6, hq6⟩ : ∃ q, q = t2.dead := ⟨_, rfl⟩
          rw [← hq1] at f5
          rw [← hq2] at f6
          rw [← hq3] at f7
          rw [← hq4] at f1
          rw [← hq6] at f2
          have HQ : Hid (q1 = t2.reads ∧ q2 = t2.writes ∧ q3 = t2.flushes) := ⟨hq1, hq2, hq3⟩
          have HQ4 := hid_of hq4
          have HQ5 := hid_of hq5
          have HQ6 := hid_of hq6
          clear hq1 hq2 hq3 hq4 hq5 hq6 f0
          go_wp2_with fail
          refine (two_counts C CC HT.out q1 q2 q3 HQ.out).mono ?_
          rintro e wu ⟨rfl, nu, hwu⟩
          have HTU : Hid (Two Di w F G F2 G2 (fun k => k < B0) wu d r t2 t2) := by rw [hwu]; exact HT.out.draws C nu
          have HKU : Hid (Kept (fun k => ¬ k < B0) w wu) := by rw [hwu]; exact ⟨HKT.out.os, HKT.out.tape, HKT.out.output, HKT.out.size, HKT.out.block⟩
          have g1 : wu.cell? ⟨r, 1, none⟩ = some (.slice wa q4 wc) := by rw [hwu]; exact f1
          have g2 : wu.cell? ⟨r, 2, none⟩ = some (.bool q6) := by rw [hwu]; exact f2
          have g5 : wu.cell? ⟨r, 5, none⟩ = some (.int .i64 (q1 : Int)) := by rw [hwu]; exact f5
          have g6 : wu.cell? ⟨r, 6, none⟩ = some (.int .i64 (q2 : Int)) := by rw [hwu]; exact f6
          have g7 : wu.cell? ⟨r, 7, none⟩ = some (.int .i64 (q3 : Int)) := by rw [hwu]; exact f7
          clear hwu f1 f2 f5 f6 f7 HT HKT
          go_upto_region 33 with fail
          go_quiet (first
            | (go_at_call 14; exact two_dead C CD HTU.out _ _ HQ6.out)
            | (go_at_call 17; exact two_wait C HTU.out _ _ HQ4.out)
            | (go_at_call 53; exact two_len C CL HTU.out _ _ HQ5.out)
            | (go_at_call 54; exact two_rlen C HTU.out _ _ HQ5.out))
          have HTV : Hid (Two Di w F G F2 G2 (fun k => k < B0) (wu.drewN nq) d r t2 t2) := HTU.out.draws C nq
          have HKV : Hid (Kept (fun k => ¬ k < B0) w (wu.drewN nq)) := ⟨HKU.out.os, HKU.out.tape, HKU.out.output, HKU.out.size, HKU.out.block⟩
          go_wp2_with fail
          refine ⟨?_, by (simp [intOf]) <;> omega⟩
          first
            | exact ⟨j + 1, t2, by omega, by omega, by go_num, HTV, HUT, HKV⟩
            | ((repeat apply Exists.intro); refine ⟨?_, rfl⟩; exact ⟨j + 1, t2, by omega, by omega, by go_num, HTV, HUT, HKV⟩)
        · -- Poke
          as_aux_lemma =>
          obtain ⟨R, hR⟩ : ∃ R, R = decide (t.pokes xi xn) := ⟨_, rfl⟩
          obtain ⟨t2, ht2⟩ : ∃ t2, t2 = t.pokeS xi xn := ⟨_, rfl⟩
          have HUT : Hid (t2.used (c + (j + 1))) := by rw [ht2]; exact hU.out.poke xi xn
          have HTD : Hid (Two Di w F G F2 G2 (fun k => k < B0 ∨ k = bx) w1.drew d r t t) := HT1.out.draws C 1
          have HC : Hid (Calls Try.prog 22 #[.pointer (some ⟨d, 0, none⟩), .int .i64 xi, .int .i64 xn] w1.drew fun e w' => e = .returned (.bool R) ∧ Two Di w F G F2 G2 (fun k => k < B0 ∨ k = bx) w' d r t2 t ∧ Kept (fun k => ¬ (k < B0 ∨ k = bx)) w1 w') := by
            rw [hR, ht2]
            exact (two_dpoke C CP HTD.out xi xn ⟨i3, i4⟩ ⟨i5, i6⟩ HUL.out.2.2.2).mono fun e w' ⟨e1, e2, e3⟩ => ⟨e1, e2, (Kept.refl _ _).drew.trans e3⟩
          have HRR := hid_of hR
          have HT2E := hid_of ht2
          have HC2 : Hid (∀ w2, Two Di w F G F2 G2 (fun k => k < B0 ∨ k = bx) w2 d r t2 t → Calls Try.prog 48 #[.pointer (some ⟨r, 0, none⟩), .int .i64 xi, .int .i64 xn] w2 fun e w' => e = .returned (.bool R) ∧ Two Di w F G F2 G2 (fun k => k < B0 ∨ k = bx) w' d r t2 t2 ∧ Kept (fun k => ¬ (k < B0 ∨ k = bx)) w2 w') := fun w2 h => by
            have e := two_rpoke C h xi xn ⟨i3, i4⟩ ⟨i5, i6⟩ HUL.out.2.2.2
            rw [← HRR.out, ← HT2E.out] at e
            exact e
          clear hR ht2
          go_upto_region 30 with fail
          go_cut [138] from 126 to 138 (fun v wx => v = .bool false ∧ Hid (Two Di w F G F2 G2 (fun k => k < B0 ∨ k = bx) wx d r t2 t2) ∧ Hid (Kept (fun k => ¬ (k < B0 ∨ k = bx)) w1 wx))
          case first =>
            go_region_held (fun W' => W'.cell? ⟨bx, 1, none⟩ = some (.int .i64 xi) ∧ W'.cell? ⟨bx, 2, none⟩ = some (.int .i64 xn)) (first | (constructor <;> assumption) | go_keep) (first
              | (go_at_call 22; refine HC.out.mono ?_; rintro e w2 ⟨rfl, hT2, hk2⟩; obtain ⟨y0, y1, y2, y3, y4⟩ := HBC.out w2 hk2; have HT2 := hid_of hT2; have HK2 := hid_of hk2; clear hT2 hk2)
              | (go_at_call 48; refine (HC2.out _ HT2.out).mono ?_; rintro e w3 ⟨rfl, hT3, hk3⟩; have HT3 := hid_of hT3; have HK3 := hid_of hk3; obtain ⟨u0, u1, u2, u3, u4⟩ := HBC.out w3 (HK2.out.trans HK3.out); clear hT3 hk3))
            all_goals (try go_wp2_with fail)
            all_goals go_meet
            all_goals exact ⟨by simp, HT3, HK2.out.trans HK3.out⟩
          case rest =>
            obtain ⟨rfl, hT3, hk3⟩ := hcut
            have HT : Hid (Two Di w F G F2 G2 (fun k => k < B0) wc d r t2 t2) := hT3.out.less (fun k e => .inl e)
            have HKT : Hid (Kept (fun k => ¬ k < B0) w wc) := HK1.out.trans (hk3.out.mono (fun k _ e f => e (.inl f)))
            clear hT3 hk3 HC HC2 x0 x1 x2 x3 x4 HTD
            obtain ⟨gB, cB, wa, wcc, f0, f1, f2, f5, f6, f7, -⟩ := HT.out.fields
            obtain ⟨q1, hq1⟩ : ∃ q, q = t2.reads := ⟨_, rfl⟩
            obtain ⟨q2, hq2⟩ : ∃ q, q = t2.writes := ⟨_, rfl⟩
            obtain ⟨q3, hq3⟩ : ∃ q, q = t2.flushes := ⟨_, rfl⟩
            obtain ⟨q4, hq4⟩ : ∃ q, q = t2.W.length := ⟨_, rfl⟩
            obtain ⟨q5, hq5⟩ : ∃ q, q = t2.B.length / 128 := ⟨_, rfl⟩
            obtain ⟨q6, hq6⟩ : ∃ q, q = t2.dead := ⟨_, rfl⟩
            rw [← hq1] at f5
            rw [← hq2] at f6
            rw [← hq3] at f7
            rw [← hq4] at f1
            rw [← hq6] at f2
            have HQ : Hid (q1 = t2.reads ∧ q2 = t2.writes ∧ q3 = t2.flushes) := ⟨hq1, hq2, hq3⟩
            have HQ4 := hid_of hq4
            have HQ5 := hid_of hq5
            have HQ6 := hid_of hq6
            clear hq1 hq2 hq3 hq4 hq5 hq6 f0
            go_wp2_with fail
            refine (two_counts C CC HT.out q1 q2 q3 HQ.out).mono ?_
            rintro e wu ⟨rfl, nu, hwu⟩
            have HTU : Hid (Two Di w F G F2 G2 (fun k => k < B0) wu d r t2 t2) := by rw [hwu]; exact HT.out.draws C nu
            have HKU : Hid (Kept (fun k => ¬ k < B0) w wu) := by rw [hwu]; exact ⟨HKT.out.os, HKT.out.tape, HKT.out.output, HKT.out.size, HKT.out.block⟩
            have g1 : wu.cell? ⟨r, 1, none⟩ = some (.slice wa q4 wcc) := by rw [hwu]; exact f1
            have g2 : wu.cell? ⟨r, 2, none⟩ = some (.bool q6) := by rw [hwu]; exact f2
            have g5 : wu.cell? ⟨r, 5, none⟩ = some (.int .i64 (q1 : Int)) := by rw [hwu]; exact f5
            have g6 : wu.cell? ⟨r, 6, none⟩ = some (.int .i64 (q2 : Int)) := by rw [hwu]; exact f6
            have g7 : wu.cell? ⟨r, 7, none⟩ = some (.int .i64 (q3 : Int)) := by rw [hwu]; exact f7
            clear hwu f1 f2 f5 f6 f7 HT HKT
            go_upto_region 33 with fail
            go_quiet (first
              | (go_at_call 14; exact two_dead C CD HTU.out _ _ HQ6.out)
              | (go_at_call 17; exact two_wait C HTU.out _ _ HQ4.out)
              | (go_at_call 53; exact two_len C CL HTU.out _ _ HQ5.out)
              | (go_at_call 54; exact two_rlen C HTU.out _ _ HQ5.out))
            have HTV : Hid (Two Di w F G F2 G2 (fun k => k < B0) (wu.drewN nq) d r t2 t2) := HTU.out.draws C nq
            have HKV : Hid (Kept (fun k => ¬ k < B0) w (wu.drewN nq)) := ⟨HKU.out.os, HKU.out.tape, HKU.out.output, HKU.out.size, HKU.out.block⟩
            go_wp2_with fail
            refine ⟨?_, by (simp [intOf]) <;> omega⟩
            first
              | exact ⟨j + 1, t2, by omega, by omega, by go_num, HTV, HUT, HKV⟩
              | ((repeat apply Exists.intro); refine ⟨?_, rfl⟩; exact ⟨j + 1, t2, by omega, by omega, by go_num, HTV, HUT, HKV⟩)
        · -- Write
          as_aux_lemma =>
          have b5 : (m == 5) = false := beq_eq_false_iff_ne.2 n5
          have b6 : (m == 6) = false := beq_eq_false_iff_ne.2 n6
          have b7 : (m == 7) = false := beq_eq_false_iff_ne.2 n7
          have b8 : (m == 8) = false := beq_eq_false_iff_ne.2 n8
          have b9 : (m == 9) = false := beq_eq_false_iff_ne.2 n9
          clear n5 n6 n7 n8 n9
          obtain ⟨LL, hLL⟩ : ∃ LL, LL = over xB (List.replicate 128 0) := ⟨_, rfl⟩
          have hLLl : LL.length = 128 := by rw [hLL, length_over]; simp
          have HL256 : Hid (∀ z ∈ LL, z < 256) := by
            rw [hLL]
            intro z hz
            unfold over at hz
            rcases List.mem_append.1 hz with h5 | h5
            · exact H256.out z (List.mem_of_mem_take h5)
            · have := (List.mem_replicate.1 (List.mem_of_mem_drop h5)).2; omega
          have HFU := hid_of (full_any w1 ba xl bc xB HXL.out.symm HBs1.out LL hLL)
          have HLL := hid_of hLLl
          clear hLL hLLl
          go_wp2_with fail
          refine HFU.out.mono ?_
          rintro e w2 ⟨g, rfl, ho2, hb2⟩
          obtain ⟨y0, y1, y2, y3, y4⟩ := HBC.out w2 (Kept.mono (F := fun _ => False) (Kept.of_below hb2) (fun _ _ h => h.elim))
          have hg1 : w1.heap.size ≤ g := (World.ownsRow.lt ho2 g rfl).1
          have hg2 : g < w2.heap.size := (World.ownsRow.lt ho2 g rfl).2
          have HO2 := hid_of ho2
          have HB2 := hid_of hb2
          have hs12 : w1.heap.size ≤ w2.heap.size := hb2.size
          clear ho2 hb2 HFU
          rcases h98 : (xn.tmod 9 == 8) with _ | _
          · as_aux_lemma =>
            obtain ⟨LB, hLB⟩ : ∃ LB, LB = LL.take 128 := ⟨_, rfl⟩
            have hLBl : LB.length = 128 := by rw [hLB, List.length_take, HLL.out]; rfl
            have hsb : SlAt w2 (.slice (some ⟨g, 0, none⟩) 128 128) LB := by
              have e := own_part HO2.out 0 128 128 (by decide)
              rw [List.drop_zero] at e
              rw [hLB]; exact e
            have hbb : Bs w2 (some ⟨g, 0, none⟩) 128 LB := ⟨by rw [hLBl]; exact hsb, by rw [hLBl]; decide, fun e => by cases e⟩
            have HLB256 : Hid (∀ z ∈ LB, z < 256) := by rw [hLB]; exact fun z hz => HL256.out z (List.mem_of_mem_take hz)
            have HLE := hid_of (lend_any w2 _ LB hsb (by rw [hLBl]; decide))
            rw [hLBl, show (128 + 3 : Nat) = 131 from rfl] at HLE
            have hgk : ∀ (n' c' k : Nat), (Value.slice (some ⟨g, 0, none⟩) n' c').ownBlock = some k → k = g := fun n' c' k e => by
              simp [Value.ownBlock] at e
              exact e.symm
            have HLBL := hid_of hLBl
            have HBB := hid_of hbb
            clear hLB hLBl hsb hbb
            go_wp2_with fail
            refine HLE.out.mono ?_
            rintro e w3 ⟨rfl, hrow, hb3⟩
            obtain ⟨gx, hgx⟩ : ∃ gx, gx = w2.heap.size := ⟨_, rfl⟩
            rw [← hgx] at hrow ⊢
            have hgx1 : w2.heap.size ≤ gx := by omega
            have hgx2 : gx < w3.heap.size := hrow.lt
            have hk13 : Kept (fun k => w1.heap.size ≤ k) w1 w3 := ⟨(HB2.out.trans (hb3.mono hs12)).os, (HB2.out.trans (hb3.mono hs12)).tape, (HB2.out.trans (hb3.mono hs12)).output, (HB2.out.trans (hb3.mono hs12)).size, fun i hi hf => (HB2.out.trans (hb3.mono hs12)).block i (by omega)⟩
            have HK13 := hid_of hk13
            have HT3 : Hid (Two Di w F G F2 G2 (fun k => (k < B0 ∨ k = bx) ∨ k = g ∨ k = gx) w3 d r t t) := HT1.out.keep C hk13 (fun k e => by rcases e with e | e | e; exact .inl e; exact .inr (by have := hb3.size; omega); exact .inr (by omega))
            have HBB3 : Hid (Bs w3 (some ⟨g, 0, none⟩) 128 LB) := HBB.out.below hb3
            have HROW := hid_of hrow
            have HBX3 : Hid (Bs w3 (some ⟨gx, 0, none⟩) 131 LB) := ⟨SlAt.of_row hrow, by rw [HLBL.out]; decide, fun e => by cases e⟩
            have HBOX : Hid (∀ w', Kept (fun k => ¬ ((k < B0 ∨ k = bx) ∨ k = g ∨ k = gx)) w3 w' → w'.cell? ⟨bx, 0, none⟩ = some (.int .i64 xd) ∧ w'.cell? ⟨bx, 1, none⟩ = some (.int .i64 xi) ∧ w'.cell? ⟨bx, 2, none⟩ = some (.int .i64 xn) ∧ w'.cell? ⟨bx, 3, none⟩ = some (.slice ba xl bc) ∧ w'.cell? ⟨bx, 4, none⟩ = some (.slice ka yl kc)) := fun w' hk => HBC.out w' ((hk13.mono (fun k hk' e f => by omega)).trans (hk.mono (fun k _ e f => e (.inl f))))
            obtain ⟨z0, z1, z2, z3, z4⟩ := HBOX.out w3 (Kept.refl _ _)
            obtain ⟨R, hR⟩ : ∃ R, R = t.writeR xi LB := ⟨_, rfl⟩
            obtain ⟨t2, ht2⟩ : ∃ t2, t2 = t.writeS xi LB := ⟨_, rfl⟩
            have HUT : Hid (t2.used (c + (j + 1))) := by rw [ht2]; exact hU.out.write xi LB
            have HCD : Hid (Calls Try.prog 12 #[.pointer (some ⟨d, 0, none⟩), .int .i64 xi, .slice (some ⟨gx, 0, none⟩) 128 131] w3.drew fun e w' => e = .returned (.int .i64 R) ∧ Two Di w F G F2 G2 (fun k => (k < B0 ∨ k = bx) ∨ k = g ∨ k = gx) w' d r t2 t ∧ Kept (fun k => ¬ ((k < B0 ∨ k = bx) ∨ k = g ∨ k = gx)) w3 w') := by
              have hd : Kept (fun _ => False) w3 w3.drew := (Kept.refl _ _).drew
              exact (two_dwrite C (HT3.out.draws C 1) xi ⟨i3, i4⟩ (some ⟨gx, 0, none⟩) 128 131 LB HLBL.out (HBX3.out.kept hd (fun _ _ _ h => h)) HLB256.out (by decide) (fun _ y hy => by cases hy; exact .inr (.inr rfl)) HUL.out.2.1 HUL.out.2.2.2 R hR t2 ht2).mono fun e w' ⟨e1, e2, e3⟩ => ⟨e1, e2, (hd.mono (fun _ _ h => h.elim)).trans e3⟩
            have HCR : Hid (∀ w4, Two Di w F G F2 G2 (fun k => (k < B0 ∨ k = bx) ∨ k = g ∨ k = gx) w4 d r t2 t → Kept (fun k => ¬ ((k < B0 ∨ k = bx) ∨ k = g ∨ k = gx)) w3 w4 → Calls Try.prog 50 #[.pointer (some ⟨r, 0, none⟩), .int .i64 xi, .slice (some ⟨g, 0, none⟩) 128 128] w4 fun e w' => e = .returned (.int .i64 R) ∧ Two Di w F G F2 G2 (fun k => (k < B0 ∨ k = bx) ∨ k = g ∨ k = gx) w' d r t2 t2 ∧ Kept (fun k => ¬ ((k < B0 ∨ k = bx) ∨ k = g ∨ k = gx)) w3 w') := fun w4 h5 h6 =>
              (two_rwrite C h5 xi ⟨i3, i4⟩ (some ⟨g, 0, none⟩) 128 128 LB HLBL.out (HBB3.out.kept h6 (fun _ k e f => f (.inr (.inl (hgk _ _ k e))))) HLB256.out (by decide) (fun _ y hy => by cases hy; exact .inr (.inl rfl)) HUL.out.2.1 HUL.out.2.2.2 R hR t2 ht2).mono fun e w' ⟨e1, e2, e3⟩ => ⟨e1, e2, h6.trans e3⟩
            have HIN : Hid (∀ w5, Kept (fun k => ¬ ((k < B0 ∨ k = bx) ∨ k = g ∨ k = gx)) w3 w5 → Calls Try.prog 51 #[.slice (some ⟨gx, 0, none⟩) 128 131, .slice (some ⟨g, 0, none⟩) 128 128] w5 fun e w' => e = .returned (.bool true) ∧ ∃ n, w' = w5.drewN n) := fun w5 h6 => by
              have e := intact_any w5 gx (.slice (some ⟨g, 0, none⟩) 128 128) LB (HROW.out.kept h6 (fun f => f (.inr (.inr rfl)))) (by
                have e5 := (HBB3.out.kept h6 (fun _ k e f => f (.inr (.inl (hgk _ _ k e))))).at_
                rw [HLBL.out] at e5
                exact e5) (by rw [HLBL.out]; decide)
              rw [HLBL.out, show (128 + 3 : Nat) = 131 from rfl] at e
              exact e
            clear hR ht2 hrow hb3 hk13 HLE hgx hgk x0 x1 x2 x3 x4 y0 y1 y2 y3 y4
            go_upto_region 10 with fail
            go_cut [66] from 50 to 66 (fun v wx => v = .bool false ∧ Hid (Two Di w F G F2 G2 (fun k => (k < B0 ∨ k = bx) ∨ k = g ∨ k = gx) wx d r t2 t2) ∧ Hid (Kept (fun k => ¬ ((k < B0 ∨ k = bx) ∨ k = g ∨ k = gx)) w3 wx))
            case first =>
              go_region_held (fun W' => W'.cell? ⟨bx, 1, none⟩ = some (.int .i64 xi)) (first | assumption | go_keep) (first
                | (go_at_call 12; refine HCD.out.mono ?_; rintro e w4 ⟨rfl, hT4, hk4⟩; obtain ⟨v0, v1, v2, v3, v4⟩ := HBOX.out w4 hk4; have HT4 := hid_of hT4; have HK4 := hid_of hk4; clear hT4 hk4)
                | (go_at_call 50; refine (HCR.out _ HT4.out HK4.out).mono ?_; rintro e w5 ⟨rfl, hT5, hk5⟩; have HT5 := hid_of hT5; have HK5 := hid_of hk5; obtain ⟨s0, s1, s2, s3, s4⟩ := HBOX.out w5 hk5; clear hT5 hk5)
                | (go_at_call 51; refine (HIN.out _ HK5.out).mono ?_; rintro e w6 ⟨rfl, n6, hw6⟩; have HT6 : Hid (Two Di w F G F2 G2 (fun k => (k < B0 ∨ k = bx) ∨ k = g ∨ k = gx) w6 d r t2 t2) := (by rw [hw6]; exact HT5.out.draws C n6); have HK6 : Hid (Kept (fun k => ¬ ((k < B0 ∨ k = bx) ∨ k = g ∨ k = gx)) w3 w6) := (by rw [hw6]; exact ⟨HK5.out.os, HK5.out.tape, HK5.out.output, HK5.out.size, HK5.out.block⟩); obtain ⟨r0, r1, r2, r3, r4⟩ := HBOX.out w6 HK6.out; clear hw6))
              all_goals (try go_wp2_with fail)
              all_goals go_meet
              all_goals exact ⟨by simp, HT6, HK6⟩
            case rest =>
              obtain ⟨rfl, hT7, hk7⟩ := hcut
              have HR7 := hid_of (HROW.out.kept hk7.out (fun f => f (.inr (.inr rfl))))
              have HSP := hid_of (spoil_row wc gx 131 128 (u8s (LB ++ [85, 85, 85])) HR7.out (fun u hu => by obtain ⟨x', -, rfl⟩ := List.mem_map.1 hu; exact ⟨_, rfl⟩) (by show _ = _; simp [HLBL.out]) (by decide) (by decide))
              clear HCD HCR HIN z0 z1 z2 z3 z4 HR7 HROW HBB3 HBX3
              go_wp2_with fail
              refine HSP.out.mono ?_
              rintro e wt ⟨rfl, hk8⟩
              have HT : Hid (Two Di w F G F2 G2 (fun k => k < B0) wt d r t2 t2) := (hT7.out.mine C gx hk8 (by omega) (.inr (.inr rfl))).less (fun k e => .inl (.inl e))
              have HKT : Hid (Kept (fun k => ¬ k < B0) w wt) := ((HK1.out.trans (HK13.out.mono (fun k _ e f => by omega))).trans (hk7.out.mono (fun k _ e f => e (.inl (.inl f))))).trans (hk8.mono (fun k _ e f => by omega))
              clear hT7 hk7 hk8 HSP
              obtain ⟨gB, cB, wa, wc, f0, f1, f2, f5, f6, f7, -⟩ := HT.out.fields
              obtain ⟨q1, hq1⟩ : ∃ q, q = t2.reads := ⟨_, rfl⟩
              obtain ⟨q2, hq2⟩ : ∃ q, q = t2.writes := ⟨_, rfl⟩
              obtain ⟨q3, hq3⟩ : ∃ q, q = t2.flushes := ⟨_, rfl⟩
              obtain ⟨q4, hq4⟩ : ∃ q, q = t2.W.length := ⟨_, rfl⟩
              obtain ⟨q5, hq5⟩ : ∃ q, q = t2.B.length / 128 := ⟨_, rfl⟩
              obtain ⟨q6, hq6⟩ : ∃ q, q = t2.dead := ⟨_, rfl⟩
              rw [← hq1] at f5
              rw [← hq2] at f6
              rw [← hq3] at f7
              rw [← hq4] at f1
              rw [← hq6] at f2
              have HQ : Hid (q1 = t2.reads ∧ q2 = t2.writes ∧ q3 = t2.flushes) := ⟨hq1, hq2, hq3⟩
              have HQ4 := hid_of hq4
              have HQ5 := hid_of hq5
              have HQ6 := hid_of hq6
              clear hq1 hq2 hq3 hq4 hq5 hq6 f0
              go_wp2_with fail
              refine (two_counts C CC HT.out q1 q2 q3 HQ.out).mono ?_
              rintro e wu ⟨rfl, nu, hwu⟩
              have HTU : Hid (Two Di w F G F2 G2 (fun k => k < B0) wu d r t2 t2) := by rw [hwu]; exact HT.out.draws C nu
              have HKU : Hid (Kept (fun k => ¬ k < B0) w wu) := by rw [hwu]; exact ⟨HKT.out.os, HKT.out.tape, HKT.out.output, HKT.out.size, HKT.out.block⟩
              have g1 : wu.cell? ⟨r, 1, none⟩ = some (.slice wa q4 wc) := by rw [hwu]; exact f1
              have g2 : wu.cell? ⟨r, 2, none⟩ = some (.bool q6) := by rw [hwu]; exact f2
              have g5 : wu.cell? ⟨r, 5, none⟩ = some (.int .i64 (q1 : Int)) := by rw [hwu]; exact f5
              have g6 : wu.cell? ⟨r, 6, none⟩ = some (.int .i64 (q2 : Int)) := by rw [hwu]; exact f6
              have g7 : wu.cell? ⟨r, 7, none⟩ = some (.int .i64 (q3 : Int)) := by rw [hwu]; exact f7
              clear hwu f1 f2 f5 f6 f7 HT HKT
              go_upto_region 33 with fail
              go_quiet (first
                | (go_at_call 14; exact two_dead C CD HTU.out _ _ HQ6.out)
                | (go_at_call 17; exact two_wait C HTU.out _ _ HQ4.out)
                | (go_at_call 53; exact two_len C CL HTU.out _ _ HQ5.out)
                | (go_at_call 54; exact two_rlen C HTU.out _ _ HQ5.out))
              have HTV : Hid (Two Di w F G F2 G2 (fun k => k < B0) (wu.drewN nq) d r t2 t2) := HTU.out.draws C nq
              have HKV : Hid (Kept (fun k => ¬ k < B0) w (wu.drewN nq)) := ⟨HKU.out.os, HKU.out.tape, HKU.out.output, HKU.out.size, HKU.out.block⟩
              go_wp2_with fail
              refine ⟨?_, by (simp [intOf]) <;> omega⟩
              first
                | exact ⟨j + 1, t2, by omega, by omega, by go_num, HTV, HUT, HKV⟩
                | ((repeat apply Exists.intro); refine ⟨?_, rfl⟩; exact ⟨j + 1, t2, by omega, by omega, by go_num, HTV, HUT, HKV⟩)
          · as_aux_lemma =>
            obtain ⟨LB, hLB⟩ : ∃ LB, LB = LL.take 127 := ⟨_, rfl⟩
            have hLBl : LB.length = 127 := by rw [hLB, List.length_take, HLL.out]; rfl
            have hsb : SlAt w2 (.slice (some ⟨g, 0, none⟩) 127 128) LB := by
              have e := own_part HO2.out 0 127 128 (by decide)
              rw [List.drop_zero] at e
              rw [hLB]; exact e
            have hbb : Bs w2 (some ⟨g, 0, none⟩) 128 LB := ⟨by rw [hLBl]; exact hsb, by rw [hLBl]; decide, fun e => by cases e⟩
            have HLB256 : Hid (∀ z ∈ LB, z < 256) := by rw [hLB]; exact fun z hz => HL256.out z (List.mem_of_mem_take hz)
            have HLE := hid_of (lend_any w2 _ LB hsb (by rw [hLBl]; decide))
            rw [hLBl, show (127 + 3 : Nat) = 130 from rfl] at HLE
            have hgk : ∀ (n' c' k : Nat), (Value.slice (some ⟨g, 0, none⟩) n' c').ownBlock = some k → k = g := fun n' c' k e => by
              simp [Value.ownBlock] at e
              exact e.symm
            have HLBL := hid_of hLBl
            have HBB := hid_of hbb
            have hsl7 : ∀ W : World, (Instr.sliceAt 30 (.slice (some ⟨g, 0, none⟩) 128 128) none (some (.int .i64 127)) none).run Try.prog W = .ok (.slice (some ⟨g, 0, none⟩) 127 128) W := fun W => slice_hi (some ⟨g, 0, none⟩) 128 128 127 (by decide) W
            clear hLB hLBl hsb hbb
            go_wp2_with fail
            refine HLE.out.mono ?_
            rintro e w3 ⟨rfl, hrow, hb3⟩
            obtain ⟨gx, hgx⟩ : ∃ gx, gx = w2.heap.size := ⟨_, rfl⟩
            rw [← hgx] at hrow ⊢
            have hgx1 : w2.heap.size ≤ gx := by omega
            have hgx2 : gx < w3.heap.size := hrow.lt
            have hk13 : Kept (fun k => w1.heap.size ≤ k) w1 w3 := ⟨(HB2.out.trans (hb3.mono hs12)).os, (HB2.out.trans (hb3.mono hs12)).tape, (HB2.out.trans (hb3.mono hs12)).output, (HB2.out.trans (hb3.mono hs12)).size, fun i hi hf => (HB2.out.trans (hb3.mono hs12)).block i (by omega)⟩
            have HK13 := hid_of hk13
            have HT3 : Hid (Two Di w F G F2 G2 (fun k => (k < B0 ∨ k = bx) ∨ k = g ∨ k = gx) w3 d r t t) := HT1.out.keep C hk13 (fun k e => by rcases e with e | e | e; exact .inl e; exact .inr (by have := hb3.size; omega); exact .inr (by omega))
            have HBB3 : Hid (Bs w3 (some ⟨g, 0, none⟩) 128 LB) := HBB.out.below hb3
            have HROW := hid_of hrow
            have HBX3 : Hid (Bs w3 (some ⟨gx, 0, none⟩) 130 LB) := ⟨SlAt.of_row hrow, by rw [HLBL.out]; decide, fun e => by cases e⟩
            have HBOX : Hid (∀ w', Kept (fun k => ¬ ((k < B0 ∨ k = bx) ∨ k = g ∨ k = gx)) w3 w' → w'.cell? ⟨bx, 0, none⟩ = some (.int .i64 xd) ∧ w'.cell? ⟨bx, 1, none⟩ = some (.int .i64 xi) ∧ w'.cell? ⟨bx, 2, none⟩ = some (.int .i64 xn) ∧ w'.cell? ⟨bx, 3, none⟩ = some (.slice ba xl bc) ∧ w'.cell? ⟨bx, 4, none⟩ = some (.slice ka yl kc)) := fun w' hk => HBC.out w' ((hk13.mono (fun k hk' e f => by omega)).trans (hk.mono (fun k _ e f => e (.inl f))))
            obtain ⟨z0, z1, z2, z3, z4⟩ := HBOX.out w3 (Kept.refl _ _)
            obtain ⟨R, hR⟩ : ∃ R, R = t.writeR xi LB := ⟨_, rfl⟩
            obtain ⟨t2, ht2⟩ : ∃ t2, t2 = t.writeS xi LB := ⟨_, rfl⟩
            have HUT : Hid (t2.used (c + (j + 1))) := by rw [ht2]; exact hU.out.write xi LB
            have HCD : Hid (Calls Try.prog 12 #[.pointer (some ⟨d, 0, none⟩), .int .i64 xi, .slice (some ⟨gx, 0, none⟩) 127 130] w3.drew fun e w' => e = .returned (.int .i64 R) ∧ Two Di w F G F2 G2 (fun k => (k < B0 ∨ k = bx) ∨ k = g ∨ k = gx) w' d r t2 t ∧ Kept (fun k => ¬ ((k < B0 ∨ k = bx) ∨ k = g ∨ k = gx)) w3 w') := by
              have hd : Kept (fun _ => False) w3 w3.drew := (Kept.refl _ _).drew
              exact (two_dwrite C (HT3.out.draws C 1) xi ⟨i3, i4⟩ (some ⟨gx, 0, none⟩) 127 130 LB HLBL.out (HBX3.out.kept hd (fun _ _ _ h => h)) HLB256.out (by decide) (fun _ y hy => by cases hy; exact .inr (.inr rfl)) HUL.out.2.1 HUL.out.2.2.2 R hR t2 ht2).mono fun e w' ⟨e1, e2, e3⟩ => ⟨e1, e2, (hd.mono (fun _ _ h => h.elim)).trans e3⟩
            have HCR : Hid (∀ w4, Two Di w F G F2 G2 (fun k => (k < B0 ∨ k = bx) ∨ k = g ∨ k = gx) w4 d r t2 t → Kept (fun k => ¬ ((k < B0 ∨ k = bx) ∨ k = g ∨ k = gx)) w3 w4 → Calls Try.prog 50 #[.pointer (some ⟨r, 0, none⟩), .int .i64 xi, .slice (some ⟨g, 0, none⟩) 127 128] w4 fun e w' => e = .returned (.int .i64 R) ∧ Two Di w F G F2 G2 (fun k => (k < B0 ∨ k = bx) ∨ k = g ∨ k = gx) w' d r t2 t2 ∧ Kept (fun k => ¬ ((k < B0 ∨ k = bx) ∨ k = g ∨ k = gx)) w3 w') := fun w4 h5 h6 =>
              (two_rwrite C h5 xi ⟨i3, i4⟩ (some ⟨g, 0, none⟩) 127 128 LB HLBL.out (HBB3.out.kept h6 (fun _ k e f => f (.inr (.inl (hgk _ _ k e))))) HLB256.out (by decide) (fun _ y hy => by cases hy; exact .inr (.inl rfl)) HUL.out.2.1 HUL.out.2.2.2 R hR t2 ht2).mono fun e w' ⟨e1, e2, e3⟩ => ⟨e1, e2, h6.trans e3⟩
            have HIN : Hid (∀ w5, Kept (fun k => ¬ ((k < B0 ∨ k = bx) ∨ k = g ∨ k = gx)) w3 w5 → Calls Try.prog 51 #[.slice (some ⟨gx, 0, none⟩) 127 130, .slice (some ⟨g, 0, none⟩) 127 128] w5 fun e w' => e = .returned (.bool true) ∧ ∃ n, w' = w5.drewN n) := fun w5 h6 => by
              have e := intact_any w5 gx (.slice (some ⟨g, 0, none⟩) 127 128) LB (HROW.out.kept h6 (fun f => f (.inr (.inr rfl)))) (by
                have e5 := (HBB3.out.kept h6 (fun _ k e f => f (.inr (.inl (hgk _ _ k e))))).at_
                rw [HLBL.out] at e5
                exact e5) (by rw [HLBL.out]; decide)
              rw [HLBL.out, show (127 + 3 : Nat) = 130 from rfl] at e
              exact e
            clear hR ht2 hrow hb3 hk13 HLE hgx hgk x0 x1 x2 x3 x4 y0 y1 y2 y3 y4
            go_upto_region 10 with fail
            go_cut [66] from 50 to 66 (fun v wx => v = .bool false ∧ Hid (Two Di w F G F2 G2 (fun k => (k < B0 ∨ k = bx) ∨ k = g ∨ k = gx) wx d r t2 t2) ∧ Hid (Kept (fun k => ¬ ((k < B0 ∨ k = bx) ∨ k = g ∨ k = gx)) w3 wx))
            case first =>
              go_region_held (fun W' => W'.cell? ⟨bx, 1, none⟩ = some (.int .i64 xi)) (first | assumption | go_keep) (first
                | (go_at_call 12; refine HCD.out.mono ?_; rintro e w4 ⟨rfl, hT4, hk4⟩; obtain ⟨v0, v1, v2, v3, v4⟩ := HBOX.out w4 hk4; have HT4 := hid_of hT4; have HK4 := hid_of hk4; clear hT4 hk4)
                | (go_at_call 50; refine (HCR.out _ HT4.out HK4.out).mono ?_; rintro e w5 ⟨rfl, hT5, hk5⟩; have HT5 := hid_of hT5; have HK5 := hid_of hk5; obtain ⟨s0, s1, s2, s3, s4⟩ := HBOX.out w5 hk5; clear hT5 hk5)
                | (go_at_call 51; refine (HIN.out _ HK5.out).mono ?_; rintro e w6 ⟨rfl, n6, hw6⟩; have HT6 : Hid (Two Di w F G F2 G2 (fun k => (k < B0 ∨ k = bx) ∨ k = g ∨ k = gx) w6 d r t2 t2) := (by rw [hw6]; exact HT5.out.draws C n6); have HK6 : Hid (Kept (fun k => ¬ ((k < B0 ∨ k = bx) ∨ k = g ∨ k = gx)) w3 w6) := (by rw [hw6]; exact ⟨HK5.out.os, HK5.out.tape, HK5.out.output, HK5.out.size, HK5.out.block⟩); obtain ⟨r0, r1, r2, r3, r4⟩ := HBOX.out w6 HK6.out; clear hw6))
              all_goals (try go_wp2_with fail)
              all_goals go_meet
              all_goals exact ⟨by simp, HT6, HK6⟩
            case rest =>
              obtain ⟨rfl, hT7, hk7⟩ := hcut
              have HR7 := hid_of (HROW.out.kept hk7.out (fun f => f (.inr (.inr rfl))))
              have HSP := hid_of (spoil_row wc gx 130 127 (u8s (LB ++ [85, 85, 85])) HR7.out (fun u hu => by obtain ⟨x', -, rfl⟩ := List.mem_map.1 hu; exact ⟨_, rfl⟩) (by show _ = _; simp [HLBL.out]) (by decide) (by decide))
              clear HCD HCR HIN z0 z1 z2 z3 z4 HR7 HROW HBB3 HBX3
              go_wp2_with fail
              refine HSP.out.mono ?_
              rintro e wt ⟨rfl, hk8⟩
              have HT : Hid (Two Di w F G F2 G2 (fun k => k < B0) wt d r t2 t2) := (hT7.out.mine C gx hk8 (by omega) (.inr (.inr rfl))).less (fun k e => .inl (.inl e))
              have HKT : Hid (Kept (fun k => ¬ k < B0) w wt) := ((HK1.out.trans (HK13.out.mono (fun k _ e f => by omega))).trans (hk7.out.mono (fun k _ e f => e (.inl (.inl f))))).trans (hk8.mono (fun k _ e f => by omega))
              clear hT7 hk7 hk8 HSP
              obtain ⟨gB, cB, wa, wc, f0, f1, f2, f5, f6, f7, -⟩ := HT.out.fields
              obtain ⟨q1, hq1⟩ : ∃ q, q = t2.reads := ⟨_, rfl⟩
              obtain ⟨q2, hq2⟩ : ∃ q, q = t2.writes := ⟨_, rfl⟩
              obtain ⟨q3, hq3⟩ : ∃ q, q = t2.flushes := ⟨_, rfl⟩
              obtain ⟨q4, hq4⟩ : ∃ q, q = t2.W.length := ⟨_, rfl⟩
              obtain ⟨q5, hq5⟩ : ∃ q, q = t2.B.length / 128 := ⟨_, rfl⟩
              obtain ⟨q6, hq6⟩ : ∃ q, q = t2.dead := ⟨_, rfl⟩
              rw [← hq1] at f5
              rw [← hq2] at f6
              rw [← hq3] at f7
              rw [← hq4] at f1
              rw [← hq6] at f2
              have HQ : Hid (q1 = t2.reads ∧ q2 = t2.writes ∧ q3 = t2.flushes) := ⟨hq1, hq2, hq3⟩
              have HQ4 := hid_of hq4
              have HQ5 := hid_of hq5
              have HQ6 := hid_of hq6
              clear hq1 hq2 hq3 hq4 hq5 hq6 f0
              go_wp2_with fail
              refine (two_counts C CC HT.out q1 q2 q3 HQ.out).mono ?_
              rintro e wu ⟨rfl, nu, hwu⟩
              have HTU : Hid (Two Di w F G F2 G2 (fun k => k < B0) wu d r t2 t2) := by rw [hwu]; exact HT.out.draws C nu
              have HKU : Hid (Kept (fun k => ¬ k < B0) w wu) := by rw [hwu]; exact ⟨HKT.out.os, HKT.out.tape, HKT.out.output, HKT.out.size, HKT.out.block⟩
              have g1 : wu.cell? ⟨r, 1, none⟩ = some (.slice wa q4 wc) := by rw [hwu]; exact f1
              have g2 : wu.cell? ⟨r, 2, none⟩ = some (.bool q6) := by rw [hwu]; exact f2
              have g5 : wu.cell? ⟨r, 5, none⟩ = some (.int .i64 (q1 : Int)) := by rw [hwu]; exact f5
              have g6 : wu.cell? ⟨r, 6, none⟩ = some (.int .i64 (q2 : Int)) := by rw [hwu]; exact f6
              have g7 : wu.cell? ⟨r, 7, none⟩ = some (.int .i64 (q3 : Int)) := by rw [hwu]; exact f7
              clear hwu f1 f2 f5 f6 f7 HT HKT
              go_upto_region 33 with fail
              go_quiet (first
                | (go_at_call 14; exact two_dead C CD HTU.out _ _ HQ6.out)
                | (go_at_call 17; exact two_wait C HTU.out _ _ HQ4.out)
                | (go_at_call 53; exact two_len C CL HTU.out _ _ HQ5.out)
                | (go_at_call 54; exact two_rlen C HTU.out _ _ HQ5.out))
              have HTV : Hid (Two Di w F G F2 G2 (fun k => k < B0) (wu.drewN nq) d r t2 t2) := HTU.out.draws C nq
              have HKV : Hid (Kept (fun k => ¬ k < B0) w (wu.drewN nq)) := ⟨HKU.out.os, HKU.out.tape, HKU.out.output, HKU.out.size, HKU.out.block⟩
              go_wp2_with fail
              refine ⟨?_, by (simp [intOf]) <;> omega⟩
              first
                | exact ⟨j + 1, t2, by omega, by omega, by go_num, HTV, HUT, HKV⟩
                | ((repeat apply Exists.intro); refine ⟨?_, rfl⟩; exact ⟨j + 1, t2, by omega, by omega, by go_num, HTV, HUT, HKV⟩)
      · as_aux_lemma =>
        have hj3b : decide ((j : Int) < 30) = false := decide_eq_false (by omega)
        obtain ⟨gB, cB, wa, wc, f0, -, -, -, -, -, hsl⟩ := hT.out.fields
        obtain ⟨N, hN⟩ : ∃ N, N = t.B.length := ⟨_, rfl⟩
        rw [← hN] at f0 hsl
        have HSL := hid_of hsl
        have HBL : Hid (t.B.length ≤ 1000000) := by show _ ≤ _; have := (hT.out.fine C).1.le; omega
        have HUF : Hid (t.used (c + 30)) := hU.out.up (by omega)
        have HI : Hid (Calls Try.prog 25 #[.pointer (some ⟨d, 0, none⟩)] wr.drew fun e w' => ∃ v, e = .returned v ∧ SlAt w' v t.B ∧ SlAt w' (.slice (some ⟨gB, 0, none⟩) N cB) t.B ∧ w'.cell? ⟨r, 0, none⟩ = some (.slice (some ⟨gB, 0, none⟩) N cB) ∧ Two Di w F G F2 G2 (fun k => k < B0) w' d r t t) := by
          have h5 := hT.out.draws C 1
          obtain ⟨F', G', F2', G2', e1, e2⟩ := id h5
          refine (C.imageB wr.drew d F' G' t e1).mono ?_
          rintro e w' ⟨v, rfl, ho, -, hk⟩
          have h6 : Two Di w F G F2 G2 (fun k => k < B0) w' d r t t := h5.keep C (hk.mono (fun _ _ h => h.elim)) (fun k e => .inl e)
          refine ⟨v, rfl, SlAt.of_owns ho, hsl.kept (F := fun _ => False) ((Kept.refl _ _).drew.trans hk) (fun _ _ h => h), ?_, h6⟩
          rw [hk.cell (World.block_lt_of_cell? wr _ f0) (fun h => h)]
          exact f0
        clear hN hsl
        go_upto_region 35 with fail
        go_region_with (first
          | (go_at_call 25; refine HI.out.mono ?_; rintro e w2 ⟨v2, rfl, hs2, hs3, g0, hT2⟩; have HS2 := hid_of hs2; have HS3 := hid_of hs3; have HT2 := hid_of hT2; clear hs2 hs3 hT2)
          | (go_at_call 23; refine (same_any w2 v2 _ t.B HS2.out HS3.out (by have := HBL.out; omega)).mono ?_; rintro e w3 ⟨rfl, n3, hw3⟩; have HT3 : Hid (Two Di w F G F2 G2 (fun k => k < B0) w3 d r t t) := (by rw [hw3]; exact HT2.out.draws C n3); clear hw3))
        all_goals go_wp2_with fail
        all_goals go_ret
        all_goals exact ⟨rfl, t, HT3.out, HUF.out⟩
    · as_aux_lemma =>
      have hjl' : decide (j < len) = false := decide_eq_false hjl
      obtain ⟨gB, cB, wa, wc, f0, -, -, -, -, -, hsl⟩ := hT.out.fields
      obtain ⟨N, hN⟩ : ∃ N, N = t.B.length := ⟨_, rfl⟩
      rw [← hN] at f0 hsl
      have HSL := hid_of hsl
      have HBL : Hid (t.B.length ≤ 1000000) := by show _ ≤ _; have := (hT.out.fine C).1.le; omega
      have HUF : Hid (t.used (c + 30)) := hU.out.up (by omega)
      have HI : Hid (Calls Try.prog 25 #[.pointer (some ⟨d, 0, none⟩)] wr.drew fun e w' => ∃ v, e = .returned v ∧ SlAt w' v t.B ∧ SlAt w' (.slice (some ⟨gB, 0, none⟩) N cB) t.B ∧ w'.cell? ⟨r, 0, none⟩ = some (.slice (some ⟨gB, 0, none⟩) N cB) ∧ Two Di w F G F2 G2 (fun k => k < B0) w' d r t t) := by
        have h5 := hT.out.draws C 1
        obtain ⟨F', G', F2', G2', e1, e2⟩ := id h5
        refine (C.imageB wr.drew d F' G' t e1).mono ?_
        rintro e w' ⟨v, rfl, ho, -, hk⟩
        have h6 : Two Di w F G F2 G2 (fun k => k < B0) w' d r t t := h5.keep C (hk.mono (fun _ _ h => h.elim)) (fun k e => .inl e)
        refine ⟨v, rfl, SlAt.of_owns ho, hsl.kept (F := fun _ => False) ((Kept.refl _ _).drew.trans hk) (fun _ _ h => h), ?_, h6⟩
        rw [hk.cell (World.block_lt_of_cell? wr _ f0) (fun h => h)]
        exact f0
      clear hN hsl
      go_upto_region 35 with fail
      go_region_with (first
        | (go_at_call 25; refine HI.out.mono ?_; rintro e w2 ⟨v2, rfl, hs2, hs3, g0, hT2⟩; have HS2 := hid_of hs2; have HS3 := hid_of hs3; have HT2 := hid_of hT2; clear hs2 hs3 hT2)
        | (go_at_call 23; refine (same_any w2 v2 _ t.B HS2.out HS3.out (by have := HBL.out; omega)).mono ?_; rintro e w3 ⟨rfl, n3, hw3⟩; have HT3 : Hid (Two Di w F G F2 G2 (fun k => k < B0) w3 d r t t) := (by rw [hw3]; exact HT2.out.draws C n3); clear hw3))
      all_goals go_wp2_with fail
      all_goals go_ret
      all_goals exact ⟨rfl, t, HT3.out, HUF.out⟩

end Go.Proofs.Ytjmeneddhalodaa
