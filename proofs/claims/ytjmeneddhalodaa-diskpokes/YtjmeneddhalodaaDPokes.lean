/- DiskPokes over the bundle. -/
import Derived.Test.YtjmeneddhalodaaPart05
namespace Go.Proofs.Ytjmeneddhalodaa
set_option linter.unusedVariables false
set_option linter.unusedSimpArgs false
open Go.RowKit Dg

theorem flipB_get (l : List Nat) (j m k : Nat) : (flipB l j m)[k]? = if j = k then (if k < l.length then some ((l.getD j 0) ^^^ m) else none) else l[k]? := by
  unfold flipB
  rw [List.getElem?_set]
  by_cases e : j = k
  · subst e
    rw [if_pos rfl]
  · rw [if_neg e, if_neg e]
theorem sec_get (B : List Nat) (k i : Nat) (hi : i < 128) : (sec B k)[i]? = B[k * 128 + i]? := by
  unfold sec
  rw [List.getElem?_take, if_pos hi, List.getElem?_drop]
theorem sec_flip {B : List Nat} {k q m : Nat} (h : k * 128 + 128 ≤ B.length) (hq : q < 128) : sec (flipB B (k * 128 + q) m) k = flipB (sec B k) q m := by
  refine List.ext_getElem? fun i => ?_
  rcases Nat.lt_or_ge i 128 with hi | hi
  · rw [sec_get _ _ _ hi, flipB_get, flipB_get, sec_get _ _ _ hi, length_sec h]
    have e : (sec B k).getD q 0 = B.getD (k * 128 + q) 0 := by rw [List.getD_eq_getElem?_getD, List.getD_eq_getElem?_getD, sec_get _ _ _ hq]
    rw [e]
    by_cases e2 : q = i
    · subst e2
      rw [if_pos rfl, if_pos rfl, if_pos (by omega), if_pos hi]
    · rw [if_neg (by omega), if_neg e2]
  · rw [List.getElem?_eq_none (by rw [length_sec (by rw [length_flipB]; exact h)]; exact hi), List.getElem?_eq_none (by rw [length_flipB, length_sec h]; exact hi)]
theorem flipB_twice (l : List Nat) (j m : Nat) : flipB (flipB l j m) j m = l := by
  refine List.ext_getElem? fun k => ?_
  rw [flipB_get, flipB_get]
  by_cases e : j = k
  · subst e
    rw [if_pos rfl, length_flipB]
    by_cases hj : j < l.length
    · rw [if_pos hj, List.getD_eq_getElem?_getD, flipB_get, if_pos rfl, if_pos hj, List.getD_eq_getElem?_getD, List.getElem?_eq_getElem hj]
      show some ((l[j] ^^^ m) ^^^ m) = _
      rw [Nat.xor_assoc, Nat.xor_self, Nat.xor_zero]
    · rw [if_neg hj, List.getElem?_eq_none (by omega)]
  · rw [if_neg e, if_neg e]
theorem now_nil {s : Sk} (h : s.W = []) (k : Nat) : s.now k = sec s.B k := by unfold Sk.now; rw [h]; rfl
theorem now_one {s : Sk} {k : Nat} {b : List Nat} (h : s.W = [(k, b)]) : s.now k = b := by
  unfold Sk.now
  rw [h]
  show (lastW [(k, b)] k 1).getD _ = b
  unfold lastW
  simp
/-- The disk behind a write, a flush, a write of one sector. -/
theorem poke_setup {I : Nat} (hI : I < 4) {X Y : List Nat} (hX : X.length = 128) (hX2 : ∀ x ∈ X, x < 256) (hY : Y.length = 128) (hY2 : ∀ x ∈ Y, x < 256) {s1 s2 s3 : Sk} (h1 : s1 = (newS 4).writeS (I : Int) X) (h2 : s2 = s1.flushS) (h3 : s3 = s2.writeS (I : Int) Y) :
    0 = (newS 4).writeR (I : Int) X ∧ 0 = s1.flushR ∧ 0 = s2.writeR (I : Int) Y ∧ (s1.flushes ≤ 10 ∧ s1.W.length ≤ 10) ∧ (s2.writes ≤ 10 ∧ s2.W.length ≤ 10) ∧ s3.W = [(I, Y)] ∧ sec s3.B I = X ∧ s3.B.length = 512 ∧ s3.dead = false ∧ s3.stop = none ∧ s3.reads = 0 ∧ s3.Fine := by
  have hB : (newS 4).B.length = 512 := by show (List.replicate (4 * 128) 0).length = 512; rw [List.length_replicate]
  have hf : (newS 4).Fine := newS_fine (by decide) (by decide)
  obtain ⟨a1, a2⟩ := live_write (s := newS 4) rfl rfl (k := I) (by rw [hB]; omega) hX
  rw [a2] at h1
  have hf1 : s1.Fine := by
    have e := Sk.writeS_fine hf (I : Int) X hX2
    rw [a2, ← h1] at e
    exact e
  have d1 : s1.dead = false := by rw [h1]; rfl
  have t1 : s1.stop = none := by rw [h1]; rfl
  have w1 : s1.W = [(I, X)] := by rw [h1]; rfl
  have b1 : s1.B.length = 512 := by rw [h1]; exact hB
  have ha1 : s1.arm = s1 := live_arm d1 t1
  have e2 : s2 = { s1 with B := keepTo s1.B s1.W (fun _ => true) s1.W.length, W := [], flushes := s1.flushes + 1 } := by
    rw [h2]; unfold Sk.flushS
    rw [ha1, if_neg (by rw [d1]; decide)]
  have hf2 : s2.Fine := by rw [h2]; exact Sk.flushS_fine hf1
  have b2 : s2.B.length = 512 := by rw [e2]; exact ((keepTo_fine hf1 (fun _ => true) _ (Nat.le_refl _)).1).trans b1
  have n2 : sec s2.B I = X := by
    have e := now_flush hf1 (by rw [ha1]; exact d1) I (by rw [b1]; omega)
    rw [← h2, now_nil (by rw [e2]), now_one w1] at e
    exact e
  obtain ⟨a3, a4⟩ := live_write (s := s2) (by rw [e2]; exact d1) (by rw [e2]; exact t1) (k := I) (by rw [b2]; omega) hY
  rw [a4] at h3
  refine ⟨a1.symm, (live_flush d1 t1).symm, a3.symm, ⟨by rw [h1]; show 0 ≤ 10; decide, by rw [w1]; exact (by decide : 1 ≤ 10)⟩, ⟨by rw [e2, h1]; show 0 + 1 ≤ 10; decide, by rw [e2]; exact Nat.zero_le _⟩, by rw [h3, e2]; rfl, by rw [h3]; exact n2, by rw [h3]; exact b2, by rw [h3, e2]; exact d1, by rw [h3, e2]; exact t1, by rw [h3, e2, h1]; rfl, ?_⟩
  have e := Sk.writeS_fine hf2 (I : Int) Y hY2
  rw [a4, ← h3] at e
  exact e
theorem pokes_yes {s : Sk} {I D : Nat} (hI : I * 128 + 128 ≤ s.B.length) (hD : D < 1024) : s.pokes (I : Int) (D : Int) := ⟨⟨by omega, by omega⟩, by omega, by omega⟩
theorem poke_eq {s : Sk} {I D : Nat} (hI : I * 128 + 128 ≤ s.B.length) (hD : D < 1024) : s.pokeS (I : Int) (D : Int) = { s with B := flipB s.B (I * 128 + D / 8) (maskOf D), W := s.W.map (pokeW I D) } := by
  unfold Sk.pokeS
  rw [if_pos (pokes_yes hI hD)]
  rfl
/-- What is read, and answered, behind the poke. -/
theorem poke_rest {I D : Nat} {X' Y' : List Nat} {kp : Bool} {s4 s5 s6 s7 s8 s9 sA : Sk} (hI : I < 4) (hD : D < 1024) (hW : s4.W = [(I, Y')]) (hX : sec s4.B I = X') (hB : s4.B.length = 512) (hd : s4.dead = false) (hs : s4.stop = none) (hr : s4.reads = 0) (hf : s4.Fine)
    (h5 : s5 = s4.readS (I : Int)) (h6 : s6 = s5.crashS [kp]) (h7 : s7 = s6.readS (I : Int)) (h8 : s8 = s7.pokeS (I : Int) (D : Int)) (h9 : s9 = s8.pokeS (I : Int) (D : Int)) (hA : sA = s9.readS (I : Int)) :
    (s4.reads ≤ 1000000 ∧ s4.W.length ≤ 100000) ∧ (Y', (0 : Int)) = s4.readR (I : Int) ∧ s5.W.length ≤ 100000 ∧ (s6.reads ≤ 1000000 ∧ s6.W.length ≤ 100000) ∧ ((if kp then Y' else X'), (0 : Int)) = s6.readR (I : Int) ∧
    s7.W.length ≤ 100000 ∧ true = decide (s7.pokes (I : Int) (D : Int)) ∧ s8.W.length ≤ 100000 ∧ true = decide (s8.pokes (I : Int) (D : Int)) ∧ (s9.reads ≤ 1000000 ∧ s9.W.length ≤ 100000) ∧ ((if kp then Y' else X'), (0 : Int)) = s9.readR (I : Int) ∧
    sA.W.length ≤ 100000 ∧ (false = decide (sA.pokes 4 0) ∧ sA = sA.pokeS 4 0 ∧ false = decide (sA.pokes 0 1024) ∧ sA = sA.pokeS 0 1024 ∧ false = decide (sA.pokes (-1) 0) ∧ sA = sA.pokeS (-1) 0 ∧ false = decide (sA.pokes 0 (-1)) ∧ sA = sA.pokeS 0 (-1)) := by
  have hI4 : I * 128 + 128 ≤ s4.B.length := by omega
  have n4 : s4.now I = Y' := now_one hW
  obtain ⟨a1, a2⟩ := live_read hd hI4
  rw [a2] at h5
  have f5 : s5.Fine := by rw [h5]; exact ⟨hf.n, hf.b256, hf.w⟩
  have w5 : s5.W = [(I, Y')] := by rw [h5]; exact hW
  have b5 : s5.B.length = 512 := by rw [h5]; exact hB
  obtain ⟨c1, c2, c3, c4, c5, -, -⟩ := crash_live f5 [kp]
  rw [← h6] at c1 c2 c3 c4 c5
  have f6 : s6.Fine := by rw [h6]; exact Sk.crashS_fine f5 _
  have n6 : s6.now I = if kp then Y' else X' := by
    rw [h6, now_crash f5 [kp] I (by omega), w5]
    have e5 : sec s5.B I = X' := by rw [h5]; exact hX
    rw [e5]
    cases kp
    · show (lastK [(I, Y')] _ I 1).getD X' = X'
      unfold lastK
      simp [lastK]
    · show (lastK [(I, Y')] _ I 1).getD X' = Y'
      unfold lastK
      simp
  have b6 : s6.B.length = 512 := by omega
  obtain ⟨a3, a4⟩ := live_read (s := s6) c1 (k := I) (by omega)
  rw [a4] at h7
  have w7 : s7.W = [] := by rw [h7]; exact c3
  have b7 : s7.B.length = 512 := by rw [h7]; exact b6
  have p7 := pokes_yes (s := s7) (I := I) (by omega) hD
  rw [poke_eq (by omega) hD] at h8
  have w8 : s8.W = [] := by rw [h8, w7]; rfl
  have b8 : s8.B.length = 512 := by rw [h8]; exact (length_flipB _ _ _).trans b7
  have p8 := pokes_yes (s := s8) (I := I) (by omega) hD
  rw [poke_eq (by omega) hD] at h9
  have w9 : s9.W = [] := by rw [h9, w8]; rfl
  have B9 : s9.B = s7.B := by rw [h9, h8]; exact flipB_twice _ _ _
  have n9 : s9.now I = if kp then Y' else X' := by
    rw [now_nil w9, B9, h7]
    show sec s6.B I = _
    rw [← now_nil c3, n6]
  have d9 : s9.dead = false := by rw [h9, h8, h7]; exact c1
  obtain ⟨a5, a6⟩ := live_read (s := s9) d9 (k := I) (by rw [B9]; omega)
  rw [a6] at hA
  have wA : sA.W = [] := by rw [hA]; exact w9
  have bA : sA.B.length = 512 := by rw [hA]; show s9.B.length = _; rw [B9]; exact b7
  have q5 : sA.B.length / 128 = 4 := by rw [bA]
  have no1 : ¬ sA.pokes 4 0 := fun e => by have := e.1.2; rw [q5] at this; omega
  have no2 : ¬ sA.pokes 0 1024 := fun e => by have := e.2.2; omega
  have no3 : ¬ sA.pokes (-1) 0 := fun e => by have := e.1.1; omega
  have no4 : ¬ sA.pokes 0 (-1) := fun e => by have := e.2.1; omega
  have r7 : s7.reads ≤ 10 := by rw [h7, h5] at *; show s6.reads + 1 ≤ 10; rw [c5]; show s4.reads + 1 + 1 ≤ 10; omega
  have r9 : s9.reads ≤ 10 := by rw [h9, h8]; exact r7
  refine ⟨⟨by omega, by rw [hW]; exact (by decide : 1 ≤ 100000)⟩, by rw [← n4]; exact a1, by rw [w5]; exact (by decide : 1 ≤ 100000), ⟨by rw [c5, h5]; show s4.reads + 1 ≤ _; omega, by rw [c3]; exact Nat.zero_le _⟩, by rw [← n6]; exact a3, by rw [w7]; exact Nat.zero_le _, (decide_eq_true p7).symm, by rw [w8]; exact Nat.zero_le _, (decide_eq_true p8).symm, ⟨by omega, by rw [w9]; exact Nat.zero_le _⟩, by rw [← n9]; exact a5, by rw [wA]; exact Nat.zero_le _, (decide_eq_false no1).symm, ?_, (decide_eq_false no2).symm, ?_, (decide_eq_false no3).symm, ?_, (decide_eq_false no4).symm, ?_⟩
  · unfold Sk.pokeS; rw [if_neg no1]
  · unfold Sk.pokeS; rw [if_neg no2]
  · unfold Sk.pokeS; rw [if_neg no3]
  · unfold Sk.pokeS; rw [if_neg no4]
set_option maxRecDepth 100000 in
set_option maxHeartbeats 16000000 in
theorem dpokes_any {Di : DiP} (C : Dsk Di) (CR : DRead Di) (CF : DFlush Di) (CP : DPoke Di) (W : World) (i dg : Int) (a1 : Option Addr) (len1 cap1 : Nat) (z1 : List Int) (a2 : Option Addr) (len2 cap2 : Nat) (z2 : List Int) (kp : Bool) (hi : I64 i) (hdg : I64 dg) (hr1 : IsRow .u8 W a1 len1 cap1 z1) (hr2 : IsRow .u8 W a2 len2 cap2 z2) :
    Calls Try.prog 4 #[.int .i64 i, .int .i64 dg, .slice a1 len1 cap1, .slice a2 len2 cap2, .bool kp] W fun e W' => e = .returned (.bool true) ∧ Below W.heap.size W W' := by
  obtain ⟨hi1, hi2⟩ := hi
  obtain ⟨hd1, hd2⟩ := hdg
  obtain ⟨l1, hl1, h1256, hsl1, hc11, hc12, hc13⟩ := cut_row (n := 60) hr1
  obtain ⟨l2, hl2, h2256, hsl2, hc21, hc22, hc23⟩ := cut_row (n := 60) hr2
  obtain ⟨m1, hm1⟩ : ∃ m, m = min len1 60 := ⟨_, rfl⟩
  obtain ⟨m2, hm2⟩ : ∃ m, m = min len2 60 := ⟨_, rfl⟩
  have HCU1 : Hid (∀ w : World, Calls Try.prog 21 #[.slice a1 len1 cap1, .int .i64 60] w fun e w' => e = .returned (.slice a1 m1 cap1) ∧ w = w') := fun w => by rw [hm1]; exact cut_any w a1 len1 cap1 60 (by decide) hc11 hc12 hc13
  have HCU2 : Hid (∀ w : World, Calls Try.prog 21 #[.slice a2 len2 cap2, .int .i64 60] w fun e w' => e = .returned (.slice a2 m2 cap2) ∧ w = w') := fun w => by rw [hm2]; exact cut_any w a2 len2 cap2 60 (by decide) hc21 hc22 hc23
  have HB1 : Hid (l1.length = m1 ∧ Bs W a1 cap1 l1) := ⟨by rw [hl1, hm1], ⟨by rw [hl1]; exact hsl1, by omega, fun e => (hc13 e).2⟩⟩
  have HB2 : Hid (l2.length = m2 ∧ Bs W a2 cap2 l2) := ⟨by rw [hl2, hm2], ⟨by rw [hl2]; exact hsl2, by omega, fun e => (hc23 e).2⟩⟩
  have HLT1 : Hid (l1 ≠ [] → ∀ k, (Value.slice a1 l1.length cap1).ownBlock = some k → k < W.heap.size) := fun hne k e => SlAt.lt HB1.out.2.at_ hne k e
  have HLT2 : Hid (l2 ≠ [] → ∀ k, (Value.slice a2 l2.length cap2).ownBlock = some k → k < W.heap.size) := fun hne k e => SlAt.lt HB2.out.2.at_ hne k e
  obtain ⟨I, hI⟩ : ∃ I : Nat, i % 4 = (I : Int) := ⟨(i % 4).toNat, by omega⟩
  obtain ⟨D, hD⟩ : ∃ D : Nat, dg % 1024 = (D : Int) := ⟨(dg % 1024).toNat, by omega⟩
  have HW1 : Hid (∀ w : World, Calls Try.prog 9 #[.int .i64 i, .int .i64 4] w fun e w' => e = .returned (.int .i64 (I : Int)) ∧ w = w') := fun w => by rw [← hI]; exact within_any i 4 w hi1 hi2 (by decide) (by decide)
  have HW2 : Hid (∀ w : World, Calls Try.prog 9 #[.int .i64 dg, .int .i64 1024] w fun e w' => e = .returned (.int .i64 (D : Int)) ∧ w = w') := fun w => by rw [← hD]; exact within_any dg 1024 w hd1 hd2 (by decide) (by decide)
  have HI4 : Hid (I < 4) := by show _ < _; omega
  have HD10 : Hid (D < 1024) := by show _ < _; omega
  have HII : Hid (I64 (I : Int)) := ⟨by omega, by omega⟩
  have HDI : Hid (I64 (D : Int)) := ⟨by omega, by omega⟩
  obtain ⟨X, hX⟩ : ∃ X, X = fullL l1 := ⟨_, rfl⟩
  obtain ⟨Y, hY⟩ : ∃ Y, Y = fullL l2 := ⟨_, rfl⟩
  have HXL : Hid (X.length = 128 ∧ ∀ x ∈ X, x < 256) := by rw [hX]; exact ⟨length_fullL _, fullL_lt h1256⟩
  have HYL0 : Hid (Y.length = 128 ∧ ∀ x ∈ Y, x < 256) := by rw [hY]; exact ⟨length_fullL _, fullL_lt h2256⟩
  obtain ⟨dq, hdq⟩ : ∃ dq, dq = D / 8 := ⟨_, rfl⟩
  have hdq8 : dq < 128 := by omega
  have hdqD : (D : Int) / 8 = (dq : Int) := by omega
  obtain ⟨mk, hmk⟩ : ∃ mk, mk = maskOf D := ⟨_, rfl⟩
  have hmk' : (128 : Int) / 2 ^ (D % 8) = (mk : Int) := by rw [hmk]; unfold maskOf; push_cast; rfl
  have hmkl : mk < 256 := by rw [hmk]; exact maskOf_lt _
  obtain ⟨zx, hzx⟩ : ∃ z, X[dq]? = some z := ⟨_, List.getElem?_eq_getElem (by rw [HXL.out.1]; exact hdq8)⟩
  obtain ⟨zy, hzy⟩ : ∃ z, Y[dq]? = some z := ⟨_, List.getElem?_eq_getElem (by rw [HYL0.out.1]; exact hdq8)⟩
  have hzx2 : zx < 256 := HXL.out.2 zx (List.mem_of_getElem? hzx)
  have hzy2 : zy < 256 := HYL0.out.2 zy (List.mem_of_getElem? hzy)
  obtain ⟨yx, hyx⟩ : ∃ y, y = zx ^^^ mk := ⟨_, rfl⟩
  obtain ⟨yy, hyy⟩ : ∃ y, y = zy ^^^ mk := ⟨_, rfl⟩
  have hxx : bits BinOp.xor IntKind.u8 (zx : Int) (mk : Int) = (yx : Int) := by rw [hyx]; exact u8_xor_nat _ _ hzx2 hmkl
  have hxy : bits BinOp.xor IntKind.u8 (zy : Int) (mk : Int) = (yy : Int) := by rw [hyy]; exact u8_xor_nat _ _ hzy2 hmkl
  obtain ⟨X', hX'⟩ : ∃ X', X' = X.set dq yx := ⟨_, rfl⟩
  obtain ⟨Y', hY'⟩ : ∃ Y', Y' = Y.set dq yy := ⟨_, rfl⟩
  have hfx : flipB X (D / 8) (maskOf D) = X' := by rw [hX', ← hdq, ← hmk]; unfold flipB; rw [List.getD_eq_getElem?_getD, hzx, hyx]; rfl
  have hfy : flipB Y (D / 8) (maskOf D) = Y' := by rw [hY', ← hdq, ← hmk]; unfold flipB; rw [List.getD_eq_getElem?_getD, hzy, hyy]; rfl
  have HZL : Hid (X'.length = 128 ∧ Y'.length = 128) := by rw [hX', hY']; exact ⟨by rw [List.length_set]; exact HXL.out.1, by rw [List.length_set]; exact HYL0.out.1⟩
  have HYL : Hid (Y'.length ≤ 4398046511104) := by show _ ≤ _; rw [HZL.out.2]; decide
  obtain ⟨s1, hs1⟩ : ∃ s1, s1 = (newS 4).writeS (I : Int) X := ⟨_, rfl⟩
  obtain ⟨s2, hs2⟩ : ∃ s2, s2 = s1.flushS := ⟨_, rfl⟩
  obtain ⟨s3, hs3⟩ : ∃ s3, s3 = s2.writeS (I : Int) Y := ⟨_, rfl⟩
  obtain ⟨s4, hs4⟩ : ∃ s4, s4 = s3.pokeS (I : Int) (D : Int) := ⟨_, rfl⟩
  have HSU := hid_of (poke_setup HI4.out HXL.out.1 HXL.out.2 HYL0.out.1 HYL0.out.2 hs1 hs2 hs3)
  have HPK : Hid (true = decide (s3.pokes (I : Int) (D : Int)) ∧ s3.W.length ≤ 100000) := by
    obtain ⟨-, -, -, -, -, w3, -, b3, -⟩ := HSU.out
    exact ⟨(decide_eq_true (pokes_yes (by rw [b3]; have := HI4.out; omega) HD10.out)).symm, by rw [w3]; exact (by decide : 1 ≤ 100000)⟩
  have HS4 : Hid (s4.W = [(I, Y')] ∧ sec s4.B I = X' ∧ s4.B.length = 512 ∧ s4.dead = false ∧ s4.stop = none ∧ s4.reads = 0 ∧ s4.Fine) := by
    obtain ⟨-, -, -, -, -, w3, c3, b3, d3, t3, r3, f3⟩ := HSU.out
    have hI4 : I * 128 + 128 ≤ s3.B.length := by rw [b3]; have := HI4.out; omega
    have f4 : s4.Fine := by rw [hs4]; exact Sk.pokeS_fine f3 _ _
    rw [poke_eq hI4 HD10.out] at hs4
    refine ⟨?_, ?_, by rw [hs4]; exact (length_flipB _ _ _).trans b3, by rw [hs4]; exact d3, by rw [hs4]; exact t3, by rw [hs4]; exact r3, f4⟩
    · rw [hs4]
      show s3.W.map (pokeW I D) = _
      rw [w3]
      show [pokeW I D (I, Y)] = _
      unfold pokeW
      rw [if_pos rfl, hfy]
    · rw [hs4]
      show sec (flipB s3.B (I * 128 + D / 8) (maskOf D)) I = X'
      rw [sec_flip hI4 (by have := HD10.out; omega), c3, hfx]
  have HS1E := hid_of hs1
  have HS2E := hid_of hs2
  have HS3E := hid_of hs3
  have HS4E := hid_of hs4
  have HXE := hid_of hX
  have HYE := hid_of hY
  have HZX := hid_of hzx
  have HZY := hid_of hzy
  have HX'E := hid_of hX'
  have HY'E := hid_of hY'
  have hIb : (I : Int) < 4 := by have := HI4.out; omega
  have hDb : (D : Int) < 1024 := by have := HD10.out; omega
  clear hr1 hr2 hl1 h1256 hsl1 hc11 hc12 hc13 hl2 h2256 hsl2 hc21 hc22 hc23 hm1 hm2 hI hD hX hY hdq hmk hzx hzy hzx2 hzy2 hyx hyy hX' hY' hfx hfy hs1 hs2 hs3 hs4 hi1 hi2 hd1 hd2
  go_enter Try.func4, Try.ntmps4
  go_wp2_with fail
  refine (one_new C W 4 (by decide) (by decide)).mono ?_
  rintro e w1 ⟨d, rfl, ho1, hb1⟩
  have HO1 := hid_of ho1
  have HK1 : Hid (Kept (fun k => W.heap.size ≤ k) W w1) := Below.kept0 hb1
  clear ho1 hb1
  go_wp2_with (first
    | (go_at_call_of 9 (Value.int IntKind.i64 i); refine (HW1.out _).mono ?_; rintro e W' ⟨rfl, rfl⟩)
    | (go_at_call_of 9 (Value.int IntKind.i64 dg); refine (HW2.out _).mono ?_; rintro e W' ⟨rfl, rfl⟩))
  refine (HCU1.out _).mono ?_
  rintro e w1' ⟨rfl, rfl⟩
  have HF1 := hid_of (one_full C HO1.out a1 m1 cap1 l1 HB1.out.1 (HB1.out.2.kept HK1.out (fun hne k e f => by have := HLT1.out hne k e; omega)))
  go_wp2_with fail
  refine HF1.out.mono ?_
  rintro e w2 ⟨gx, rfl, hbx2, hrx2, ho2, hbl2, hgx, hgx'⟩
  rw [← HXE.out] at hbx2 hrx2
  have HRX2 := hid_of (own0 hrx2)
  have HO2 := hid_of ho2
  have HK2 : Hid (Kept (fun k => W.heap.size ≤ k) W w2) := HK1.out.trans ((Below.kept0 hbl2).mono (fun k _ e => Nat.le_trans HK1.out.size e))
  have hgxW : W.heap.size ≤ gx := Nat.le_trans HK1.out.size hgx
  clear hbx2 hrx2 ho2 hbl2 HF1 HO1 HK1
  go_wp2_with fail
  refine (HCU2.out _).mono ?_
  rintro e w2' ⟨rfl, rfl⟩
  have HF2 := hid_of (one_full C HO2.out a2 m2 cap2 l2 HB2.out.1 (HB2.out.2.kept HK2.out (fun hne k e f => by have := HLT2.out hne k e; omega)))
  go_wp2_with fail
  refine HF2.out.mono ?_
  rintro e w3 ⟨gy, rfl, hby3, hry3, ho3, hbl3, hgy, hgy'⟩
  rw [← HYE.out] at hry3
  have HRX3 : Hid (w3.ownsRow 0 5 1 (.slice (some ⟨gx, 0, none⟩) 128 128) 128 (u8s X)) := ownsRow_other (F := fun _ => False) HRX2.out (Kept.of_below hbl3) (fun _ _ h => h)
  have HRY3 := hid_of (own0 hry3)
  have HO3 : Hid (One Di (fun k => k < W.heap.size ∨ k = gx ∨ k = gy) w3 d (newS 4)) := ho3.less (fun k e => by
    rcases e with e | e | e
    · exact .inl (.inl e)
    · exact .inl (.inr e)
    · exact .inr e)
  have HK3 : Hid (Kept (fun k => W.heap.size ≤ k) W w3) := HK2.out.trans ((Below.kept0 hbl3).mono (fun k _ e => Nat.le_trans HK2.out.size e))
  have hgyW : W.heap.size ≤ gy := Nat.le_trans HK2.out.size hgy
  have hgxy : gx ≠ gy := by omega
  clear hby3 hry3 ho3 hbl3 HF2 HO2 HK2 HRX2 hgx hgx' hgy hgy'
  have HBSof : Hid (∀ (w : World) (g : Nat) (L : List Nat), L.length = 128 → w.ownsRow 0 5 1 (.slice (some ⟨g, 0, none⟩) 128 128) 128 (u8s L) → Bs w (some ⟨g, 0, none⟩) 128 L) := fun w g L hL h => Bs.own (base := 0) (by unfold OwnBytes; rw [hL]; exact h)
  have HCW1 := hid_of (one_write C HO3.out (I : Int) HII.out gx 128 128 X HXL.out.1 (HBSof.out _ _ _ HXL.out.1 HRX3.out) HXL.out.2 (by decide) (.inr (.inl rfl)) (by show 0 ≤ 1000000; decide) (by show 0 ≤ 100000; decide) 0 HSU.out.1 s1 HS1E.out)
  go_wp2_with fail
  refine HCW1.out.mono ?_
  rintro e w4 ⟨rfl, ho4, hk4⟩
  have HO4 := hid_of ho4
  have HK4 : Hid (Kept (fun k => W.heap.size ≤ k) W w4) := HK3.out.trans (hk4.mono (fun k _ e => Nat.le_of_not_lt (fun h => e (.inl h))))
  have HRX4 : Hid (w4.ownsRow 0 5 1 (.slice (some ⟨gx, 0, none⟩) 128 128) 128 (u8s X)) := ownsRow_other HRX3.out hk4 (fun k e f => f (.inr (.inl (by simp [Value.ownBlock] at e; exact e.symm))))
  have HRY4 : Hid (w4.ownsRow 0 5 1 (.slice (some ⟨gy, 0, none⟩) 128 128) 128 (u8s Y)) := ownsRow_other HRY3.out hk4 (fun k e f => f (.inr (.inr (by simp [Value.ownBlock] at e; exact e.symm))))
  clear ho4 hk4 HCW1 HO3 HK3 HRX3 HRY3
  go_wp2_with fail
  refine (one_flush C CF HO4.out (by have := HSU.out.2.2.2.1.1; omega) (by have := HSU.out.2.2.2.1.2; omega) 0 HSU.out.2.1 s2 HS2E.out).mono ?_
  rintro e w5 ⟨rfl, ho5, hk5⟩
  have HO5 := hid_of ho5
  have HK5 : Hid (Kept (fun k => W.heap.size ≤ k) W w5) := HK4.out.trans (hk5.mono (fun k _ e => Nat.le_of_not_lt (fun h => e (.inl h))))
  have HRX5 : Hid (w5.ownsRow 0 5 1 (.slice (some ⟨gx, 0, none⟩) 128 128) 128 (u8s X)) := ownsRow_other HRX4.out hk5 (fun k e f => f (.inr (.inl (by simp [Value.ownBlock] at e; exact e.symm))))
  have HRY5 : Hid (w5.ownsRow 0 5 1 (.slice (some ⟨gy, 0, none⟩) 128 128) 128 (u8s Y)) := ownsRow_other HRY4.out hk5 (fun k e f => f (.inr (.inr (by simp [Value.ownBlock] at e; exact e.symm))))
  clear ho5 hk5 HO4 HK4 HRX4 HRY4
  have HCW2 := hid_of (one_write C HO5.out (I : Int) HII.out gy 128 128 Y HYL0.out.1 (HBSof.out _ _ _ HYL0.out.1 HRY5.out) HYL0.out.2 (by decide) (.inr (.inr rfl)) (by have := HSU.out.2.2.2.2.1.1; omega) (by have := HSU.out.2.2.2.2.1.2; omega) 0 HSU.out.2.2.1 s3 HS3E.out)
  go_wp2_with fail
  refine HCW2.out.mono ?_
  rintro e w6 ⟨rfl, ho6, hk6⟩
  have HO6 := hid_of ho6
  have HK6 : Hid (Kept (fun k => W.heap.size ≤ k) W w6) := HK5.out.trans (hk6.mono (fun k _ e => Nat.le_of_not_lt (fun h => e (.inl h))))
  have HRX6 : Hid (w6.ownsRow 0 5 1 (.slice (some ⟨gx, 0, none⟩) 128 128) 128 (u8s X)) := ownsRow_other HRX5.out hk6 (fun k e f => f (.inr (.inl (by simp [Value.ownBlock] at e; exact e.symm))))
  have HRY6 : Hid (w6.ownsRow 0 5 1 (.slice (some ⟨gy, 0, none⟩) 128 128) 128 (u8s Y)) := ownsRow_other HRY5.out hk6 (fun k e f => f (.inr (.inr (by simp [Value.ownBlock] at e; exact e.symm))))
  clear ho6 hk6 HCW2 HO5 HK5 HRX5 HRY5
  go_wp2_with fail
  refine (one_poke C CP HO6.out (I : Int) (D : Int) HII.out HDI.out HPK.out.2 true HPK.out.1 s4 HS4E.out).mono ?_
  rintro e w7 ⟨rfl, ho7, hk7⟩
  have HO7 := hid_of ho7
  have HK7 : Hid (Kept (fun k => W.heap.size ≤ k) W w7) := HK6.out.trans (hk7.mono (fun k _ e => Nat.le_of_not_lt (fun h => e (.inl h))))
  have HRX7 : Hid (w7.ownsRow 0 5 1 (.slice (some ⟨gx, 0, none⟩) 128 128) 128 (u8s X)) := ownsRow_other HRX6.out hk7 (fun k e f => f (.inr (.inl (by simp [Value.ownBlock] at e; exact e.symm))))
  have HRY7 : Hid (w7.ownsRow 0 5 1 (.slice (some ⟨gy, 0, none⟩) 128 128) 128 (u8s Y)) := ownsRow_other HRY6.out hk7 (fun k e f => f (.inr (.inr (by simp [Value.ownBlock] at e; exact e.symm))))
  clear ho7 hk7 HO6 HK6 HRX6 HRY6
  obtain ⟨cx1, cx2⟩ := own_cell HRX7.out HZX.out
  obtain ⟨cy1, cy2⟩ := own_cell HRY7.out HZY.out
  obtain ⟨w8, hw8⟩ : ∃ w8, w8 = w7.setCell ⟨gx, dq, none⟩ (.int .u8 (yx : Int)) := ⟨_, rfl⟩
  have hk8 : Kept (fun k => k = gx) w7 w8 := by rw [hw8]; exact Kept.setCell _ _ _ rfl
  have HRX8 : Hid (w8.ownsRow 0 5 1 (.slice (some ⟨gx, 0, none⟩) 128 128) 128 (u8s X')) := by show World.ownsRow _ _ _ _ _ _ _; rw [hw8, HX'E.out]; exact own_set HRX7.out dq yx hdq8
  have HRY8 : Hid (w8.ownsRow 0 5 1 (.slice (some ⟨gy, 0, none⟩) 128 128) 128 (u8s Y)) := ownsRow_other HRY7.out hk8 (fun k e => by simp [Value.ownBlock] at e; omega)
  have cy1' := (own_cell HRY8.out HZY.out).1
  have cy2' := (own_cell HRY8.out HZY.out).2
  obtain ⟨wB, hwB⟩ : ∃ wB, wB = w8.setCell ⟨gy, dq, none⟩ (.int .u8 (yy : Int)) := ⟨_, rfl⟩
  have hkB : Kept (fun k => k = gy) w8 wB := by rw [hwB]; exact Kept.setCell _ _ _ rfl
  have HRXB : Hid (wB.ownsRow 0 5 1 (.slice (some ⟨gx, 0, none⟩) 128 128) 128 (u8s X')) := ownsRow_other HRX8.out hkB (fun k e => by simp [Value.ownBlock] at e; omega)
  have HRYB : Hid (wB.ownsRow 0 5 1 (.slice (some ⟨gy, 0, none⟩) 128 128) 128 (u8s Y')) := by show World.ownsRow _ _ _ _ _ _ _; rw [hwB, HY'E.out]; exact own_set HRY8.out dq yy hdq8
  have hk7B : Kept (fun k => k = gx ∨ k = gy) w7 wB := (hk8.mono (fun k _ e => .inl e)).trans (hkB.mono (fun k _ e => .inr e))
  have HOB : Hid (One Di (fun k => k < W.heap.size ∨ k = gx ∨ k = gy) wB d s4) := HO7.out.keep C (hk7B.mono (fun k _ e => .inl (.inr e))) (fun k e => .inl e)
  have HKB : Hid (Kept (fun k => W.heap.size ≤ k) W wB) := HK7.out.trans (hk7B.mono (fun k _ e => by rcases e with e | e <;> omega))
  have HSXB : Hid (SlAt wB (.slice (some ⟨gx, 0, none⟩) 128 128) X') := by have e := (HBSof.out _ _ _ HZL.out.1 HRXB.out).at_; rw [HZL.out.1] at e; exact e
  have HSYB : Hid (SlAt wB (.slice (some ⟨gy, 0, none⟩) 128 128) Y') := by have e := (HBSof.out _ _ _ HZL.out.2 HRYB.out).at_; rw [HZL.out.2] at e; exact e
  clear hk8 hkB hk7B HRX7 HRY7 HRX8 HRY8 HRXB HRYB HO7 HK7 cy1 cy2
  go_upto_region 9 with fail
  rw [hmk']
  go_upto_region 10 with fail
  rw [← hw8]
  have hw8' := hid_of hw8
  clear hw8
  go_upto_region 11 with fail
  rw [← hwB]
  clear hwB hw8' cx1 cx2 cy1' cy2' hmk' hxx hxy hdqD
  go_wp2_with fail
  rcases kp with _ | _
  -- false
  · obtain ⟨s5, hs5⟩ : ∃ s5, s5 = s4.readS (I : Int) := ⟨_, rfl⟩
    obtain ⟨s6, hs6⟩ : ∃ s6, s6 = s5.crashS [false] := ⟨_, rfl⟩
    obtain ⟨s7, hs7⟩ : ∃ s7, s7 = s6.readS (I : Int) := ⟨_, rfl⟩
    obtain ⟨s8, hs8⟩ : ∃ s8, s8 = s7.pokeS (I : Int) (D : Int) := ⟨_, rfl⟩
    obtain ⟨s9, hs9⟩ : ∃ s9, s9 = s8.pokeS (I : Int) (D : Int) := ⟨_, rfl⟩
    obtain ⟨sA, hsA⟩ : ∃ sA, sA = s9.readS (I : Int) := ⟨_, rfl⟩
    have HP := hid_of (poke_rest (kp := false) HI4.out HD10.out HS4.out.1 HS4.out.2.1 HS4.out.2.2.1 HS4.out.2.2.2.1 HS4.out.2.2.2.2.1 HS4.out.2.2.2.2.2.1 HS4.out.2.2.2.2.2.2 hs5 hs6 hs7 hs8 hs9 hsA)
    have HE5 := hid_of hs5
    have HE6 := hid_of hs6
    have HE7 := hid_of hs7
    have HE8 := hid_of hs8
    have HE9 := hid_of hs9
    have HEA := hid_of hsA
    clear hs5 hs6 hs7 hs8 hs9 hsA
    refine (one_read C CR HOB.out (I : Int) HII.out HP.out.1.1 HP.out.1.2 Y' 0 HP.out.2.1 s5 HE5.out).mono ?_
    rintro e wC ⟨vC, rfl, hvC, hoC, hkC⟩
    have HSY : Hid (SlAt wC (.slice (some ⟨gy, 0, none⟩) 128 128) Y') := HSYB.out.kept hkC (fun k e f => f (.inr (.inr (by simp [Value.ownBlock] at e; exact e.symm))))
    have HSX : Hid (SlAt wC (.slice (some ⟨gx, 0, none⟩) 128 128) X') := HSXB.out.kept hkC (fun k e f => f (.inr (.inl (by simp [Value.ownBlock] at e; exact e.symm))))
    have HVC : Hid (SlAt wC vC Y') := SlAt.of_owns hvC.own
    have HOC : Hid (One Di (fun k => k < W.heap.size ∨ k = gx ∨ k = gy) wC d s5) := hoC.less (fun k e => .inl e)
    have HKC : Hid (Kept (fun k => W.heap.size ≤ k) W wC) := HKB.out.trans (hkC.mono (fun k _ e => Nat.le_of_not_lt (fun h => e (.inl h))))
    clear hvC hoC hkC HOB HKB HSYB HSXB
    go_wp2_with fail
    refine (same_any wC vC _ Y' HVC.out HSY.out HYL.out).mono ?_
    rintro e wD ⟨rfl, nD, rfl⟩
    have HOD := hid_of (HOC.out.draws C nD)
    have HKD : Hid (Kept (fun k => W.heap.size ≤ k) W (wC.drewN nD)) := ⟨HKC.out.os, HKC.out.tape, HKC.out.output, HKC.out.size, HKC.out.block⟩
    have HSYD : Hid (SlAt (wC.drewN nD) (.slice (some ⟨gy, 0, none⟩) 128 128) Y') := HSY.out
    have HSXD : Hid (SlAt (wC.drewN nD) (.slice (some ⟨gx, 0, none⟩) 128 128) X') := HSX.out
    clear HOC HKC HSY HSX HVC
    generalize wC.drewN nD = wD at *
    obtain ⟨wE, hwE⟩ : ∃ wE, wE = wD.alloc (.cells #[.bool false] 4) := ⟨_, rfl⟩
    have hkE : Kept (fun _ => False) wD wE := by rw [hwE]; exact Kept.alloc _ _ _
    have hxE : wE.heap[wD.heap.size]? = some (.cells #[.bool false] 4 (0, 0)) := by rw [hwE]; exact heap_alloc_new wD _
    have HBLE : Hid (BlAt wE (some ⟨wD.heap.size, 0, none⟩) [false]) := fun j u hu => by
      have hj : j = 0 := by
        rcases Nat.eq_zero_or_pos j with e | e
        · exact e
        · rw [List.getElem?_eq_none (by simp; omega)] at hu; cases hu
      subst hj
      cases hu
      exact ⟨wD.heap.size, 0, rfl, by simp [World.cell?, hxE]⟩
    have HOE : Hid (One Di (fun k => (k < W.heap.size ∨ k = gx ∨ k = gy) ∨ k = wD.heap.size) wE d s5) := HOD.out.keep C (hkE.mono (fun _ _ h => h.elim)) (fun k e => by
      rcases e with e | e
      · exact .inl e
      · exact .inr ⟨by omega, by rw [hwE]; simp; omega⟩)
    have HKE : Hid (Kept (fun k => W.heap.size ≤ k) W wE) := HKD.out.trans (hkE.mono (fun _ _ h => h.elim))
    have HSYE := hid_of (HSYD.out.kept hkE (fun _ _ h => h))
    have HSXE := hid_of (HSXD.out.kept hkE (fun _ _ h => h))
    have HCR := hid_of (one_crash C HOE.out (some ⟨wD.heap.size, 0, none⟩) 1 1 [false] rfl HBLE.out (by decide) (fun _ y hy => by cases hy; exact .inr rfl) HP.out.2.2.1 s6 HE6.out)
    clear hkE hxE HOD HKD HSYD HSXD HBLE
    go_wp2_with fail
    rw [← hwE]
    refine HCR.out.mono ?_
    rintro e wF ⟨rfl, hoF, hkF⟩
    have HOF : Hid (One Di (fun k => k < W.heap.size ∨ k = gx ∨ k = gy) wF d s6) := hoF.less (fun k e => .inl e)
    have HKF : Hid (Kept (fun k => W.heap.size ≤ k) W wF) := HKE.out.trans (hkF.mono (fun k _ e => Nat.le_of_not_lt (fun h => e (.inl (.inl h)))))
    have HSYF : Hid (SlAt wF (.slice (some ⟨gy, 0, none⟩) 128 128) Y') := HSYE.out.kept hkF (fun k e f => f (.inl (.inr (.inr (by simp [Value.ownBlock] at e; exact e.symm)))))
    have HSXF : Hid (SlAt wF (.slice (some ⟨gx, 0, none⟩) 128 128) X') := HSXE.out.kept hkF (fun k e f => f (.inl (.inr (.inl (by simp [Value.ownBlock] at e; exact e.symm)))))
    clear hwE hoF hkF HOE HKE HSYE HSXE HCR
    go_wp2_with fail
    refine (one_read C CR HOF.out (I : Int) HII.out HP.out.2.2.2.1.1 HP.out.2.2.2.1.2 X' 0 HP.out.2.2.2.2.1 s7 HE7.out).mono ?_
    rintro e wG ⟨vG, rfl, hvG, hoG, hkG⟩
    have HSZ : Hid (SlAt wG (.slice (some ⟨gx, 0, none⟩) 128 128) X') := HSXF.out.kept hkG (fun k e f => f (by simp [Value.ownBlock] at e; rw [← e]; simp))
    have HVG : Hid (SlAt wG vG X') := SlAt.of_owns hvG.own
    have HOG : Hid (One Di (fun k => k < W.heap.size) wG d s7) := hoG.less (fun k e => .inl (.inl e))
    have HKG : Hid (Kept (fun k => W.heap.size ≤ k) W wG) := HKF.out.trans (hkG.mono (fun k _ e => Nat.le_of_not_lt (fun h => e (.inl h))))
    obtain ⟨aG, cG, rfl, hbG⟩ := OwnBytes.bs hvG.own
    have HLZ : Hid (X'.length = 128) := HZL.out.1
    have HBG : Hid (Bs wG aG cG X') := hbG
    clear hvG hoG hkG hbG HOF HKF HSYF HSXF
    go_wp2_with fail
    refine (same_any wG _ _ X' HVG.out HSZ.out (by rw [HLZ.out]; decide)).mono ?_
    rintro e wH ⟨rfl, nH, rfl⟩
    have HOH := hid_of (HOG.out.draws C nH)
    have HKH : Hid (Kept (fun k => W.heap.size ≤ k) W (wG.drewN nH)) := ⟨HKG.out.os, HKG.out.tape, HKG.out.output, HKG.out.size, HKG.out.block⟩
    have HBH : Hid (Bs (wG.drewN nH) aG cG X') := HBG.out.kept (F := fun _ => False) ⟨rfl, rfl, rfl, Nat.le_refl _, fun _ _ _ => rfl⟩ (fun _ _ _ h => h)
    clear HOG HKG HBG HVG HSZ
    generalize wG.drewN nH = wH at *
    have HCC : Hid (Calls Try.prog 24 #[.slice aG X'.length cG] wH fun e w' => ∃ v, e = .returned v ∧ OwnBytes w' wH.heap.size v X' ∧ Below wH.heap.size wH w') := copyB_any wH _ X' HBH.out.at_ (by rw [HLZ.out]; decide) (fun n c e => by cases e; exact HBH.out.nil rfl)
    go_wp2_with fail
    refine HCC.out.mono ?_
    rintro e wI ⟨vI, rfl, hoI, hbI⟩
    have HVI : Hid (SlAt wI vI X') := SlAt.of_owns hoI
    have hgI : ∀ k, vI.ownBlock = some k → wH.heap.size ≤ k ∧ k < wI.heap.size := fun k e => World.ownsRow.lt hoI k e
    have HOI : Hid (One Di (fun k => k < W.heap.size ∨ vI.ownBlock = some k) wI d s7) := HOH.out.keep C (Kept.of_below hbI) (fun k e => by
      rcases e with e | e
      · exact .inl e
      · exact .inr (hgI k e))
    have HKI : Hid (Kept (fun k => W.heap.size ≤ k) W wI) := HKH.out.trans ((Below.kept0 hbI).mono (fun k _ e => Nat.le_trans HKH.out.size e))
    clear hoI hbI HOH HKH HBH HCC
    go_wp2_with fail
    refine (one_poke C CP HOI.out (I : Int) (D : Int) HII.out HDI.out HP.out.2.2.2.2.2.1 true HP.out.2.2.2.2.2.2.1 s8 HE8.out).mono ?_
    rintro e wJ ⟨rfl, hoJ, hkJ⟩
    have HOJ := hid_of hoJ
    have HVJ : Hid (SlAt wJ vI X') := HVI.out.kept hkJ (fun k e f => f (.inr e))
    have HKJ : Hid (Kept (fun k => W.heap.size ≤ k) W wJ) := HKI.out.trans (hkJ.mono (fun k _ e => Nat.le_of_not_lt (fun h => e (.inl h))))
    clear hoJ hkJ HOI HKI HVI hgI
    go_wp2_with fail
    refine (one_poke C CP HOJ.out (I : Int) (D : Int) HII.out HDI.out HP.out.2.2.2.2.2.2.2.1 true HP.out.2.2.2.2.2.2.2.2.1 s9 HE9.out).mono ?_
    rintro e wK ⟨rfl, hoK, hkK⟩
    have HOK := hid_of hoK
    have HVK : Hid (SlAt wK vI X') := HVJ.out.kept hkK (fun k e f => f (.inr e))
    have HKK : Hid (Kept (fun k => W.heap.size ≤ k) W wK) := HKJ.out.trans (hkK.mono (fun k _ e => Nat.le_of_not_lt (fun h => e (.inl h))))
    clear hoK hkK HOJ HKJ HVJ
    go_wp2_with fail
    refine (one_read C CR HOK.out (I : Int) HII.out HP.out.2.2.2.2.2.2.2.2.2.1.1 HP.out.2.2.2.2.2.2.2.2.2.1.2 X' 0 HP.out.2.2.2.2.2.2.2.2.2.2.1 sA HEA.out).mono ?_
    rintro e wL ⟨vL, rfl, hvL, hoL, hkL⟩
    have HVL : Hid (SlAt wL vL X') := SlAt.of_owns hvL.own
    have HVL2 : Hid (SlAt wL vI X') := HVK.out.kept hkL (fun k e f => f (.inr e))
    have HOL : Hid (One Di (fun k => k < W.heap.size) wL d sA) := hoL.less (fun k e => .inl (.inl e))
    have HKL : Hid (Kept (fun k => W.heap.size ≤ k) W wL) := HKK.out.trans (hkL.mono (fun k _ e => Nat.le_of_not_lt (fun h => e (.inl h))))
    clear hvL hoL hkL HOK HKK HVK
    go_wp2_with fail
    refine (same_any wL _ _ X' HVL.out HVL2.out (by rw [HLZ.out]; decide)).mono ?_
    rintro e wM ⟨rfl, nM, rfl⟩
    have HOM := hid_of (HOL.out.draws C nM)
    have HKM : Hid (Kept (fun k => W.heap.size ≤ k) W (wL.drewN nM)) := ⟨HKL.out.os, HKL.out.tape, HKL.out.output, HKL.out.size, HKL.out.block⟩
    clear HOL HKL HVL HVL2
    generalize wL.drewN nM = wM at *
    go_wp2_with fail
    refine (one_poke C CP HOM.out 4 0 ⟨by decide, by decide⟩ ⟨by decide, by decide⟩ HP.out.2.2.2.2.2.2.2.2.2.2.2.1 false HP.out.2.2.2.2.2.2.2.2.2.2.2.2.1 sA HP.out.2.2.2.2.2.2.2.2.2.2.2.2.2.1).mono ?_
    rintro e wN ⟨rfl, hoN, hkN⟩
    have HON := hid_of hoN
    have HKN : Hid (Kept (fun k => W.heap.size ≤ k) W wN) := HKM.out.trans (hkN.mono (fun k _ e => Nat.le_of_not_lt e))
    clear hoN hkN HOM HKM
    go_wp2_with fail
    refine (one_poke C CP HON.out 0 1024 ⟨by decide, by decide⟩ ⟨by decide, by decide⟩ HP.out.2.2.2.2.2.2.2.2.2.2.2.1 false HP.out.2.2.2.2.2.2.2.2.2.2.2.2.2.2.1 sA HP.out.2.2.2.2.2.2.2.2.2.2.2.2.2.2.2.1).mono ?_
    rintro e wO ⟨rfl, hoO, hkO⟩
    have HOO := hid_of hoO
    have HKO : Hid (Kept (fun k => W.heap.size ≤ k) W wO) := HKN.out.trans (hkO.mono (fun k _ e => Nat.le_of_not_lt e))
    clear hoO hkO HON HKN
    go_wp2_with fail
    refine (one_poke C CP HOO.out (-1) 0 ⟨by decide, by decide⟩ ⟨by decide, by decide⟩ HP.out.2.2.2.2.2.2.2.2.2.2.2.1 false HP.out.2.2.2.2.2.2.2.2.2.2.2.2.2.2.2.2.1 sA HP.out.2.2.2.2.2.2.2.2.2.2.2.2.2.2.2.2.2.1).mono ?_
    rintro e wP ⟨rfl, hoP, hkP⟩
    have HOP := hid_of hoP
    have HKP : Hid (Kept (fun k => W.heap.size ≤ k) W wP) := HKO.out.trans (hkP.mono (fun k _ e => Nat.le_of_not_lt e))
    clear hoP hkP HOO HKO
    go_wp2_with fail
    refine (one_poke C CP HOP.out 0 (-1) ⟨by decide, by decide⟩ ⟨by decide, by decide⟩ HP.out.2.2.2.2.2.2.2.2.2.2.2.1 false HP.out.2.2.2.2.2.2.2.2.2.2.2.2.2.2.2.2.2.2.1 sA HP.out.2.2.2.2.2.2.2.2.2.2.2.2.2.2.2.2.2.2.2).mono ?_
    rintro e wQ ⟨rfl, hoQ, hkQ⟩
    have HKQ : Hid (Kept (fun k => W.heap.size ≤ k) W wQ) := HKP.out.trans (hkQ.mono (fun k _ e => Nat.le_of_not_lt e))
    clear hoQ hkQ HOP HKP
    go_wp2_with fail
    refine (wakes10_any C wQ).mono ?_
    rintro e wR ⟨rfl, hbR⟩
    have HBR : Hid (Below W.heap.size W wR) := (HKQ.out.below_of (Below.refl _ _) (fun k e => e) (Nat.le_refl _)).trans (hbR.mono HKQ.out.size)
    clear hbR
    go_wp2_with fail
    go_ret
    exact ⟨rfl, HBR.out⟩
  -- true
  · obtain ⟨s5, hs5⟩ : ∃ s5, s5 = s4.readS (I : Int) := ⟨_, rfl⟩
    obtain ⟨s6, hs6⟩ : ∃ s6, s6 = s5.crashS [true] := ⟨_, rfl⟩
    obtain ⟨s7, hs7⟩ : ∃ s7, s7 = s6.readS (I : Int) := ⟨_, rfl⟩
    obtain ⟨s8, hs8⟩ : ∃ s8, s8 = s7.pokeS (I : Int) (D : Int) := ⟨_, rfl⟩
    obtain ⟨s9, hs9⟩ : ∃ s9, s9 = s8.pokeS (I : Int) (D : Int) := ⟨_, rfl⟩
    obtain ⟨sA, hsA⟩ : ∃ sA, sA = s9.readS (I : Int) := ⟨_, rfl⟩
    have HP := hid_of (poke_rest (kp := true) HI4.out HD10.out HS4.out.1 HS4.out.2.1 HS4.out.2.2.1 HS4.out.2.2.2.1 HS4.out.2.2.2.2.1 HS4.out.2.2.2.2.2.1 HS4.out.2.2.2.2.2.2 hs5 hs6 hs7 hs8 hs9 hsA)
    have HE5 := hid_of hs5
    have HE6 := hid_of hs6
    have HE7 := hid_of hs7
    have HE8 := hid_of hs8
    have HE9 := hid_of hs9
    have HEA := hid_of hsA
    clear hs5 hs6 hs7 hs8 hs9 hsA
    refine (one_read C CR HOB.out (I : Int) HII.out HP.out.1.1 HP.out.1.2 Y' 0 HP.out.2.1 s5 HE5.out).mono ?_
    rintro e wC ⟨vC, rfl, hvC, hoC, hkC⟩
    have HSY : Hid (SlAt wC (.slice (some ⟨gy, 0, none⟩) 128 128) Y') := HSYB.out.kept hkC (fun k e f => f (.inr (.inr (by simp [Value.ownBlock] at e; exact e.symm))))
    have HSX : Hid (SlAt wC (.slice (some ⟨gx, 0, none⟩) 128 128) X') := HSXB.out.kept hkC (fun k e f => f (.inr (.inl (by simp [Value.ownBlock] at e; exact e.symm))))
    have HVC : Hid (SlAt wC vC Y') := SlAt.of_owns hvC.own
    have HOC : Hid (One Di (fun k => k < W.heap.size ∨ k = gx ∨ k = gy) wC d s5) := hoC.less (fun k e => .inl e)
    have HKC : Hid (Kept (fun k => W.heap.size ≤ k) W wC) := HKB.out.trans (hkC.mono (fun k _ e => Nat.le_of_not_lt (fun h => e (.inl h))))
    clear hvC hoC hkC HOB HKB HSYB HSXB
    go_wp2_with fail
    refine (same_any wC vC _ Y' HVC.out HSY.out HYL.out).mono ?_
    rintro e wD ⟨rfl, nD, rfl⟩
    have HOD := hid_of (HOC.out.draws C nD)
    have HKD : Hid (Kept (fun k => W.heap.size ≤ k) W (wC.drewN nD)) := ⟨HKC.out.os, HKC.out.tape, HKC.out.output, HKC.out.size, HKC.out.block⟩
    have HSYD : Hid (SlAt (wC.drewN nD) (.slice (some ⟨gy, 0, none⟩) 128 128) Y') := HSY.out
    have HSXD : Hid (SlAt (wC.drewN nD) (.slice (some ⟨gx, 0, none⟩) 128 128) X') := HSX.out
    clear HOC HKC HSY HSX HVC
    generalize wC.drewN nD = wD at *
    obtain ⟨wE, hwE⟩ : ∃ wE, wE = wD.alloc (.cells #[.bool true] 4) := ⟨_, rfl⟩
    have hkE : Kept (fun _ => False) wD wE := by rw [hwE]; exact Kept.alloc _ _ _
    have hxE : wE.heap[wD.heap.size]? = some (.cells #[.bool true] 4 (0, 0)) := by rw [hwE]; exact heap_alloc_new wD _
    have HBLE : Hid (BlAt wE (some ⟨wD.heap.size, 0, none⟩) [true]) := fun j u hu => by
      have hj : j = 0 := by
        rcases Nat.eq_zero_or_pos j with e | e
        · exact e
        · rw [List.getElem?_eq_none (by simp; omega)] at hu; cases hu
      subst hj
      cases hu
      exact ⟨wD.heap.size, 0, rfl, by simp [World.cell?, hxE]⟩
    have HOE : Hid (One Di (fun k => (k < W.heap.size ∨ k = gx ∨ k = gy) ∨ k = wD.heap.size) wE d s5) := HOD.out.keep C (hkE.mono (fun _ _ h => h.elim)) (fun k e => by
      rcases e with e | e
      · exact .inl e
      · exact .inr ⟨by omega, by rw [hwE]; simp; omega⟩)
    have HKE : Hid (Kept (fun k => W.heap.size ≤ k) W wE) := HKD.out.trans (hkE.mono (fun _ _ h => h.elim))
    have HSYE := hid_of (HSYD.out.kept hkE (fun _ _ h => h))
    have HSXE := hid_of (HSXD.out.kept hkE (fun _ _ h => h))
    have HCR := hid_of (one_crash C HOE.out (some ⟨wD.heap.size, 0, none⟩) 1 1 [true] rfl HBLE.out (by decide) (fun _ y hy => by cases hy; exact .inr rfl) HP.out.2.2.1 s6 HE6.out)
    clear hkE hxE HOD HKD HSYD HSXD HBLE
    go_wp2_with fail
    rw [← hwE]
    refine HCR.out.mono ?_
    rintro e wF ⟨rfl, hoF, hkF⟩
    have HOF : Hid (One Di (fun k => k < W.heap.size ∨ k = gx ∨ k = gy) wF d s6) := hoF.less (fun k e => .inl e)
    have HKF : Hid (Kept (fun k => W.heap.size ≤ k) W wF) := HKE.out.trans (hkF.mono (fun k _ e => Nat.le_of_not_lt (fun h => e (.inl (.inl h)))))
    have HSYF : Hid (SlAt wF (.slice (some ⟨gy, 0, none⟩) 128 128) Y') := HSYE.out.kept hkF (fun k e f => f (.inl (.inr (.inr (by simp [Value.ownBlock] at e; exact e.symm)))))
    have HSXF : Hid (SlAt wF (.slice (some ⟨gx, 0, none⟩) 128 128) X') := HSXE.out.kept hkF (fun k e f => f (.inl (.inr (.inl (by simp [Value.ownBlock] at e; exact e.symm)))))
    clear hwE hoF hkF HOE HKE HSYE HSXE HCR
    go_wp2_with fail
    refine (one_read C CR HOF.out (I : Int) HII.out HP.out.2.2.2.1.1 HP.out.2.2.2.1.2 Y' 0 HP.out.2.2.2.2.1 s7 HE7.out).mono ?_
    rintro e wG ⟨vG, rfl, hvG, hoG, hkG⟩
    have HSZ : Hid (SlAt wG (.slice (some ⟨gy, 0, none⟩) 128 128) Y') := HSYF.out.kept hkG (fun k e f => f (by simp [Value.ownBlock] at e; rw [← e]; simp))
    have HVG : Hid (SlAt wG vG Y') := SlAt.of_owns hvG.own
    have HOG : Hid (One Di (fun k => k < W.heap.size) wG d s7) := hoG.less (fun k e => .inl (.inl e))
    have HKG : Hid (Kept (fun k => W.heap.size ≤ k) W wG) := HKF.out.trans (hkG.mono (fun k _ e => Nat.le_of_not_lt (fun h => e (.inl h))))
    obtain ⟨aG, cG, rfl, hbG⟩ := OwnBytes.bs hvG.own
    have HLZ : Hid (Y'.length = 128) := HZL.out.2
    have HBG : Hid (Bs wG aG cG Y') := hbG
    clear hvG hoG hkG hbG HOF HKF HSYF HSXF
    go_wp2_with fail
    refine (same_any wG _ _ Y' HVG.out HSZ.out (by rw [HLZ.out]; decide)).mono ?_
    rintro e wH ⟨rfl, nH, rfl⟩
    have HOH := hid_of (HOG.out.draws C nH)
    have HKH : Hid (Kept (fun k => W.heap.size ≤ k) W (wG.drewN nH)) := ⟨HKG.out.os, HKG.out.tape, HKG.out.output, HKG.out.size, HKG.out.block⟩
    have HBH : Hid (Bs (wG.drewN nH) aG cG Y') := HBG.out.kept (F := fun _ => False) ⟨rfl, rfl, rfl, Nat.le_refl _, fun _ _ _ => rfl⟩ (fun _ _ _ h => h)
    clear HOG HKG HBG HVG HSZ
    generalize wG.drewN nH = wH at *
    have HCC : Hid (Calls Try.prog 24 #[.slice aG Y'.length cG] wH fun e w' => ∃ v, e = .returned v ∧ OwnBytes w' wH.heap.size v Y' ∧ Below wH.heap.size wH w') := copyB_any wH _ Y' HBH.out.at_ (by rw [HLZ.out]; decide) (fun n c e => by cases e; exact HBH.out.nil rfl)
    go_wp2_with fail
    refine HCC.out.mono ?_
    rintro e wI ⟨vI, rfl, hoI, hbI⟩
    have HVI : Hid (SlAt wI vI Y') := SlAt.of_owns hoI
    have hgI : ∀ k, vI.ownBlock = some k → wH.heap.size ≤ k ∧ k < wI.heap.size := fun k e => World.ownsRow.lt hoI k e
    have HOI : Hid (One Di (fun k => k < W.heap.size ∨ vI.ownBlock = some k) wI d s7) := HOH.out.keep C (Kept.of_below hbI) (fun k e => by
      rcases e with e | e
      · exact .inl e
      · exact .inr (hgI k e))
    have HKI : Hid (Kept (fun k => W.heap.size ≤ k) W wI) := HKH.out.trans ((Below.kept0 hbI).mono (fun k _ e => Nat.le_trans HKH.out.size e))
    clear hoI hbI HOH HKH HBH HCC
    go_wp2_with fail
    refine (one_poke C CP HOI.out (I : Int) (D : Int) HII.out HDI.out HP.out.2.2.2.2.2.1 true HP.out.2.2.2.2.2.2.1 s8 HE8.out).mono ?_
    rintro e wJ ⟨rfl, hoJ, hkJ⟩
    have HOJ := hid_of hoJ
    have HVJ : Hid (SlAt wJ vI Y') := HVI.out.kept hkJ (fun k e f => f (.inr e))
    have HKJ : Hid (Kept (fun k => W.heap.size ≤ k) W wJ) := HKI.out.trans (hkJ.mono (fun k _ e => Nat.le_of_not_lt (fun h => e (.inl h))))
    clear hoJ hkJ HOI HKI HVI hgI
    go_wp2_with fail
    refine (one_poke C CP HOJ.out (I : Int) (D : Int) HII.out HDI.out HP.out.2.2.2.2.2.2.2.1 true HP.out.2.2.2.2.2.2.2.2.1 s9 HE9.out).mono ?_
    rintro e wK ⟨rfl, hoK, hkK⟩
    have HOK := hid_of hoK
    have HVK : Hid (SlAt wK vI Y') := HVJ.out.kept hkK (fun k e f => f (.inr e))
    have HKK : Hid (Kept (fun k => W.heap.size ≤ k) W wK) := HKJ.out.trans (hkK.mono (fun k _ e => Nat.le_of_not_lt (fun h => e (.inl h))))
    clear hoK hkK HOJ HKJ HVJ
    go_wp2_with fail
    refine (one_read C CR HOK.out (I : Int) HII.out HP.out.2.2.2.2.2.2.2.2.2.1.1 HP.out.2.2.2.2.2.2.2.2.2.1.2 Y' 0 HP.out.2.2.2.2.2.2.2.2.2.2.1 sA HEA.out).mono ?_
    rintro e wL ⟨vL, rfl, hvL, hoL, hkL⟩
    have HVL : Hid (SlAt wL vL Y') := SlAt.of_owns hvL.own
    have HVL2 : Hid (SlAt wL vI Y') := HVK.out.kept hkL (fun k e f => f (.inr e))
    have HOL : Hid (One Di (fun k => k < W.heap.size) wL d sA) := hoL.less (fun k e => .inl (.inl e))
    have HKL : Hid (Kept (fun k => W.heap.size ≤ k) W wL) := HKK.out.trans (hkL.mono (fun k _ e => Nat.le_of_not_lt (fun h => e (.inl h))))
    clear hvL hoL hkL HOK HKK HVK
    go_wp2_with fail
    refine (same_any wL _ _ Y' HVL.out HVL2.out (by rw [HLZ.out]; decide)).mono ?_
    rintro e wM ⟨rfl, nM, rfl⟩
    have HOM := hid_of (HOL.out.draws C nM)
    have HKM : Hid (Kept (fun k => W.heap.size ≤ k) W (wL.drewN nM)) := ⟨HKL.out.os, HKL.out.tape, HKL.out.output, HKL.out.size, HKL.out.block⟩
    clear HOL HKL HVL HVL2
    generalize wL.drewN nM = wM at *
    go_wp2_with fail
    refine (one_poke C CP HOM.out 4 0 ⟨by decide, by decide⟩ ⟨by decide, by decide⟩ HP.out.2.2.2.2.2.2.2.2.2.2.2.1 false HP.out.2.2.2.2.2.2.2.2.2.2.2.2.1 sA HP.out.2.2.2.2.2.2.2.2.2.2.2.2.2.1).mono ?_
    rintro e wN ⟨rfl, hoN, hkN⟩
    have HON := hid_of hoN
    have HKN : Hid (Kept (fun k => W.heap.size ≤ k) W wN) := HKM.out.trans (hkN.mono (fun k _ e => Nat.le_of_not_lt e))
    clear hoN hkN HOM HKM
    go_wp2_with fail
    refine (one_poke C CP HON.out 0 1024 ⟨by decide, by decide⟩ ⟨by decide, by decide⟩ HP.out.2.2.2.2.2.2.2.2.2.2.2.1 false HP.out.2.2.2.2.2.2.2.2.2.2.2.2.2.2.1 sA HP.out.2.2.2.2.2.2.2.2.2.2.2.2.2.2.2.1).mono ?_
    rintro e wO ⟨rfl, hoO, hkO⟩
    have HOO := hid_of hoO
    have HKO : Hid (Kept (fun k => W.heap.size ≤ k) W wO) := HKN.out.trans (hkO.mono (fun k _ e => Nat.le_of_not_lt e))
    clear hoO hkO HON HKN
    go_wp2_with fail
    refine (one_poke C CP HOO.out (-1) 0 ⟨by decide, by decide⟩ ⟨by decide, by decide⟩ HP.out.2.2.2.2.2.2.2.2.2.2.2.1 false HP.out.2.2.2.2.2.2.2.2.2.2.2.2.2.2.2.2.1 sA HP.out.2.2.2.2.2.2.2.2.2.2.2.2.2.2.2.2.2.1).mono ?_
    rintro e wP ⟨rfl, hoP, hkP⟩
    have HOP := hid_of hoP
    have HKP : Hid (Kept (fun k => W.heap.size ≤ k) W wP) := HKO.out.trans (hkP.mono (fun k _ e => Nat.le_of_not_lt e))
    clear hoP hkP HOO HKO
    go_wp2_with fail
    refine (one_poke C CP HOP.out 0 (-1) ⟨by decide, by decide⟩ ⟨by decide, by decide⟩ HP.out.2.2.2.2.2.2.2.2.2.2.2.1 false HP.out.2.2.2.2.2.2.2.2.2.2.2.2.2.2.2.2.2.2.1 sA HP.out.2.2.2.2.2.2.2.2.2.2.2.2.2.2.2.2.2.2.2).mono ?_
    rintro e wQ ⟨rfl, hoQ, hkQ⟩
    have HKQ : Hid (Kept (fun k => W.heap.size ≤ k) W wQ) := HKP.out.trans (hkQ.mono (fun k _ e => Nat.le_of_not_lt e))
    clear hoQ hkQ HOP HKP
    go_wp2_with fail
    refine (wakes10_any C wQ).mono ?_
    rintro e wR ⟨rfl, hbR⟩
    have HBR : Hid (Below W.heap.size W wR) := (HKQ.out.below_of (Below.refl _ _) (fun k e => e) (Nat.le_refl _)).trans (hbR.mono HKQ.out.size)
    clear hbR
    go_wp2_with fail
    go_ret
    exact ⟨rfl, HBR.out⟩

end Go.Proofs.Ytjmeneddhalodaa
