/- DiskStops over the bundle. -/
import Derived.Test.YtjmeneddhalodaaPart11
namespace Go.Proofs.Ytjmeneddhalodaa
set_option linter.unusedVariables false
set_option linter.unusedSimpArgs false
open Go.RowKit Dg

/-- Behind i writes of a disk of three sectors that stops behind A. -/
structure StI (A i : Nat) (s : Sk) : Prop where
  bl : s.B.length = 384
  stop : s.stop = some (A - i)
  dead : s.dead = decide (A < i)
  wl : s.W.length = min i A
  wr : s.writes ≤ i
  rd : s.reads = 0
  fl : s.flushes = 0
theorem StI.first (A : Nat) : StI A 0 ((newS 3).stopS (A : Int)) where
  bl := by show (List.replicate (3 * 128) 0).length = 384; rw [List.length_replicate]
  stop := by show some ((A : Int).toNat) = some (A - 0); rw [Int.toNat_natCast]; rfl
  dead := by show false = decide (A < 0); simp
  wl := by show 0 = min 0 A; omega
  wr := Nat.le_refl 0
  rd := rfl
  fl := rfl
theorem StI.arm {A i : Nat} {s : Sk} (h : StI A i s) : s.arm.dead = decide (A ≤ i) := by
  unfold Sk.arm
  rw [h.stop]
  by_cases e : A ≤ i
  · rw [if_pos (by rw [Nat.sub_eq_zero_of_le e]), decide_eq_true e]
  · rw [if_neg (by simp; omega), h.dead, decide_eq_false e, decide_eq_false (by omega)]
theorem StI.fits {A i : Nat} {s : Sk} (h : StI A i s) {k : Nat} (hk : k < 3) : s.fits (k : Int) := ⟨by omega, by rw [h.bl]; omega⟩
theorem StI.write {A i : Nat} {s : Sk} (h : StI A i s) {k : Nat} (hk : k < 3) {l : List Nat} (hl : l.length = 128) : s.writeR (k : Int) l = (if A ≤ i then 9 else 0) ∧ StI A (i + 1) (s.writeS (k : Int) l) ∧ (s.writeS (k : Int) l).dead = decide (A ≤ i) := by
  have hno : ¬ (¬ s.fits (k : Int) ∨ l.length ≠ 128) := fun e => by rcases e with e | e; exact e (h.fits hk); exact e hl
  have ha := h.arm
  unfold Sk.writeR Sk.writeS
  rw [if_neg hno, if_neg hno, ha]
  by_cases e : A ≤ i
  · simp only [e, decide_true, if_true]
    refine ⟨trivial, ⟨by rw [s.arm_B]; exact h.bl, by rw [s.arm_stop, h.stop, Nat.sub_eq_zero_of_le e, Nat.sub_eq_zero_of_le (by omega)], by rw [ha, decide_eq_true e, decide_eq_true (by omega)], by rw [s.arm_W, h.wl]; omega, by rw [s.arm_counts.2.1]; have := h.wr; omega, by rw [s.arm_counts.1]; exact h.rd, by rw [s.arm_counts.2.2]; exact h.fl⟩, by rw [ha]; exact decide_eq_true e⟩
  · simp only [e, decide_false, if_false, Bool.false_eq_true]
    refine ⟨trivial, ⟨by show s.arm.B.length = _; rw [s.arm_B]; exact h.bl, ?_, ?_, ?_, ?_, by show s.arm.reads = _; rw [s.arm_counts.1]; exact h.rd, by show s.arm.flushes = _; rw [s.arm_counts.2.2]; exact h.fl⟩, by show s.arm.dead = _; rw [ha]; exact decide_eq_false e⟩
    · show s.stop.map (· - 1) = _
      rw [h.stop]
      show some (A - i - 1) = _
      rw [Nat.sub_sub]
    · show s.arm.dead = _
      rw [ha, decide_eq_false e, decide_eq_false (by omega)]
    · show (s.W ++ [(_, l)]).length = _
      rw [List.length_append, h.wl]
      show min i A + 1 = _
      omega
    · show s.writes + 1 ≤ _
      have := h.wr; omega
theorem StI.read {A i : Nat} {s : Sk} (h : StI A i s) : ∃ R, (R, if A < i then (9 : Int) else 0) = s.readR 0 := by
  have hf : s.fits (0 : Int) := h.fits (k := 0) (by decide)
  unfold Sk.readR
  rw [h.dead]
  by_cases e : A < i
  · simp only [hf, e, not_true, decide_true, if_true, if_false]; exact ⟨_, rfl⟩
  · simp only [hf, e, not_true, decide_false, if_false, Bool.false_eq_true]; exact ⟨_, rfl⟩
theorem StI.read2 {A i : Nat} {s : Sk} (h : StI A i s) : ∃ r, s.readS 0 = { s with reads := r } ∧ r ≤ 1 := by
  unfold Sk.readS
  split
  · exact ⟨_, rfl, by rw [h.rd]; decide⟩
  · exact ⟨s.reads, rfl, by rw [h.rd]; decide⟩
theorem StI.flush {A i r : Nat} {s : Sk} (h : StI A i s) (hfi : s.Fine) (hr : r ≤ 1) : ({ s with reads := r } : Sk).flushR = (if A ≤ i then 9 else 0) ∧ (({ s with reads := r } : Sk).flushS.W.length = if A ≤ i then A else 0) ∧ ({ s with reads := r } : Sk).flushS.reads ≤ 1 ∧ ({ s with reads := r } : Sk).flushS.writes ≤ i ∧ ({ s with reads := r } : Sk).flushS.flushes ≤ 1 ∧ ({ s with reads := r } : Sk).flushS.B.length = 384 := by
  have ha : ({ s with reads := r } : Sk).arm.dead = decide (A ≤ i) := by rw [← h.arm]; unfold Sk.arm; split <;> rfl
  have h1 := ({ s with reads := r } : Sk).arm_counts
  unfold Sk.flushR Sk.flushS
  rw [ha]
  by_cases e : A ≤ i
  · simp only [e, decide_true, if_true]
    refine ⟨trivial, ?_, ?_, ?_, ?_, by rw [Sk.arm_B]; exact h.bl⟩
    · rw [Sk.arm_W]; show s.W.length = A; rw [h.wl]; omega
    · rw [h1.1]; exact hr
    · rw [h1.2.1]; exact h.wr
    · rw [h1.2.2]; show s.flushes ≤ 1; rw [h.fl]; decide
  · simp only [e, decide_false, if_false, Bool.false_eq_true]
    refine ⟨trivial, rfl, ?_, ?_, ?_, ((keepTo_fine (s := { s with reads := r }) ⟨hfi.n, hfi.b256, hfi.w⟩ (fun _ => true) s.W.length (Nat.le_refl _)).1).trans h.bl⟩
    · show ({ s with reads := r } : Sk).arm.reads ≤ 1; rw [h1.1]; exact hr
    · show ({ s with reads := r } : Sk).arm.writes ≤ i; rw [h1.2.1]; exact h.wr
    · show s.flushes + 1 ≤ 1; rw [h.fl]; decide
set_option maxRecDepth 100000 in
set_option maxHeartbeats 8000000 in
theorem dstops_any {Di : DiP} (C : Dsk Di) (CR : DRead Di) (CF : DFlush Di) (CS : DStop Di) (CD : DDead Di) (W : World) (at_ n : Int) (a : Option Addr) (len cap : Nat) (K : List Bool) (hat : I64 at_) (hn : I64 n) (hKl : K.length = len) (hK : BlAt W a K) (hc1 : len ≤ cap) (hc2 : cap ≤ maxLen) :
    Calls Try.prog 3 #[.int .i64 at_, .int .i64 n, .slice a len cap] W fun e W' => e = .returned (.bool true) ∧ Below W.heap.size W W' := by
  obtain ⟨i0, hi, hz0, hz1, hz2⟩ := info_parts Try.info5
  obtain ⟨ha1, ha2⟩ := hat
  obtain ⟨hn1, hn2⟩ := hn
  unfold maxLen at hc2
  obtain ⟨A, hA⟩ : ∃ A : Nat, at_ % 8 = (A : Int) := ⟨(at_ % 8).toNat, by omega⟩
  obtain ⟨N, hN⟩ : ∃ N : Nat, n % 12 = (N : Int) := ⟨(n % 12).toNat, by omega⟩
  have HW1 := hid_of (within_any at_ 8 W ha1 ha2 (by decide) (by decide))
  have HW2 := hid_of (within_any n 12 W hn1 hn2 (by decide) (by decide))
  rw [hA] at HW1
  rw [hN] at HW2
  have hA8 : A < 8 := by omega
  have hN12 : N < 12 := by omega
  have HKL := hid_of hKl
  have HKB := hid_of hK
  obtain ⟨s0, hs0⟩ : ∃ s0, s0 = newS 3 := ⟨_, rfl⟩
  have HS0 := hid_of hs0
  clear hA hN ha1 ha2 hn1 hn2 hK hKl hs0
  go_enter Try.func3, Try.ntmps3
  go_wp2_with (first
    | (go_at_call_of 9 (Value.int IntKind.i64 at_); refine HW1.out.mono ?_; rintro e W' ⟨rfl, rfl⟩)
    | (go_at_call_of 9 (Value.int IntKind.i64 n); refine HW2.out.mono ?_; rintro e W' ⟨rfl, rfl⟩))
  refine (one_new C W 3 (by decide) (by decide)).mono ?_
  rintro e w1 ⟨d, rfl, ho1, hb1⟩
  rw [← HS0.out] at ho1
  have HO1 := hid_of ho1
  have HK1 : Hid (Kept (fun k => W.heap.size ≤ k) W w1) := Below.kept0 hb1
  clear ho1 hb1
  go_wp2_with fail
  refine (one_stop C CS HO1.out (A : Int) ⟨by omega, by omega⟩).mono ?_
  rintro e w2 ⟨rfl, ho2, hk2⟩
  have HI2 : Hid (StI A 0 (s0.stopS (A : Int))) := by rw [HS0.out]; exact StI.first A
  have HO2 := hid_of ho2
  have HK2 : Hid (Kept (fun k => W.heap.size ≤ k) W w2) := HK1.out.trans (hk2.mono (fun k _ e => Nat.le_of_not_lt e))
  clear ho2 hk2 HK1 HO1
  go_wp2_with fail
  go_loopw [9] (fun v ws => ∃ (i : Nat) (s : Sk), i ≤ N ∧ v = .int .i64 (i : Int) ∧ Hid (StI A i s) ∧ Hid (One Di (fun k => k < W.heap.size) ws d s) ∧ Hid (Kept (fun k => W.heap.size ≤ k) W ws)) (fun v _ => N - (intOf v).toNat)
  case atStart => exact ⟨0, _, Nat.zero_le _, rfl, HI2, HO2, HK2⟩
  case round =>
    obtain ⟨i, s, hiN, rfl, hI, hO, hK⟩ := hrel
    by_cases hiN' : i < N
    · obtain ⟨k, hk⟩ : ∃ k, k = i % 3 := ⟨_, rfl⟩
      have hk3 : k < 3 := by omega
      have hki : (i : Int) % 3 = (k : Int) := by omega
      obtain ⟨c, hc⟩ : ∃ c, c = i + 1 := ⟨_, rfl⟩
      have hci : (i : Int) + 1 = (c : Int) := by omega
      have hc256 : c < 256 := by omega
      clear hk hc
      rcases (by omega : i < A ∨ A ≤ i) with hai | hai
      · have hb1 : decide (A ≤ i) = false := decide_eq_false (by omega)
        have HWR : Hid ((0 : Int) = s.writeR (k : Int) (fullL [c]) ∧ StI A (i + 1) (s.writeS (k : Int) (fullL [c])) ∧ false = (s.writeS (k : Int) (fullL [c])).dead) := by
          obtain ⟨h1, h2, h3⟩ := hI.out.write hk3 (length_fullL [c])
          exact ⟨by rw [h1, if_neg (by omega)], h2, by rw [h3, hb1]⟩
        have HUS : Hid (s.writes ≤ 1000000 ∧ s.W.length ≤ 100000) := ⟨by have := hI.out.wr; omega, by rw [hI.out.wl]; omega⟩
        have HO3' : Hid (One Di (fun k => k < W.heap.size) (wr.alloc (.cells #[.int .u8 (c : Int)] 5)) d s) := hO.out.keep C (Kept.alloc _ _ _) (fun k e => .inl e)
        have HL3' : Hid (Bs (wr.alloc (.cells #[.int .u8 (c : Int)] 5)) (some ⟨wr.heap.size, 0, none⟩) 1 [c]) := lit_one wr c
        have HF3 := hid_of (one_full C HO3'.out (some ⟨wr.heap.size, 0, none⟩) 1 1 [c] rfl HL3'.out)
        have HK3' : Hid (Kept (fun k => W.heap.size ≤ k) W (wr.alloc (.cells #[.int .u8 (c : Int)] 5))) := hK.out.trans (Kept.alloc _ _ _)
        clear hai
        go_wp2_with fail
        refine HF3.out.mono ?_
        rintro e w4 ⟨g4, rfl, hb4, -, ho4, hbl4, hg4, hg4'⟩
        have HK4 : Hid (Kept (fun k => W.heap.size ≤ k) W w4) := HK3'.out.trans ((Below.kept0 hbl4).mono (fun k _ e => Nat.le_trans HK3'.out.size e))
        have HCW := hid_of (one_write C ho4 (k : Int) ⟨by omega, by omega⟩ g4 128 128 (fullL [c]) (length_fullL [c]) hb4 (fullL_lt (fun x hx => by rw [List.mem_singleton.1 hx]; exact hc256)) (by decide) (.inr rfl) HUS.out.1 HUS.out.2 0 HWR.out.1 _ rfl)
        clear hb4 ho4 hbl4 HF3 HL3' HO3'
        go_wp2_with fail
        refine HCW.out.mono ?_
        rintro e w5 ⟨rfl, ho5, hk5⟩
        have HO5 : Hid (One Di (fun k => k < W.heap.size) w5 d (s.writeS (k : Int) (fullL [c]))) := ho5.less (fun k e => .inl e)
        have HK5 : Hid (Kept (fun k => W.heap.size ≤ k) W w5) := HK4.out.trans (hk5.mono (fun k _ e => Nat.le_of_not_lt (fun h => e (.inl h))))
        clear ho5 hk5 HCW
        go_wp2_with fail
        refine (one_dead C CD HO5.out false HWR.out.2.2).mono ?_
        rintro e w6 ⟨rfl, n6, rfl⟩
        have HO6 := hid_of (HO5.out.draws C n6)
        have HK6 : Hid (Kept (fun k => W.heap.size ≤ k) W (w5.drewN n6)) := ⟨HK5.out.os, HK5.out.tape, HK5.out.output, HK5.out.size, HK5.out.block⟩
        go_wp2_with fail
        refine ⟨?_, by (simp [intOf]) <;> omega⟩
        first
          | exact ⟨i + 1, _, by omega, by go_num, HWR.out.2.1, HO6, HK6⟩
          | ((repeat apply Exists.intro); refine ⟨?_, rfl⟩; exact ⟨i + 1, _, by omega, by go_num, HWR.out.2.1, HO6, HK6⟩)
      · have hb1 : decide (A ≤ i) = true := decide_eq_true hai
        have HWR : Hid ((9 : Int) = s.writeR (k : Int) (fullL [c]) ∧ StI A (i + 1) (s.writeS (k : Int) (fullL [c])) ∧ true = (s.writeS (k : Int) (fullL [c])).dead) := by
          obtain ⟨h1, h2, h3⟩ := hI.out.write hk3 (length_fullL [c])
          exact ⟨by rw [h1, if_pos hai], h2, by rw [h3, hb1]⟩
        have HUS : Hid (s.writes ≤ 1000000 ∧ s.W.length ≤ 100000) := ⟨by have := hI.out.wr; omega, by rw [hI.out.wl]; omega⟩
        have HO3' : Hid (One Di (fun k => k < W.heap.size) (wr.alloc (.cells #[.int .u8 (c : Int)] 5)) d s) := hO.out.keep C (Kept.alloc _ _ _) (fun k e => .inl e)
        have HL3' : Hid (Bs (wr.alloc (.cells #[.int .u8 (c : Int)] 5)) (some ⟨wr.heap.size, 0, none⟩) 1 [c]) := lit_one wr c
        have HF3 := hid_of (one_full C HO3'.out (some ⟨wr.heap.size, 0, none⟩) 1 1 [c] rfl HL3'.out)
        have HK3' : Hid (Kept (fun k => W.heap.size ≤ k) W (wr.alloc (.cells #[.int .u8 (c : Int)] 5))) := hK.out.trans (Kept.alloc _ _ _)
        clear hai
        go_wp2_with fail
        refine HF3.out.mono ?_
        rintro e w4 ⟨g4, rfl, hb4, -, ho4, hbl4, hg4, hg4'⟩
        have HK4 : Hid (Kept (fun k => W.heap.size ≤ k) W w4) := HK3'.out.trans ((Below.kept0 hbl4).mono (fun k _ e => Nat.le_trans HK3'.out.size e))
        have HCW := hid_of (one_write C ho4 (k : Int) ⟨by omega, by omega⟩ g4 128 128 (fullL [c]) (length_fullL [c]) hb4 (fullL_lt (fun x hx => by rw [List.mem_singleton.1 hx]; exact hc256)) (by decide) (.inr rfl) HUS.out.1 HUS.out.2 9 HWR.out.1 _ rfl)
        clear hb4 ho4 hbl4 HF3 HL3' HO3'
        go_wp2_with fail
        refine HCW.out.mono ?_
        rintro e w5 ⟨rfl, ho5, hk5⟩
        have HO5 : Hid (One Di (fun k => k < W.heap.size) w5 d (s.writeS (k : Int) (fullL [c]))) := ho5.less (fun k e => .inl e)
        have HK5 : Hid (Kept (fun k => W.heap.size ≤ k) W w5) := HK4.out.trans (hk5.mono (fun k _ e => Nat.le_of_not_lt (fun h => e (.inl h))))
        clear ho5 hk5 HCW
        go_wp2_with fail
        refine (one_dead C CD HO5.out true HWR.out.2.2).mono ?_
        rintro e w6 ⟨rfl, n6, rfl⟩
        have HO6 := hid_of (HO5.out.draws C n6)
        have HK6 : Hid (Kept (fun k => W.heap.size ≤ k) W (w5.drewN n6)) := ⟨HK5.out.os, HK5.out.tape, HK5.out.output, HK5.out.size, HK5.out.block⟩
        go_wp2_with fail
        refine ⟨?_, by (simp [intOf]) <;> omega⟩
        first
          | exact ⟨i + 1, _, by omega, by go_num, HWR.out.2.1, HO6, HK6⟩
          | ((repeat apply Exists.intro); refine ⟨?_, rfl⟩; exact ⟨i + 1, _, by omega, by go_num, HWR.out.2.1, HO6, HK6⟩)
    · obtain rfl : i = N := by omega
      have hfi := hO.out.fine C
      obtain ⟨R1, hR1⟩ := hI.out.read
      obtain ⟨r, hr, hr1⟩ := hI.out.read2
      obtain ⟨s2, hs2⟩ : ∃ s2, s2 = s.readS 0 := ⟨_, rfl⟩
      obtain ⟨s3, hs3⟩ : ∃ s3, s3 = s2.flushS := ⟨_, rfl⟩
      obtain ⟨ml, hml⟩ : ∃ ml, ml = min len 12 := ⟨_, rfl⟩
      obtain ⟨K2, hK2⟩ : ∃ K2, K2 = K.take 12 := ⟨_, rfl⟩
      obtain ⟨s4, hs4⟩ : ∃ s4, s4 = s3.crashS K2 := ⟨_, rfl⟩
      obtain ⟨s5, hs5⟩ : ∃ s5, s5 = s4.readS 0 := ⟨_, rfl⟩
      obtain ⟨s6, hs6⟩ : ∃ s6, s6 = s5.writeS 1 (fullL []) := ⟨_, rfl⟩
      have HK2L : Hid (K2.length = ml) := by show _ = _; rw [hK2, hml, List.length_take, HKL.out]; omega
      have HK2B : Hid (BlAt W a K2) := by rw [hK2]; exact HKB.out.take 12
      have HK2X : Hid (K2 ≠ [] → ∀ y, a = some y → y.block < W.heap.size) := fun hne y hy => HKB.out.lt (fun e => hne (by rw [hK2, e]; rfl)) y hy
      have HML : Hid (ml ≤ 1000000) := by show _ ≤ _; omega
      have HMLE := hid_of hml
      have HS2E := hid_of hs2
      have HS3E := hid_of hs3
      have HS4E := hid_of hs4
      have HS5E := hid_of hs5
      have HS6E := hid_of hs6
      rw [hr] at hs2
      have HFF := hid_of (hI.out.flush hfi hr1)
      have hf3 : s3.Fine := by rw [hs3]; exact Sk.flushS_fine (by rw [hs2]; exact ⟨hfi.n, hfi.b256, hfi.w⟩)
      have hB3 : s3.B.length = 384 := by rw [hs3, hs2]; exact HFF.out.2.2.2.2.2
      have hc3 : s3.reads ≤ 1 ∧ s3.writes ≤ i ∧ s3.flushes ≤ 1 := by rw [hs3, hs2]; exact ⟨HFF.out.2.2.1, HFF.out.2.2.2.1, HFF.out.2.2.2.2.1⟩
      have hl4 := crash_live hf3 K2
      rw [← hs4] at hl4
      obtain ⟨l1, l2, l3, l4, l5, l6, l7⟩ := hl4
      have hB4 : 0 * 128 + 128 ≤ s4.B.length := by omega
      have hr4 := live_read l1 hB4
      have HL4 : Hid (s4.dead = false ∧ s4.stop = none ∧ s4.reads ≤ 1000000 ∧ s4.W.length ≤ 100000 ∧ (s4.now 0, (0 : Int)) = s4.readR 0) := ⟨l1, l2, by omega, by rw [l3]; decide, hr4.1⟩
      have hs5' : s5 = { s4 with reads := s4.reads + 1 } := by rw [hs5]; exact hr4.2
      have m1 : s5.dead = false := by rw [hs5']; exact l1
      have m2 : s5.stop = none := by rw [hs5']; exact l2
      have m3 : 1 * 128 + 128 ≤ s5.B.length := by rw [hs5']; show _ ≤ s4.B.length; omega
      have m4 : s5.W = [] := by rw [hs5']; exact l3
      have m5 : s5.writes ≤ 11 ∧ s5.flushes ≤ 1 := by rw [hs5']; show s4.writes ≤ 11 ∧ s4.flushes ≤ 1; omega
      have hw5 := live_write m1 m2 m3 (length_fullL [])
      have HL5 : Hid (false = s5.dead ∧ s5.writes ≤ 1000000 ∧ s5.W.length ≤ 100000 ∧ (0 : Int) = s5.writeR 1 (fullL [])) := ⟨m1.symm, by omega, by rw [m4]; decide, hw5.1.symm⟩
      have hs6' : s6 = { s5 with W := s5.W ++ [(1, fullL [])], writes := s5.writes + 1 } := by rw [hs6]; exact hw5.2
      have HL6 : Hid (s6.flushes ≤ 1000000 ∧ s6.W.length ≤ 100000 ∧ (0 : Int) = s6.flushR) := by
        refine ⟨by rw [hs6']; show s5.flushes ≤ _; omega, by rw [hs6']; show (s5.W ++ [(1, fullL [])]).length ≤ _; rw [m4]; exact Nat.succ_le_of_lt (Nat.zero_lt_succ _), ?_⟩
        exact (live_flush (s := s6) (by rw [hs6']; exact m1) (by rw [hs6']; exact m2)).symm
      have HUS : Hid (s.reads ≤ 1000000 ∧ s.W.length ≤ 100000) := ⟨by rw [hI.out.rd]; decide, by rw [hI.out.wl]; omega⟩
      have HUS2 : Hid (s2.flushes ≤ 1000000 ∧ s2.W.length ≤ 100000) := by rw [hs2]; exact ⟨by show s.flushes ≤ _; rw [hI.out.fl]; decide, by show s.W.length ≤ _; rw [hI.out.wl]; omega⟩
      have HUS3 : Hid (s3.W.length ≤ 100000) := by
        show _ ≤ _
        rw [hs3, hs2, HFF.out.2.1]
        split <;> omega
      have HLEN : Hid (len ≤ 9223372036854775807) := by show _ ≤ _; omega
      clear hr hr1 hml hK2 hs4 hs5 hs6 hfi hf3 hB3 hc3 l1 l2 l3 l4 l5 l6 l7 hB4 hr4 hs5' m1 m2 m3 m4 m5 hw5 hs6'
      rcases (by omega : i < A ∨ i = A ∨ A < i) with hai | hai | hai
      · have hb1 : decide (A < i) = false := decide_eq_false (by omega)
        have hb2 : decide (i < A) = true := decide_eq_true (by omega)
        have hb3 : decide (A ≤ i) = false := decide_eq_false (by omega)
        have HRE : Hid ((R1, (0 : Int)) = s.readR 0) := by show _ = _; rw [← hR1, if_neg (by omega)]
        have HFL : Hid ((0 : Int) = s2.flushR ∧ 0 = s3.W.length) := by
          rw [hs3, hs2]
          exact ⟨by rw [HFF.out.1, if_neg (by omega)], by rw [HFF.out.2.1, if_neg (by omega)]⟩
        clear hR1 hs2 hs3
        go_wp2_with fail
        refine (one_read C CR hO.out 0 ⟨by decide, by decide⟩ HUS.out.1 HUS.out.2 R1 0 HRE.out s2 HS2E.out).mono ?_
        rintro e w2 ⟨v2, rfl, -, ho2, hk2⟩
        have HO2' : Hid (One Di (fun k => k < W.heap.size) w2 d s2) := ho2.less (fun k e => .inl e)
        have HK2' : Hid (Kept (fun k => W.heap.size ≤ k) W w2) := hK.out.trans (hk2.mono (fun k _ e => Nat.le_of_not_lt e))
        clear ho2 hk2
        go_wp2_with fail
        refine (one_flush C CF HO2'.out HUS2.out.1 HUS2.out.2 0 HFL.out.1 s3 HS3E.out).mono ?_
        rintro e w3 ⟨rfl, ho3, hk3⟩
        have HO3' := hid_of ho3
        have HK3' : Hid (Kept (fun k => W.heap.size ≤ k) W w3) := HK2'.out.trans (hk3.mono (fun k _ e => Nat.le_of_not_lt e))
        clear ho3 hk3
        go_wp2_with fail
        refine (one_wait C HO3'.out (0) HFL.out.2).mono ?_
        rintro e w4 ⟨rfl, n4, rfl⟩
        have HO4 := hid_of (HO3'.out.draws C n4)
        have HK4 : Hid (Kept (fun k => W.heap.size ≤ k) W (w3.drewN n4)) := ⟨HK3'.out.os, HK3'.out.tape, HK3'.out.output, HK3'.out.size, HK3'.out.block⟩
        clear HO3' HK3' HO2' HK2'
        go_wp2_with fail
        refine (cutBool_any (w3.drewN n4) a len cap 12 hc1 HLEN.out (by decide) ml HMLE.out).mono ?_
        rintro e w5 ⟨rfl, rfl⟩
        go_wp2_with fail
        have HBK : Hid (BlAt (w3.drewN n4) a K2) := HK2B.out.kept HK4.out (fun hne y hy e => Nat.lt_irrefl _ (Nat.lt_of_lt_of_le (HK2X.out hne y hy) e))
        have HCR := hid_of (one_crash C HO4.out a ml cap K2 HK2L.out HBK.out HML.out HK2X.out HUS3.out s4 HS4E.out)
        refine HCR.out.mono ?_
        rintro e w6 ⟨rfl, ho6, hk6⟩
        have HO6 := hid_of ho6
        have HK6 : Hid (Kept (fun k => W.heap.size ≤ k) W w6) := HK4.out.trans (hk6.mono (fun k _ e => Nat.le_of_not_lt e))
        clear ho6 hk6 HO4 HK4
        go_wp2_with fail
        refine (one_read C CR HO6.out 0 ⟨by decide, by decide⟩ HL4.out.2.2.1 HL4.out.2.2.2.1 (s4.now 0) 0 HL4.out.2.2.2.2 s5 HS5E.out).mono ?_
        rintro e w7 ⟨v7, rfl, -, ho7, hk7⟩
        have HO7 : Hid (One Di (fun k => k < W.heap.size) w7 d s5) := ho7.less (fun k e => .inl e)
        have HK7 : Hid (Kept (fun k => W.heap.size ≤ k) W w7) := HK6.out.trans (hk7.mono (fun k _ e => Nat.le_of_not_lt e))
        clear ho7 hk7 HO6 HK6
        go_wp2_with fail
        refine (one_dead C CD HO7.out false HL5.out.1).mono ?_
        rintro e w8 ⟨rfl, n8, rfl⟩
        have HO8 := hid_of (HO7.out.draws C n8)
        have HK8 : Hid (Kept (fun k => W.heap.size ≤ k) W (w7.drewN n8)) := ⟨HK7.out.os, HK7.out.tape, HK7.out.output, HK7.out.size, HK7.out.block⟩
        clear HO7 HK7
        go_wp2_with fail
        refine (one_full C HO8.out none 0 0 [] rfl ⟨SlAt.none_of _ _ _ rfl, Nat.le_refl _, fun _ => rfl⟩).mono ?_
        rintro e w9 ⟨g9, rfl, hb9, -, ho9, hbl9, hg9, -⟩
        have HK9 : Hid (Kept (fun k => W.heap.size ≤ k) W w9) := HK8.out.trans ((Below.kept0 hbl9).mono (fun k _ e => Nat.le_trans HK8.out.size e))
        have HCW := hid_of (one_write C ho9 1 ⟨by decide, by decide⟩ g9 128 128 (fullL []) (length_fullL []) hb9 (fullL_lt (fun x hx => by cases hx)) (by decide) (.inr rfl) HL5.out.2.1 HL5.out.2.2.1 0 HL5.out.2.2.2 s6 HS6E.out)
        clear hb9 ho9 hbl9 HO8 HK8
        go_wp2_with fail
        refine HCW.out.mono ?_
        rintro e wA ⟨rfl, hoA, hkA⟩
        have HOA : Hid (One Di (fun k => k < W.heap.size) wA d s6) := hoA.less (fun k e => .inl e)
        have HKA : Hid (Kept (fun k => W.heap.size ≤ k) W wA) := HK9.out.trans (hkA.mono (fun k _ e => Nat.le_of_not_lt (fun h => e (.inl h))))
        clear hoA hkA HCW HK9
        go_wp2_with fail
        refine (one_flush C CF HOA.out HL6.out.1 HL6.out.2.1 0 HL6.out.2.2 _ rfl).mono ?_
        rintro e wB ⟨rfl, hoB, hkB⟩
        have HKB : Hid (Kept (fun k => W.heap.size ≤ k) W wB) := HKA.out.trans (hkB.mono (fun k _ e => Nat.le_of_not_lt e))
        clear hoB hkB HOA HKA
        go_wp2_with fail
        refine (wakes10_any C wB).mono ?_
        rintro e wC ⟨rfl, hbC⟩
        have HBC : Hid (Below W.heap.size W wC) := (HKB.out.below_of (Below.refl _ _) (fun k e => e) (Nat.le_refl _)).trans (hbC.mono HKB.out.size)
        clear hbC
        go_wp2_with fail
        go_ret
        exact ⟨rfl, HBC.out⟩
      · have hb1 : decide (A < i) = false := decide_eq_false (by omega)
        have hb2 : decide (i < A) = false := decide_eq_false (by omega)
        have hb3 : decide (A ≤ i) = true := decide_eq_true (by omega)
        have HRE : Hid ((R1, (0 : Int)) = s.readR 0) := by show _ = _; rw [← hR1, if_neg (by omega)]
        have HFL : Hid ((9 : Int) = s2.flushR ∧ A = s3.W.length) := by
          rw [hs3, hs2]
          exact ⟨by rw [HFF.out.1, if_pos (by omega)], by rw [HFF.out.2.1, if_pos (by omega)]⟩
        clear hR1 hs2 hs3
        go_wp2_with fail
        refine (one_read C CR hO.out 0 ⟨by decide, by decide⟩ HUS.out.1 HUS.out.2 R1 0 HRE.out s2 HS2E.out).mono ?_
        rintro e w2 ⟨v2, rfl, -, ho2, hk2⟩
        have HO2' : Hid (One Di (fun k => k < W.heap.size) w2 d s2) := ho2.less (fun k e => .inl e)
        have HK2' : Hid (Kept (fun k => W.heap.size ≤ k) W w2) := hK.out.trans (hk2.mono (fun k _ e => Nat.le_of_not_lt e))
        clear ho2 hk2
        go_wp2_with fail
        refine (one_flush C CF HO2'.out HUS2.out.1 HUS2.out.2 9 HFL.out.1 s3 HS3E.out).mono ?_
        rintro e w3 ⟨rfl, ho3, hk3⟩
        have HO3' := hid_of ho3
        have HK3' : Hid (Kept (fun k => W.heap.size ≤ k) W w3) := HK2'.out.trans (hk3.mono (fun k _ e => Nat.le_of_not_lt e))
        clear ho3 hk3
        go_wp2_with fail
        refine (one_wait C HO3'.out (A) HFL.out.2).mono ?_
        rintro e w4 ⟨rfl, n4, rfl⟩
        have HO4 := hid_of (HO3'.out.draws C n4)
        have HK4 : Hid (Kept (fun k => W.heap.size ≤ k) W (w3.drewN n4)) := ⟨HK3'.out.os, HK3'.out.tape, HK3'.out.output, HK3'.out.size, HK3'.out.block⟩
        clear HO3' HK3' HO2' HK2'
        go_wp2_with fail
        refine (cutBool_any (w3.drewN n4) a len cap 12 hc1 HLEN.out (by decide) ml HMLE.out).mono ?_
        rintro e w5 ⟨rfl, rfl⟩
        go_wp2_with fail
        have HBK : Hid (BlAt (w3.drewN n4) a K2) := HK2B.out.kept HK4.out (fun hne y hy e => Nat.lt_irrefl _ (Nat.lt_of_lt_of_le (HK2X.out hne y hy) e))
        have HCR := hid_of (one_crash C HO4.out a ml cap K2 HK2L.out HBK.out HML.out HK2X.out HUS3.out s4 HS4E.out)
        refine HCR.out.mono ?_
        rintro e w6 ⟨rfl, ho6, hk6⟩
        have HO6 := hid_of ho6
        have HK6 : Hid (Kept (fun k => W.heap.size ≤ k) W w6) := HK4.out.trans (hk6.mono (fun k _ e => Nat.le_of_not_lt e))
        clear ho6 hk6 HO4 HK4
        go_wp2_with fail
        refine (one_read C CR HO6.out 0 ⟨by decide, by decide⟩ HL4.out.2.2.1 HL4.out.2.2.2.1 (s4.now 0) 0 HL4.out.2.2.2.2 s5 HS5E.out).mono ?_
        rintro e w7 ⟨v7, rfl, -, ho7, hk7⟩
        have HO7 : Hid (One Di (fun k => k < W.heap.size) w7 d s5) := ho7.less (fun k e => .inl e)
        have HK7 : Hid (Kept (fun k => W.heap.size ≤ k) W w7) := HK6.out.trans (hk7.mono (fun k _ e => Nat.le_of_not_lt e))
        clear ho7 hk7 HO6 HK6
        go_wp2_with fail
        refine (one_dead C CD HO7.out false HL5.out.1).mono ?_
        rintro e w8 ⟨rfl, n8, rfl⟩
        have HO8 := hid_of (HO7.out.draws C n8)
        have HK8 : Hid (Kept (fun k => W.heap.size ≤ k) W (w7.drewN n8)) := ⟨HK7.out.os, HK7.out.tape, HK7.out.output, HK7.out.size, HK7.out.block⟩
        clear HO7 HK7
        go_wp2_with fail
        refine (one_full C HO8.out none 0 0 [] rfl ⟨SlAt.none_of _ _ _ rfl, Nat.le_refl _, fun _ => rfl⟩).mono ?_
        rintro e w9 ⟨g9, rfl, hb9, -, ho9, hbl9, hg9, -⟩
        have HK9 : Hid (Kept (fun k => W.heap.size ≤ k) W w9) := HK8.out.trans ((Below.kept0 hbl9).mono (fun k _ e => Nat.le_trans HK8.out.size e))
        have HCW := hid_of (one_write C ho9 1 ⟨by decide, by decide⟩ g9 128 128 (fullL []) (length_fullL []) hb9 (fullL_lt (fun x hx => by cases hx)) (by decide) (.inr rfl) HL5.out.2.1 HL5.out.2.2.1 0 HL5.out.2.2.2 s6 HS6E.out)
        clear hb9 ho9 hbl9 HO8 HK8
        go_wp2_with fail
        refine HCW.out.mono ?_
        rintro e wA ⟨rfl, hoA, hkA⟩
        have HOA : Hid (One Di (fun k => k < W.heap.size) wA d s6) := hoA.less (fun k e => .inl e)
        have HKA : Hid (Kept (fun k => W.heap.size ≤ k) W wA) := HK9.out.trans (hkA.mono (fun k _ e => Nat.le_of_not_lt (fun h => e (.inl h))))
        clear hoA hkA HCW HK9
        go_wp2_with fail
        refine (one_flush C CF HOA.out HL6.out.1 HL6.out.2.1 0 HL6.out.2.2 _ rfl).mono ?_
        rintro e wB ⟨rfl, hoB, hkB⟩
        have HKB : Hid (Kept (fun k => W.heap.size ≤ k) W wB) := HKA.out.trans (hkB.mono (fun k _ e => Nat.le_of_not_lt e))
        clear hoB hkB HOA HKA
        go_wp2_with fail
        refine (wakes10_any C wB).mono ?_
        rintro e wC ⟨rfl, hbC⟩
        have HBC : Hid (Below W.heap.size W wC) := (HKB.out.below_of (Below.refl _ _) (fun k e => e) (Nat.le_refl _)).trans (hbC.mono HKB.out.size)
        clear hbC
        go_wp2_with fail
        go_ret
        exact ⟨rfl, HBC.out⟩
      · have hb1 : decide (A < i) = true := decide_eq_true (by omega)
        have hb2 : decide (i < A) = false := decide_eq_false (by omega)
        have hb3 : decide (A ≤ i) = true := decide_eq_true (by omega)
        have HRE : Hid ((R1, (9 : Int)) = s.readR 0) := by show _ = _; rw [← hR1, if_pos (by omega)]
        have HFL : Hid ((9 : Int) = s2.flushR ∧ A = s3.W.length) := by
          rw [hs3, hs2]
          exact ⟨by rw [HFF.out.1, if_pos (by omega)], by rw [HFF.out.2.1, if_pos (by omega)]⟩
        clear hR1 hs2 hs3
        go_wp2_with fail
        refine (one_read C CR hO.out 0 ⟨by decide, by decide⟩ HUS.out.1 HUS.out.2 R1 9 HRE.out s2 HS2E.out).mono ?_
        rintro e w2 ⟨v2, rfl, -, ho2, hk2⟩
        have HO2' : Hid (One Di (fun k => k < W.heap.size) w2 d s2) := ho2.less (fun k e => .inl e)
        have HK2' : Hid (Kept (fun k => W.heap.size ≤ k) W w2) := hK.out.trans (hk2.mono (fun k _ e => Nat.le_of_not_lt e))
        clear ho2 hk2
        go_wp2_with fail
        refine (one_flush C CF HO2'.out HUS2.out.1 HUS2.out.2 9 HFL.out.1 s3 HS3E.out).mono ?_
        rintro e w3 ⟨rfl, ho3, hk3⟩
        have HO3' := hid_of ho3
        have HK3' : Hid (Kept (fun k => W.heap.size ≤ k) W w3) := HK2'.out.trans (hk3.mono (fun k _ e => Nat.le_of_not_lt e))
        clear ho3 hk3
        go_wp2_with fail
        refine (one_wait C HO3'.out (A) HFL.out.2).mono ?_
        rintro e w4 ⟨rfl, n4, rfl⟩
        have HO4 := hid_of (HO3'.out.draws C n4)
        have HK4 : Hid (Kept (fun k => W.heap.size ≤ k) W (w3.drewN n4)) := ⟨HK3'.out.os, HK3'.out.tape, HK3'.out.output, HK3'.out.size, HK3'.out.block⟩
        clear HO3' HK3' HO2' HK2'
        go_wp2_with fail
        refine (cutBool_any (w3.drewN n4) a len cap 12 hc1 HLEN.out (by decide) ml HMLE.out).mono ?_
        rintro e w5 ⟨rfl, rfl⟩
        go_wp2_with fail
        have HBK : Hid (BlAt (w3.drewN n4) a K2) := HK2B.out.kept HK4.out (fun hne y hy e => Nat.lt_irrefl _ (Nat.lt_of_lt_of_le (HK2X.out hne y hy) e))
        have HCR := hid_of (one_crash C HO4.out a ml cap K2 HK2L.out HBK.out HML.out HK2X.out HUS3.out s4 HS4E.out)
        refine HCR.out.mono ?_
        rintro e w6 ⟨rfl, ho6, hk6⟩
        have HO6 := hid_of ho6
        have HK6 : Hid (Kept (fun k => W.heap.size ≤ k) W w6) := HK4.out.trans (hk6.mono (fun k _ e => Nat.le_of_not_lt e))
        clear ho6 hk6 HO4 HK4
        go_wp2_with fail
        refine (one_read C CR HO6.out 0 ⟨by decide, by decide⟩ HL4.out.2.2.1 HL4.out.2.2.2.1 (s4.now 0) 0 HL4.out.2.2.2.2 s5 HS5E.out).mono ?_
        rintro e w7 ⟨v7, rfl, -, ho7, hk7⟩
        have HO7 : Hid (One Di (fun k => k < W.heap.size) w7 d s5) := ho7.less (fun k e => .inl e)
        have HK7 : Hid (Kept (fun k => W.heap.size ≤ k) W w7) := HK6.out.trans (hk7.mono (fun k _ e => Nat.le_of_not_lt e))
        clear ho7 hk7 HO6 HK6
        go_wp2_with fail
        refine (one_dead C CD HO7.out false HL5.out.1).mono ?_
        rintro e w8 ⟨rfl, n8, rfl⟩
        have HO8 := hid_of (HO7.out.draws C n8)
        have HK8 : Hid (Kept (fun k => W.heap.size ≤ k) W (w7.drewN n8)) := ⟨HK7.out.os, HK7.out.tape, HK7.out.output, HK7.out.size, HK7.out.block⟩
        clear HO7 HK7
        go_wp2_with fail
        refine (one_full C HO8.out none 0 0 [] rfl ⟨SlAt.none_of _ _ _ rfl, Nat.le_refl _, fun _ => rfl⟩).mono ?_
        rintro e w9 ⟨g9, rfl, hb9, -, ho9, hbl9, hg9, -⟩
        have HK9 : Hid (Kept (fun k => W.heap.size ≤ k) W w9) := HK8.out.trans ((Below.kept0 hbl9).mono (fun k _ e => Nat.le_trans HK8.out.size e))
        have HCW := hid_of (one_write C ho9 1 ⟨by decide, by decide⟩ g9 128 128 (fullL []) (length_fullL []) hb9 (fullL_lt (fun x hx => by cases hx)) (by decide) (.inr rfl) HL5.out.2.1 HL5.out.2.2.1 0 HL5.out.2.2.2 s6 HS6E.out)
        clear hb9 ho9 hbl9 HO8 HK8
        go_wp2_with fail
        refine HCW.out.mono ?_
        rintro e wA ⟨rfl, hoA, hkA⟩
        have HOA : Hid (One Di (fun k => k < W.heap.size) wA d s6) := hoA.less (fun k e => .inl e)
        have HKA : Hid (Kept (fun k => W.heap.size ≤ k) W wA) := HK9.out.trans (hkA.mono (fun k _ e => Nat.le_of_not_lt (fun h => e (.inl h))))
        clear hoA hkA HCW HK9
        go_wp2_with fail
        refine (one_flush C CF HOA.out HL6.out.1 HL6.out.2.1 0 HL6.out.2.2 _ rfl).mono ?_
        rintro e wB ⟨rfl, hoB, hkB⟩
        have HKB : Hid (Kept (fun k => W.heap.size ≤ k) W wB) := HKA.out.trans (hkB.mono (fun k _ e => Nat.le_of_not_lt e))
        clear hoB hkB HOA HKA
        go_wp2_with fail
        refine (wakes10_any C wB).mono ?_
        rintro e wC ⟨rfl, hbC⟩
        have HBC : Hid (Below W.heap.size W wC) := (HKB.out.below_of (Below.refl _ _) (fun k e => e) (Nat.le_refl _)).trans (hbC.mono HKB.out.size)
        clear hbC
        go_wp2_with fail
        go_ret
        exact ⟨rfl, HBC.out⟩

end Go.Proofs.Ytjmeneddhalodaa
