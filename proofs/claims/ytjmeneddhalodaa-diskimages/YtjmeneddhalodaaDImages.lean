/- DiskImages over the bundle. -/
import Derived.Test.YtjmeneddhalodaaPart07
namespace Go.Proofs.Ytjmeneddhalodaa
set_option linter.unusedVariables false
set_option linter.unusedSimpArgs false
open Go.RowKit Dg

/-- 'append(b, make([]byte, m)...)', b nil or a row of the call's own. -/
theorem run_zeros_own (w : World) (base m : Nat) (v : Value) (l : List Nat) (h : OwnBytes w base v l) (hm : l.length + m ≤ 1000000) (hbase : base ≤ w.heap.size) :
    ∃ v' w', (Builtin.append_ #[30, 3] 30 #[v, .int .i64 (m : Int)]).run Try.prog w = .ok v' w' ∧ OwnBytes w' base v' (l ++ List.replicate m 0) ∧ w.grownBy w' v.ownBlock := by
  obtain ⟨i0, hi, hz0, hz1, hz2⟩ := info_parts Try.info5
  rcases h.2 with ⟨rfl, hn⟩ | ⟨g, cap, cur, rfl, -⟩
  · have hl : l = [] := List.eq_nil_of_length_eq_zero hn
    subst hl
    rcases Nat.eq_zero_or_pos m with h0 | h0
    · subst h0
      refine ⟨.slice none 0 0, w, ?_, OwnBytes.nil0 _ _, ⟨rfl, rfl, rfl, Nat.le_refl _, fun _ _ _ => rfl⟩⟩
      have hw : IntKind.i64.wrap 0 = 0 := by decide
      simp [Builtin.append_, run_underlying Try.underlying30, run_underlying Try.underlying3, sizeOf, typeInfo, zeroValue, hi, hz0, hz1, hz2, asInt, asIntOf, Builtin.lenOf, Builtin.firstCells, hw]
    · have hrun := Lib.run_append_nil_zeros (P := Try.prog) w 30 3 30 5 i0 (.int .u8 0) .i64 .i64 Try.underlying30 Try.underlying3 hi hz0 m h0 (by rw [hz1]; decide) (by simp at hm; omega) (by rw [hz2]; simp at hm; omega)
      have hge := grownCap_ge w m 0 5
      have hle := grownCap_le_maxLen w m 0 5 (by simp at hm; unfold maxLen; omega)
      refine ⟨_, _, hrun, ?_, ⟨rfl, rfl, rfl, by simp, fun k hk _ => Below.heap_alloc w.drew _ k hk⟩⟩
      rw [List.nil_append]
      show World.ownsRow _ _ _ _ _ (List.replicate m 0).length _
      rw [List.length_replicate]
      refine ⟨by simp, .inr ⟨w.heap.size, _, _, rfl, hbase, heap_alloc_new w.drew _, hge, hle, ?_, ?_⟩⟩
      · simp [size_zeroCells, Value.cells]; omega
      · rw [Array.toList_append, zeros_u8]
        rw [List.take_append_of_le_length (by simp)]
        exact List.take_of_length_le (by simp)
  · have e : w.ownsRow base 5 1 (.slice (some ⟨g, 0, none⟩) l.length cap) l.length (u8s l) := h
    obtain ⟨g', cap', w', h1, h2, h3⟩ := run_zeros w base g l.length cap m l e hm hbase
    refine ⟨_, w', h1, ?_, h3⟩
    show World.ownsRow _ _ _ _ _ (l ++ List.replicate m 0).length _
    rw [List.length_append, List.length_replicate]
    exact h2
set_option maxRecDepth 100000 in
set_option maxHeartbeats 8000000 in
theorem dimages_any {Di : DiP} (C : Dsk Di) (CFr : DFrom Di) (CFn : DFromNo) (CR : DRead Di) (CF : DFlush Di) (CS : DStop Di) (CP : DPoke Di) (CD : DDead Di) (CL : DLen Di) (CC : DCounts Di)
    (W : World) (a : Option Addr) (len cap : Nat) (zs : List Int) (n : Int) (a1 : Option Addr) (len1 cap1 : Nat) (L1 : List Act1) (hr : IsRow .u8 W a len cap zs) (hn : I64 n) (hl1 : len1 ≤ maxLen) (e1 : L1.length = len1) (k1 : ActsK W W.heap.size a1 L1) :
    Calls Try.prog 7 #[.slice a len cap, .int .i64 n, .slice a1 len1 cap1] W fun e W' => e = .returned (.bool true) ∧ Below W.heap.size W W' := by
  obtain ⟨hn1, hn2⟩ := hn
  unfold maxLen at hl1
  have E1 := hid_of e1
  have K1 := hid_of k1
  obtain ⟨l0, hl0, h256, hsl, hc1, hc2, hc3⟩ := cut_row (n := 200) hr
  have HCC := hid_of (cutCopyB_any W a len cap 200 l0 hsl (by decide) hc1 hc2 hc3)
  have H256 := hid_of h256
  have HL0 := hid_of hl0
  have hlen : len ≤ 9223372036854775807 := by unfold maxLen at hc2; omega
  obtain ⟨m, hm⟩ : ∃ m : Nat, n % 5 = (m : Int) := ⟨(n % 5).toNat, by omega⟩
  have HW := hid_of (within_any n 5 W hn1 hn2 (by decide) (by decide))
  rw [hm] at HW
  have hm5 : m < 5 := by omega
  obtain ⟨M, hM⟩ : ∃ M, M = m * 128 := ⟨_, rfl⟩
  have hMM : (m : Int) * 128 = (M : Int) := by omega
  have hM6 : M ≤ 600 := by omega
  clear e1 k1 hr hl0 h256 hsl hc1 hc2 hc3 hm hM hn1 hn2
  go_enter Try.func7, Try.ntmps7
  go_wp2_with fail
  refine HW.out.mono ?_
  rintro e W' ⟨rfl, rfl⟩
  go_wp2_with fail
  refine HCC.out.mono ?_
  rintro e w1 ⟨v1, rfl, ho1, hb1⟩
  have hl2 : l0.length ≤ 200 := by have := HL0.out; omega
  obtain ⟨v2, w2, hap, ho2, hg2⟩ := run_zeros_own w1 W.heap.size M v1 l0 ho1 (by omega) hb1.size
  have HAP := hid_of hap
  have HB2 : Hid (Below W.heap.size W w2) := hb1.grown hg2 hb1.size (fun k e => (World.ownsRow.lt ho1 k e).1)
  obtain ⟨X0, hX0⟩ : ∃ X0, X0 = l0 ++ List.replicate M 0 := ⟨_, rfl⟩
  rw [← hX0] at ho2
  have HX0 : Hid (X0.length ≤ 800 ∧ ∀ x ∈ X0, x < 256) := by
    rw [hX0]
    refine ⟨by simp; omega, fun x hx => ?_⟩
    rcases List.mem_append.1 hx with h | h
    · exact H256.out x h
    · have := (List.mem_replicate.1 h).2; omega
  obtain ⟨N0, hN0⟩ : ∃ N0, N0 = X0.length := ⟨_, rfl⟩
  obtain ⟨a2, c2, rfl, hbs2⟩ := OwnBytes.bs ho2
  have HLT2 : Hid (∀ y, a2 = some y → y.block < w2.heap.size ∧ W.heap.size ≤ y.block) := fun y hy => by
    have := World.ownsRow.lt ho2 y.block (by rw [hy]; rfl)
    exact ⟨this.2, this.1⟩
  have HBS2 := hid_of hbs2
  rw [← hN0] at HAP
  have hN8 : N0 ≤ 800 := by rw [hN0]; exact HX0.out.1
  have HN0 := hid_of hN0
  have hle2 : N0 ≤ c2 := by rw [hN0]; exact hbs2.le
  clear ho1 hb1 hap hg2 hX0 ho2 hbs2 hN0 HCC HW
  obtain ⟨T, hT⟩ : ∃ T, T = N0 / 128 * 128 := ⟨_, rfl⟩
  have hTT : (N0 : Int) / 128 * 128 = (T : Int) := by omega
  have hTN : T ≤ N0 := by omega
  have HSH := slice_hi a2 N0 c2 T (by omega)
  rcases h3 : ((len : Int) % 3 != 0) with _ | _
  -- all of it
  obtain ⟨n3, hn3⟩ : ∃ n3, n3 = N0 := ⟨_, rfl⟩
  obtain ⟨X, hX⟩ : ∃ X, X = X0 := ⟨_, rfl⟩
  have HX : Hid (X.length = n3 ∧ ∀ x ∈ X, x < 256) := by rw [hX, hn3]; exact ⟨HN0.out.symm, HX0.out.2⟩
  have HBX : Hid (Bs w2 a2 c2 X) := by rw [hX]; exact HBS2.out
  have hn38 : n3 ≤ 800 := by omega
  obtain rfl : n3 = N0 := hn3
  clear hX hT hTT
  rotate_left
  -- whole sectors
  obtain ⟨X, hX⟩ : ∃ X, X = X0.take T := ⟨_, rfl⟩
  have hXl : X.length = T := by rw [hX, List.length_take, ← HN0.out]; omega
  have HX : Hid (X.length = T ∧ ∀ x ∈ X, x < 256) := ⟨hXl, by rw [hX]; exact fun x hx => HX0.out.2 x (List.mem_of_mem_take hx)⟩
  have HBX : Hid (Bs w2 a2 c2 X) := by
    refine ⟨?_, by omega, HBS2.out.nil⟩
    rw [hXl, hX]
    exact HBS2.out.hi T (by rw [← HN0.out]; exact hTN)
  obtain ⟨n3, hn3⟩ : ∃ n3, n3 = T := ⟨_, rfl⟩
  have hn38 : n3 ≤ 800 := by omega
  obtain rfl : n3 = T := hn3
  clear hX hXl hT
  rotate_left
  go_wp2_with (at_builtin; go_must (refine wpList_append_go w1 rfl (.tmp 16) (.tmp 18) 30 3 rfl _ _ rfl rfl _ _ HAP.out ?_))
  all_goals
    clear HAP HN0 HX0 HBS2 h3
    by_cases hd : diskLen n3
    · have hpos : 0 < n3 := by have := hd.2.1; omega
      refine (copyB_whole w2 a2 c2 n3 X HX.out.1 HBX.out hpos (by omega)).mono ?_
      rintro e w3 ⟨v3, rfl, hv3, hk3⟩
      obtain ⟨g3, Y3, rfl, hg3, hr3, ht3, hly, hmy⟩ : ∃ (g : Nat) (Y : List Nat), v3 = .slice (some ⟨g, 0, none⟩) X.length Y.length ∧ w2.heap.size ≤ g ∧ RowIs w3 g (u8s Y) ∧ Y.take X.length = X ∧ X.length ≤ Y.length ∧ Y.length ≤ maxLen := by
        rcases hv3 with ⟨_, e⟩ | h
        · exfalso
          have := HX.out.1
          rw [e] at this
          simp at this
          omega
        · exact h
      obtain ⟨c3, hc3⟩ : ∃ c3, c3 = Y3.length := ⟨_, rfl⟩
      have HV3 : Hid (WholeB w3 w2.heap.size (.slice (some ⟨g3, 0, none⟩) n3 c3) X) := by
        have e := hv3
        rw [HX.out.1, ← hc3] at e
        exact e
      have HBS3 : Hid (Bs w3 (some ⟨g3, 0, none⟩) c3 X) := by
        have e := HV3.out.own
        obtain ⟨a', c', e2, hb⟩ := OwnBytes.bs e
        cases e2
        exact hb
      have HBX3 := hid_of (HBX.out.kept hk3 (fun _ _ _ h => h))
      have HB3 : Hid (Below W.heap.size W w3) := hk3.below_of HB2.out (fun _ h => h.elim) HB2.out.size
      have hs23 : w2.heap.size ≤ w3.heap.size := hk3.size
      have hg3l : g3 < w3.heap.size := (World.ownsRow.lt HV3.out.own g3 rfl).2
      rw [HX.out.1, ← hc3]
      clear hv3 hk3 hr3 ht3 hly hmy hc3
      have HC := hid_of (CFr w3 (some ⟨g3, 0, none⟩) n3 c3 X HX.out.1 HBS3.out HX.out.2 hd)
      go_wp2_with fail
      refine HC.out.mono ?_
      rintro e w4 ⟨d, F, G, rfl, hd4, hG4, hb4⟩
      have HD4 := hid_of hd4
      have HG4 : Hid (∀ k, G k → w3.heap.size ≤ k) := hG4
      have HA4 := hid_of (C.arms hd4)
      have HBX4 := hid_of (HBX3.out.kept (F := fun _ => False) (Kept.of_below hb4) (fun _ _ _ h => h))
      have HB4 := hid_of hb4
      have HV4 := hid_of (HV3.out.kept (F := fun _ => False) (Kept.of_below hb4) (fun _ _ h => h))
      clear hd4 hG4 hb4 HC HBX3 HBS3
      have HC5 : Hid (Calls Try.prog 32 #[.slice a2 n3 c2] w4 fun e w' => ∃ (r : Nat) (F G : Nat → Prop), e = .returned (.tuple #[.pointer (some ⟨r, 0, none⟩), .bool true]) ∧ RkAt w' r F G (fromS X) ∧ (∀ k, G k → w4.heap.size ≤ k) ∧ Below w4.heap.size w4 w') := by
        have e := rdfrom_any w4 a2 c2 X HBX4.out HX.out.2 (by rw [HX.out.1]; exact hd)
        rw [HX.out.1] at e
        exact e
      go_wp2_with fail
      refine HC5.out.mono ?_
      rintro e w5 ⟨r, F2, G2, rfl, hr5, hG5, hb5⟩
      have HD5 := hid_of (C.grow HD4.out hb5)
      have HR5 := hid_of hr5
      have HG5 : Hid (∀ k, G2 k → w4.heap.size ≤ k) := hG5
      have HV5 := hid_of (HV4.out.kept (F := fun _ => False) (Kept.of_below hb5) (fun _ _ h => h))
      have HBX5 := hid_of (HBX4.out.kept (F := fun _ => False) (Kept.of_below hb5) (fun _ _ _ h => h))
      have hs34 : w3.heap.size ≤ w4.heap.size := HB4.out.size
      have hs45 : w4.heap.size ≤ w5.heap.size := hb5.size
      have HB5 : Hid (Below W.heap.size W w5) := (HB3.out.trans (HB4.out.mono HB3.out.size)).trans (hb5.mono (by have := HB3.out.size; omega))
      clear hr5 hG5 hb5 HC5
      have HSP := hid_of (spoil_whole w5 _ _ X HV5.out)
      go_wp2_with fail
      refine HSP.out.mono ?_
      rintro e w6 ⟨rfl, hk6⟩
      have hk6' : Kept (fun k => k = g3) w5 w6 := hk6.mono (fun k _ e => by simp [Value.ownBlock] at e; exact e.symm)
      have HD6 := hid_of (C.keep HD5.out hk6' (fun k g e => by have := HG4.out k g; omega))
      have HR6 := hid_of (HR5.out.keep hk6' (fun k g e => by have := HG5.out k g; omega))
      have hs02 : W.heap.size ≤ w2.heap.size := HB2.out.size
      have HB6 : Hid (Below W.heap.size W w6) := hk6'.below_of HB5.out (fun k e => by omega) HB5.out.size
      have HBX6 := hid_of (HBX5.out.kept hk6' (fun hne k e f => by
        cases ha : a2 with
        | none => rw [ha] at e; cases e
        | some y =>
          rw [ha] at e
          simp [Value.ownBlock] at e
          have := (HLT2.out y ha).1
          omega))
      have hs56 : w5.heap.size ≤ w6.heap.size := hk6'.size
      clear hk6 hk6' HSP HV5
      go_wp2_with fail
      refine (C.imageB w6 d F G (fromS X) HD6.out).mono ?_
      rintro e w7 ⟨v7, rfl, ho7, hd7, hk7⟩
      have HD7 := hid_of hd7
      have HR7 := hid_of (HR6.out.keep hk7 (fun _ _ h => h))
      have HS7 : Hid (SlAt w7 v7 X) := SlAt.of_owns ho7
      have HSX7 : Hid (SlAt w7 (.slice a2 n3 c2) X) := by
        have e := (HBX6.out.kept hk7 (fun _ _ _ h => h)).at_
        rw [HX.out.1] at e
        exact e
      have HB7 : Hid (Below W.heap.size W w7) := hk7.below_of HB6.out (fun _ h => h.elim) HB6.out.size
      have hs67 : w6.heap.size ≤ w7.heap.size := hk7.size
      clear ho7 hd7 hk7
      go_wp2_with fail
      refine (same_any w7 v7 _ X HS7.out HSX7.out (by have := HX.out.1; omega)).mono ?_
      rintro e w8 ⟨rfl, n8, hw8⟩
      have HD8 : Hid (Di w8 d F G (fromS X)) := by show Di _ _ _ _ _; rw [hw8]; exact C.draws HD7.out n8
      have hk8 : Kept (fun _ => False) w7 w8 := by rw [hw8]; exact ⟨rfl, rfl, rfl, Nat.le_refl _, fun _ _ _ => rfl⟩
      have HR8 := hid_of (HR7.out.keep hk8 (fun _ _ h => h))
      have HB8 : Hid (Below W.heap.size W w8) := hk8.below_of HB7.out (fun _ h => h.elim) HB7.out.size
      have hs78 : w7.heap.size ≤ w8.heap.size := hk8.size
      clear hw8 hk8
      have HP := hid_of (play_any C CR CF CS CP CD CL CC w8 d r F G F2 G2 (fromS X) HD8.out HR8.out (fun k f g => by have := HA4.out.2.2 k (HA4.out.2.1 k f); have := HG5.out k g; omega) (fun k f g => by have := HA4.out.2.2 k g; have := HG5.out k (HR5.out.arms.2.2.1 k f); omega) W.heap.size HB8.out.size (fun k g => by have := HG4.out k g; omega) (fun k g => by have := HG5.out k g; omega) a1 len1 cap1 L1 E1.out (by omega) (K1.out.kept (Nat.le_refl _) (Below.kept0 HB8.out) (fun k e f => by omega)) 0 (by decide) (fromS_used X))
      go_wp2_with fail
      refine HP.out.mono ?_
      rintro e w9 ⟨rfl, s9, ht9, hu9⟩
      obtain ⟨F7, G7, F8, G8, -, -, -, -, -, hk9, -⟩ := ht9
      have HB9 : Hid (Below W.heap.size W w9) := hk9.below_of HB8.out (fun k e => by
        rcases e with e | e
        · have := HG4.out k (HA4.out.2.1 k e); omega
        · have := HG5.out k (HR5.out.arms.2.2.1 k e); omega) HB8.out.size
      clear hk9 hu9 HP
      go_wp2_with fail
      refine (wakes10_any C w9).mono ?_
      rintro e wA ⟨rfl, hbA⟩
      have HBA : Hid (Below W.heap.size W wA) := HB9.out.trans (hbA.mono HB9.out.size)
      clear hbA
      go_wp2_with fail
      go_ret
      exact ⟨rfl, HBA.out⟩
    · have HCP : Hid (Calls Try.prog 24 #[.slice a2 n3 c2] w2 fun e w' => ∃ v, e = .returned v ∧ OwnBytes w' w2.heap.size v X ∧ Below w2.heap.size w2 w') := copyB_any w2 _ X (by have e := HBX.out.at_; rw [HX.out.1] at e; exact e) (by have := HX.out.1; omega) (fun n' c' e => by cases e; exact HBX.out.nil rfl)
      refine HCP.out.mono ?_
      rintro e w3 ⟨v3, rfl, ho3, hb3⟩
      obtain ⟨a3, c3, rfl, hbs3⟩ := OwnBytes.bs ho3
      have HB3 : Hid (Below W.heap.size W w3) := HB2.out.trans (hb3.mono HB2.out.size)
      have HCN : Hid (Calls Try.prog 31 #[.slice a3 n3 c3] w3 fun e w' => e = .returned (.tuple #[.pointer none, .int .i64 1]) ∧ Kept (fun _ => False) w3 w') := CFn w3 a3 n3 c3 X HX.out.1 hbs3 (by omega) hd
      have HRN : Hid (∀ w' : World, Calls Try.prog 32 #[.slice a2 n3 c2] w' fun e w'' => e = .returned (.tuple #[.pointer none, .bool false]) ∧ w' = w'') := fun w' => by
        have e := rdfrom_no w' a2 c2 X (by have := HX.out.1; omega) (by rw [HX.out.1]; exact hd)
        rw [HX.out.1] at e
        exact e
      rw [HX.out.1]
      clear ho3 hb3 hbs3 HCP hd
      go_wp2_with fail
      refine HCN.out.mono ?_
      rintro e w4 ⟨rfl, hk4⟩
      have HB4 : Hid (Below W.heap.size W w4) := hk4.below_of HB3.out (fun _ h => h.elim) HB3.out.size
      clear hk4
      go_wp2_with fail
      refine (HRN.out w4).mono ?_
      rintro e w4' ⟨rfl, rfl⟩
      go_wp2_with fail
      refine (wakes10_any C w4).mono ?_
      rintro e wA ⟨rfl, hbA⟩
      have HBA : Hid (Below W.heap.size W wA) := HB4.out.trans (hbA.mono HB4.out.size)
      clear hbA
      go_wp2_with fail
      go_ret
      exact ⟨rfl, HBA.out⟩

end Go.Proofs.Ytjmeneddhalodaa
