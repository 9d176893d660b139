/- BitsWrites: the walk of the law. -/
import Derived.Test.YtkloocfceghddaaRef7
namespace Go.Proofs.Ytkloocfceghddaa
set_option linter.unusedVariables false
set_option linter.unusedSimpArgs false
open Go.RowKit Dg

theorem spoil_at (w : World) (g : Nat) (l : List Nat) (hrow : RowIs w g (u8s l)) (hsm : l.length ≤ 1000000) :
    Calls Try.prog 25 #[.slice (some ⟨g, 0, none⟩) l.length l.length] w fun e w' => e = .returned (.tuple #[]) ∧ Kept (fun k => k = g) w w' := by
  have := spoil_any w g (u8s l) hrow (fun u hu => by simp [u8s] at hu; obtain ⟨x, _, rfl⟩ := hu; exact ⟨_, rfl⟩) (by simpa using hsm)
  rwa [length_u8s] at this

/-- What the loop keeps: a writer and the document's digits, the same ones. -/
structure WroteAt (w wr : World) (b : Nat) (rv v : Value) (ds : List Bool) : Prop where
  wt : WrAt wr b rv ds
  bt : BtAt wr v ds
  ap : ∀ i, v.ownBlock = some i → ¬ Wf b rv i
  bel : Below w.heap.size w wr

theorem WroteAt.below {w W0 W1 : World} {b : Nat} {rv v : Value} {ds : List Bool} (h : WroteAt w W0 b rv v ds) (hb : Below W0.heap.size W0 W1) (hs : w.heap.size ≤ W0.heap.size) : WroteAt w W1 b rv v ds :=
  ⟨h.wt.below hb, h.bt.below hb, h.ap, h.bel.trans (hb.mono hs)⟩

/-- Some digits more, on both sides. -/
theorem WroteAt.next {w W0 w2 w3 : World} {b : Nat} {rv v v' : Value} {ds ds' : List Bool} (h : WroteAt w W0 b rv v ds) (hown : w2.ownsRow W0.heap.size 5 1 v' ds'.length (u8s (bn ds'))) (hb2 : Below W0.heap.size W0 w2)
    (hwr : Wrote w2 w3 b rv ds') (hbw : w.heap.size ≤ b) : ∃ rv', WroteAt w w3 b rv' v' ds' ∧ b < w3.heap.size := by
  obtain ⟨rv3, hw3, hk3, hn3⟩ := hwr
  have hfoot := h.wt.foot
  have hblk := hown.lt
  refine ⟨rv3, ⟨hw3, (BtAt.of_owns hown).kept hk3 (fun k hk hf => ?_), fun i hi hf => ?_, hk3.below_of (h.bel.trans (hb2.mono ?_)) (fun k hk => ?_) ?_⟩, hw3.lt⟩
  · have := (hblk k hk).1; have := (hfoot k hf).2; omega
  · have h1 := hblk i hi
    rcases hf with rfl | hf
    · have := h.wt.lt; omega
    · rcases hn3 i hf with h2 | h2
      · have := (hfoot i (Or.inr h2)).2; omega
      · omega
  · have := h.wt.lt; omega
  · have := (hfoot k hk).1; omega
  · have := h.wt.lt; have := hb2.size; omega

set_option maxRecDepth 100000 in
set_option maxHeartbeats 8000000 in
theorem writes_any (w : World) (a : Option Addr) (len cap : Nat) (f : Nat → Int × Int × Int) (hlen : len ≤ maxLen) (hf : ActsAt w a len f) :
    Calls Try.prog 6 #[.slice a len cap] w fun e w' => e = .returned (.bool true) ∧ Below w.heap.size w w' := by
  unfold maxLen at hlen
  have HF : Hid (ActsAt w a len f) := hf
  clear hf
  go_enter Try.func6, Try.ntmps6
  go_wp2_with fail
  refine (newWriter_any _).mono ?_
  rintro e w1 ⟨rfl, hwa1, hb1, hs1⟩
  obtain ⟨b, hb⟩ : ∃ b, b = w.heap.size := ⟨_, rfl⟩
  rw [← hb] at hwa1 hs1 ⊢
  have HSB : Hid (b = w.heap.size) := hb
  have HA1 : Hid (WroteAt w w1 b (.slice none 0 0) (.slice none 0 0) []) := ⟨hwa1, Or.inl ⟨rfl, rfl⟩, fun i hi => by simp [Value.ownBlock] at hi, hb ▸ hb1⟩
  clear hwa1 hb1 hb
  go_wp2_with fail
  go_loopw [4, 5] (fun v i wr => ∃ (j : Nat) (ds : List Bool) (rv : Value), j ≤ len ∧ j ≤ 30 ∧ i = .int .i64 j ∧ b < wr.heap.size ∧ Hid (ds.length ≤ j * 71) ∧ Hid (WroteAt w wr b rv v ds)) (fun _ i _ => 30 - (intOf i).toNat)
  case atStart => exact ⟨0, [], _, Nat.zero_le _, Nat.zero_le _, rfl, hs1, Nat.zero_le _, HA1.out⟩
  case round =>
    obtain ⟨j, ds, rv, hj, hj30, rfl, hbr, hdl, hwt⟩ := hrel
    by_cases hlt : j < len ∧ j < 30
    · obtain ⟨hjl, hj3⟩ := hlt
      obtain ⟨c, off, rfl, hcl, h0, h1, h2, i0, i1, i2⟩ := HF.out.below hwt.out.bel j hjl
      obtain ⟨t, ht⟩ : ∃ t, t = f j := ⟨_, rfl⟩
      rw [← ht] at h0 h1 h2 i0 i1 i2
      have I0 : Hid (I64 t.1) := i0
      have I1 : Hid (I64 t.2.1) := i1
      have I2 : Hid (I64 t.2.2) := i2
      clear ht i0 i1 i2
      obtain ⟨D, V, N⟩ := t
      simp only at h0 h1 h2
      have HWT0 : Hid (WroteAt w (wr.alloc (.cells #[.int .i64 D, .int .i64 V, .int .i64 N] 43)) b rv u4 ds) := hwt.out.below ((Below.refl _ _).alloc (Nat.le_refl _) _) (by have := HSB.out; omega)
      obtain ⟨W0, hW0⟩ : ∃ W0, W0 = wr.alloc (.cells #[.int .i64 D, .int .i64 V, .int .i64 N] 43) := ⟨_, rfl⟩
      obtain ⟨p, hp⟩ : ∃ p, p = wr.heap.size := ⟨_, rfl⟩
      have hcV : W0.cell? ⟨p, 1, none⟩ = some (.int .i64 V) := by rw [hW0, hp]; simp
      have hcD : W0.cell? ⟨p, 0, none⟩ = some (.int .i64 D) := by rw [hW0, hp]; simp
      have hcN : W0.cell? ⟨p, 2, none⟩ = some (.int .i64 N) := by rw [hW0, hp]; simp
      have hp0 : p < W0.heap.size := by rw [hW0, hp]; simp
      have hb0 : b < W0.heap.size := by rw [hW0]; simp; omega
      rw [← hW0] at HWT0
      have HWW : Hid (wr.alloc (.cells #[.int .i64 D, .int .i64 V, .int .i64 N] 43) = W0) := hW0.symm
      have HP : Hid (wr.heap.size = p) := hp.symm
      clear hW0 hp hwt
      have hc3 : (70 < N ∧ N ≤ 1024) ∨ N ≤ 70 ∨ (70 < N ∧ 1024 < N) := by omega
      rcases hc3 with ⟨hN1, hN2⟩ | hN1 | ⟨hN1, hN2⟩
      · go_wp2_with fail
        rw [HWW.out, HP.out]
        clear h0 h1 h2
        refine (within_nat N 70 _ I2.out.1 I2.out.2 (by decide) (by decide) _ rfl).mono ?_
        rintro e w' ⟨M, rfl, hM, -, rfl⟩
        go_wp2_with fail
        refine (within_nat D 3 _ I0.out.1 I0.out.2 (by decide) (by decide) _ rfl).mono ?_
        rintro e w' ⟨d3, rfl, hd3, -, rfl⟩
        have hdlt : ds.length ≤ 2130 := by have := hdl.out; omega
        by_cases hd : d3 = 2
        · subst hd
          by_cases hbad : (M : Int) < 0 ∨ 1024 < (M : Int)
          · obtain ⟨a5, c5, hf5⟩ := HWT0.out.bt.form
            subst hf5
            go_wp2_with (first
              | (go_at_call 22; refine (rones_wbad _ _ _ hbad).mono ?_; rintro e w2 ⟨rfl, rfl⟩)
              | (go_at_call 20; refine (ones_bad _ _ _ hbad).mono ?_; rintro e w2 ⟨rfl, rfl⟩)
              | (go_at_call 18; refine (len_any _ _ rv ds HWT0.out.wt).mono ?_; rintro e w2 ⟨rfl, rfl⟩))
            go_roundw
            case rel => first | exact ⟨j + 1, ds, rv, by omega, by omega, by go_num, hb0, by show _ ≤ _; have := hdl.out; omega, HWT0.out⟩ | ((repeat apply Exists.intro); refine ⟨?_, rfl⟩; exact ⟨j + 1, ds, rv, by omega, by omega, by go_num, hb0, by show _ ≤ _; have := hdl.out; omega, HWT0.out⟩)
            case measure => simp [intOf]; omega
          · obtain ⟨K, hK⟩ : ∃ K : Nat, K = M := ⟨_, rfl⟩
            have hK70 : K ≤ 70 := by omega
            obtain ⟨ds5, hds5⟩ : ∃ ds5, ds5 = ds ++ (List.replicate K true ++ [false]) := ⟨_, rfl⟩
            have HDS5 : Hid (ds5 = ds ++ (List.replicate K true ++ [false])) := hds5
            have HDL5 : Hid (ds5.length ≤ (j + 1) * 71) := by show _ ≤ _; rw [hds5]; simp; have := hdl.out; omega
            clear hds5
            subst hK
            go_wp2_with fail
            refine (rones_wany W0 u4 ds K HWT0.out.bt (by omega) (by omega)).mono ?_
            rintro e w2 ⟨v2, rfl, hown2, hb2⟩
            rw [← HDS5.out] at hown2
            obtain ⟨a5, c5, hf5⟩ := (BtAt.of_owns hown2).form
            subst hf5
            have HO2 : Hid (w2.ownsRow W0.heap.size 5 1 (.slice a5 ds5.length c5) ds5.length (u8s (bn ds5))) := hown2
            have HB2 : Hid (Below W0.heap.size W0 w2) := hb2
            clear hown2 hb2
            go_wp2_with fail
            refine (ones_any w2 b rv ds K (HWT0.out.wt.below HB2.out) (by omega) (by omega)).mono ?_
            rw [← HDS5.out]
            rintro e w3 ⟨rfl, hwr3⟩
            obtain ⟨rv5, hwt5, hb5⟩ := HWT0.out.next HO2.out HB2.out hwr3 (by have := HSB.out; omega)
            have HWT5 : Hid (WroteAt w w3 b rv5 (.slice a5 ds5.length c5) ds5) := hwt5
            clear hwr3 hwt5
            go_wp2_with (go_at_call 18; refine (len_any _ _ rv5 ds5 HWT5.out.wt).mono ?_; rintro e w4 ⟨rfl, rfl⟩)
            go_roundw
            case rel => first | exact ⟨j + 1, ds5, rv5, by omega, by omega, by go_num, hb5, HDL5.out, HWT5.out⟩ | ((repeat apply Exists.intro); refine ⟨?_, rfl⟩; exact ⟨j + 1, ds5, rv5, by omega, by omega, by go_num, hb5, HDL5.out, HWT5.out⟩)
            case measure => simp [intOf]; omega
        · have hd2 : ((d3 : Int) == 2) = false := by simp; omega
          by_cases hbad : (M : Int) < 0 ∨ 62 < (M : Int)
          · obtain ⟨a5, c5, hf5⟩ := HWT0.out.bt.form
            subst hf5
            go_wp2_with (first
              | (go_at_call 23; refine (rput_bad _ _ _ _ hbad).mono ?_; rintro e w2 ⟨rfl, rfl⟩)
              | (go_at_call 11; refine (put_bad _ _ _ _ hbad).mono ?_; rintro e w2 ⟨rfl, rfl⟩)
              | (go_at_call 18; refine (len_any _ _ rv ds HWT0.out.wt).mono ?_; rintro e w2 ⟨rfl, rfl⟩))
            go_roundw
            case rel => first | exact ⟨j + 1, ds, rv, by omega, by omega, by go_num, hb0, by show _ ≤ _; have := hdl.out; omega, HWT0.out⟩ | ((repeat apply Exists.intro); refine ⟨?_, rfl⟩; exact ⟨j + 1, ds, rv, by omega, by omega, by go_num, hb0, by show _ ≤ _; have := hdl.out; omega, HWT0.out⟩)
            case measure => simp [intOf]; omega
          · obtain ⟨K, hK⟩ : ∃ K : Nat, K = M := ⟨_, rfl⟩
            have hK70 : K ≤ 62 := by omega
            obtain ⟨ds5, hds5⟩ : ∃ ds5, ds5 = ds ++ dig V K := ⟨_, rfl⟩
            have HDS5 : Hid (ds5 = ds ++ dig V K) := hds5
            have HDL5 : Hid (ds5.length ≤ (j + 1) * 71) := by show _ ≤ _; rw [hds5]; simp; have := hdl.out; omega
            clear hds5
            subst hK
            go_wp2_with fail
            refine (rput_any W0 u4 ds V K HWT0.out.bt (by omega) (by omega)).mono ?_
            rintro e w2 ⟨v2, rfl, hown2, hb2⟩
            rw [← HDS5.out] at hown2
            obtain ⟨a5, c5, hf5⟩ := (BtAt.of_owns hown2).form
            subst hf5
            have HO2 : Hid (w2.ownsRow W0.heap.size 5 1 (.slice a5 ds5.length c5) ds5.length (u8s (bn ds5))) := hown2
            have HB2 : Hid (Below W0.heap.size W0 w2) := hb2
            have hcV2 : w2.cell? ⟨p, 1, none⟩ = some (.int .i64 V) := by rw [hb2.cell (p := ⟨p, 1, none⟩) hp0]; exact hcV
            clear hown2 hb2
            go_wp2_with fail
            refine (put_at w2 b rv ds V K (HWT0.out.wt.below HB2.out) (by omega) (by omega) _ rfl).mono ?_
            rw [← HDS5.out]
            rintro e w3 ⟨rfl, hwr3⟩
            obtain ⟨rv5, hwt5, hb5⟩ := HWT0.out.next HO2.out HB2.out hwr3 (by have := HSB.out; omega)
            have HWT5 : Hid (WroteAt w w3 b rv5 (.slice a5 ds5.length c5) ds5) := hwt5
            clear hwr3 hwt5
            go_wp2_with (go_at_call 18; refine (len_any _ _ rv5 ds5 HWT5.out.wt).mono ?_; rintro e w4 ⟨rfl, rfl⟩)
            go_roundw
            case rel => first | exact ⟨j + 1, ds5, rv5, by omega, by omega, by go_num, hb5, HDL5.out, HWT5.out⟩ | ((repeat apply Exists.intro); refine ⟨?_, rfl⟩; exact ⟨j + 1, ds5, rv5, by omega, by omega, by go_num, hb5, HDL5.out, HWT5.out⟩)
            case measure => simp [intOf]; omega
      · go_wp2_with fail
        rw [HWW.out, HP.out]
        clear h0 h1 h2
        refine (within_nat D 3 _ I0.out.1 I0.out.2 (by decide) (by decide) _ rfl).mono ?_
        rintro e w' ⟨d3, rfl, hd3, -, rfl⟩
        have hdlt : ds.length ≤ 2130 := by have := hdl.out; omega
        by_cases hd : d3 = 2
        · subst hd
          by_cases hbad : N < 0 ∨ 1024 < N
          · obtain ⟨a5, c5, hf5⟩ := HWT0.out.bt.form
            subst hf5
            go_wp2_with (first
              | (go_at_call 22; refine (rones_wbad _ _ _ hbad).mono ?_; rintro e w2 ⟨rfl, rfl⟩)
              | (go_at_call 20; refine (ones_bad _ _ _ hbad).mono ?_; rintro e w2 ⟨rfl, rfl⟩)
              | (go_at_call 18; refine (len_any _ _ rv ds HWT0.out.wt).mono ?_; rintro e w2 ⟨rfl, rfl⟩))
            go_roundw
            case rel => first | exact ⟨j + 1, ds, rv, by omega, by omega, by go_num, hb0, by show _ ≤ _; have := hdl.out; omega, HWT0.out⟩ | ((repeat apply Exists.intro); refine ⟨?_, rfl⟩; exact ⟨j + 1, ds, rv, by omega, by omega, by go_num, hb0, by show _ ≤ _; have := hdl.out; omega, HWT0.out⟩)
            case measure => simp [intOf]; omega
          · obtain ⟨K, hK⟩ := Int.eq_ofNat_of_zero_le (show 0 ≤ N by omega)
            have hK70 : K ≤ 70 := by omega
            obtain ⟨ds5, hds5⟩ : ∃ ds5, ds5 = ds ++ (List.replicate K true ++ [false]) := ⟨_, rfl⟩
            have HDS5 : Hid (ds5 = ds ++ (List.replicate K true ++ [false])) := hds5
            have HDL5 : Hid (ds5.length ≤ (j + 1) * 71) := by show _ ≤ _; rw [hds5]; simp; have := hdl.out; omega
            clear hds5
            subst hK
            go_wp2_with fail
            refine (rones_wany W0 u4 ds K HWT0.out.bt (by omega) (by omega)).mono ?_
            rintro e w2 ⟨v2, rfl, hown2, hb2⟩
            rw [← HDS5.out] at hown2
            obtain ⟨a5, c5, hf5⟩ := (BtAt.of_owns hown2).form
            subst hf5
            have HO2 : Hid (w2.ownsRow W0.heap.size 5 1 (.slice a5 ds5.length c5) ds5.length (u8s (bn ds5))) := hown2
            have HB2 : Hid (Below W0.heap.size W0 w2) := hb2
            clear hown2 hb2
            go_wp2_with fail
            refine (ones_any w2 b rv ds K (HWT0.out.wt.below HB2.out) (by omega) (by omega)).mono ?_
            rw [← HDS5.out]
            rintro e w3 ⟨rfl, hwr3⟩
            obtain ⟨rv5, hwt5, hb5⟩ := HWT0.out.next HO2.out HB2.out hwr3 (by have := HSB.out; omega)
            have HWT5 : Hid (WroteAt w w3 b rv5 (.slice a5 ds5.length c5) ds5) := hwt5
            clear hwr3 hwt5
            go_wp2_with (go_at_call 18; refine (len_any _ _ rv5 ds5 HWT5.out.wt).mono ?_; rintro e w4 ⟨rfl, rfl⟩)
            go_roundw
            case rel => first | exact ⟨j + 1, ds5, rv5, by omega, by omega, by go_num, hb5, HDL5.out, HWT5.out⟩ | ((repeat apply Exists.intro); refine ⟨?_, rfl⟩; exact ⟨j + 1, ds5, rv5, by omega, by omega, by go_num, hb5, HDL5.out, HWT5.out⟩)
            case measure => simp [intOf]; omega
        · have hd2 : ((d3 : Int) == 2) = false := by simp; omega
          by_cases hbad : N < 0 ∨ 62 < N
          · obtain ⟨a5, c5, hf5⟩ := HWT0.out.bt.form
            subst hf5
            go_wp2_with (first
              | (go_at_call 23; refine (rput_bad _ _ _ _ hbad).mono ?_; rintro e w2 ⟨rfl, rfl⟩)
              | (go_at_call 11; refine (put_bad _ _ _ _ hbad).mono ?_; rintro e w2 ⟨rfl, rfl⟩)
              | (go_at_call 18; refine (len_any _ _ rv ds HWT0.out.wt).mono ?_; rintro e w2 ⟨rfl, rfl⟩))
            go_roundw
            case rel => first | exact ⟨j + 1, ds, rv, by omega, by omega, by go_num, hb0, by show _ ≤ _; have := hdl.out; omega, HWT0.out⟩ | ((repeat apply Exists.intro); refine ⟨?_, rfl⟩; exact ⟨j + 1, ds, rv, by omega, by omega, by go_num, hb0, by show _ ≤ _; have := hdl.out; omega, HWT0.out⟩)
            case measure => simp [intOf]; omega
          · obtain ⟨K, hK⟩ := Int.eq_ofNat_of_zero_le (show 0 ≤ N by omega)
            have hK70 : K ≤ 62 := by omega
            obtain ⟨ds5, hds5⟩ : ∃ ds5, ds5 = ds ++ dig V K := ⟨_, rfl⟩
            have HDS5 : Hid (ds5 = ds ++ dig V K) := hds5
            have HDL5 : Hid (ds5.length ≤ (j + 1) * 71) := by show _ ≤ _; rw [hds5]; simp; have := hdl.out; omega
            clear hds5
            subst hK
            go_wp2_with fail
            refine (rput_any W0 u4 ds V K HWT0.out.bt (by omega) (by omega)).mono ?_
            rintro e w2 ⟨v2, rfl, hown2, hb2⟩
            rw [← HDS5.out] at hown2
            obtain ⟨a5, c5, hf5⟩ := (BtAt.of_owns hown2).form
            subst hf5
            have HO2 : Hid (w2.ownsRow W0.heap.size 5 1 (.slice a5 ds5.length c5) ds5.length (u8s (bn ds5))) := hown2
            have HB2 : Hid (Below W0.heap.size W0 w2) := hb2
            have hcV2 : w2.cell? ⟨p, 1, none⟩ = some (.int .i64 V) := by rw [hb2.cell (p := ⟨p, 1, none⟩) hp0]; exact hcV
            clear hown2 hb2
            go_wp2_with fail
            refine (put_at w2 b rv ds V K (HWT0.out.wt.below HB2.out) (by omega) (by omega) _ rfl).mono ?_
            rw [← HDS5.out]
            rintro e w3 ⟨rfl, hwr3⟩
            obtain ⟨rv5, hwt5, hb5⟩ := HWT0.out.next HO2.out HB2.out hwr3 (by have := HSB.out; omega)
            have HWT5 : Hid (WroteAt w w3 b rv5 (.slice a5 ds5.length c5) ds5) := hwt5
            clear hwr3 hwt5
            go_wp2_with (go_at_call 18; refine (len_any _ _ rv5 ds5 HWT5.out.wt).mono ?_; rintro e w4 ⟨rfl, rfl⟩)
            go_roundw
            case rel => first | exact ⟨j + 1, ds5, rv5, by omega, by omega, by go_num, hb5, HDL5.out, HWT5.out⟩ | ((repeat apply Exists.intro); refine ⟨?_, rfl⟩; exact ⟨j + 1, ds5, rv5, by omega, by omega, by go_num, hb5, HDL5.out, HWT5.out⟩)
            case measure => simp [intOf]; omega
      · go_wp2_with fail
        rw [HWW.out, HP.out]
        clear h0 h1 h2
        refine (within_nat D 3 _ I0.out.1 I0.out.2 (by decide) (by decide) _ rfl).mono ?_
        rintro e w' ⟨d3, rfl, hd3, -, rfl⟩
        have hdlt : ds.length ≤ 2130 := by have := hdl.out; omega
        by_cases hd : d3 = 2
        · subst hd
          by_cases hbad : N < 0 ∨ 1024 < N
          · obtain ⟨a5, c5, hf5⟩ := HWT0.out.bt.form
            subst hf5
            go_wp2_with (first
              | (go_at_call 22; refine (rones_wbad _ _ _ hbad).mono ?_; rintro e w2 ⟨rfl, rfl⟩)
              | (go_at_call 20; refine (ones_bad _ _ _ hbad).mono ?_; rintro e w2 ⟨rfl, rfl⟩)
              | (go_at_call 18; refine (len_any _ _ rv ds HWT0.out.wt).mono ?_; rintro e w2 ⟨rfl, rfl⟩))
            go_roundw
            case rel => first | exact ⟨j + 1, ds, rv, by omega, by omega, by go_num, hb0, by show _ ≤ _; have := hdl.out; omega, HWT0.out⟩ | ((repeat apply Exists.intro); refine ⟨?_, rfl⟩; exact ⟨j + 1, ds, rv, by omega, by omega, by go_num, hb0, by show _ ≤ _; have := hdl.out; omega, HWT0.out⟩)
            case measure => simp [intOf]; omega
          · exfalso; omega
        · have hd2 : ((d3 : Int) == 2) = false := by simp; omega
          by_cases hbad : N < 0 ∨ 62 < N
          · obtain ⟨a5, c5, hf5⟩ := HWT0.out.bt.form
            subst hf5
            go_wp2_with (first
              | (go_at_call 23; refine (rput_bad _ _ _ _ hbad).mono ?_; rintro e w2 ⟨rfl, rfl⟩)
              | (go_at_call 11; refine (put_bad _ _ _ _ hbad).mono ?_; rintro e w2 ⟨rfl, rfl⟩)
              | (go_at_call 18; refine (len_any _ _ rv ds HWT0.out.wt).mono ?_; rintro e w2 ⟨rfl, rfl⟩))
            go_roundw
            case rel => first | exact ⟨j + 1, ds, rv, by omega, by omega, by go_num, hb0, by show _ ≤ _; have := hdl.out; omega, HWT0.out⟩ | ((repeat apply Exists.intro); refine ⟨?_, rfl⟩; exact ⟨j + 1, ds, rv, by omega, by omega, by go_num, hb0, by show _ ≤ _; have := hdl.out; omega, HWT0.out⟩)
            case measure => simp [intOf]; omega
          · exfalso; omega
    · have hdlt : ds.length ≤ 2130 := by have := hdl.out; omega
      obtain ⟨l, hl⟩ : ∃ l, l = pack ds := ⟨_, rfl⟩
      have hll : l.length ≤ 267 := by rw [hl, length_pack]; omega
      have HL : Hid (l = pack ds) := hl
      clear hl
      go_wp2_with fail
      all_goals
        refine (bytes_any wr b rv ds l HL.out hwt.out.wt (by omega)).mono ?_
        rintro e w2 ⟨rfl, hn2⟩
        have HN2 : Hid (NewBytes wr w2 l) := hn2
        have hs2 : wr.heap.size < w2.heap.size := (hn2.1.lt _ rfl).2
        have HW2 : Hid (WroteAt w w2 b rv u4 ds) := hwt.out.below hn2.2 (by have := HSB.out; omega)
        have FW : Hid (∀ k, Wf b rv k → k < wr.heap.size) := fun k hk => (hwt.out.wt.foot k hk).2
        have FV : Hid (∀ k, u4.ownBlock = some k → k < wr.heap.size) := hwt.out.bt.lt
        clear hn2 hwt
        obtain ⟨g, hg⟩ : ∃ g, g = wr.heap.size := ⟨_, rfl⟩
        rw [← hg]
        have HG : Hid (g = wr.heap.size) := hg
        clear hg
        go_wp2_with fail
        refine (rbytes_any w2 u4 ds l HL.out HW2.out.bt (by omega)).mono ?_
        rintro e w3 ⟨rfl, hn3⟩
        have HN3 : Hid (NewBytes w2 w3 l) := hn3
        have hs3 : w2.heap.size < w3.heap.size := (hn3.1.lt _ rfl).2
        have HW3 : Hid (WroteAt w w3 b rv u4 ds) := HW2.out.below hn3.2 (by have := HSB.out; omega)
        clear hn3 HW2
        go_wp2_with fail
        refine (same_any w3 _ _ l (by rw [HG.out]; exact (SlAt.of_owns HN2.out.1).below HN3.out.2) (SlAt.of_owns HN3.out.1) (by omega)).mono ?_
        rintro e w4 ⟨rfl, n4, rfl⟩
        have hrow : RowIs w3 g (u8s l) := by
          have h1 := HN2.out.1
          rcases h1.2 with ⟨e1, _⟩ | ⟨g', cap', cur, hv, hgb, hh, hncap, _, hcs, htake⟩
          · cases e1
          · cases hv
            have hh3 : w3.heap[wr.heap.size]? = some (.cells cur 5 (0, 0)) := by rw [HN3.out.2.block _ hs2]; exact hh
            have hce : cur.toList = u8s l := by rw [← htake]; exact (List.take_of_length_le (by simp; omega)).symm
            unfold RowIs
            rw [HG.out, ← hce]
            simpa using hh3
        have HROW : Hid (RowIs (w3.drewN n4) g (u8s l)) := hrow
        clear hrow
        go_wp2_with fail
        refine (spoil_at _ g l HROW.out (by omega)).mono ?_
        rintro e w5 ⟨rfl, hk5⟩
        have HW5 : Hid (WroteAt w w5 b rv u4 ds) :=
          ⟨(show WrAt (w3.drewN n4) b rv ds from ⟨HW3.out.wt.box, HW3.out.wt.own⟩).other hk5 (fun k hk h => by have := FW.out k hk; have := HG.out; omega), (HW3.out.bt.drewN n4).kept hk5 (fun k hk h => by have := FV.out k hk; have := HG.out; omega), HW3.out.ap,
            hk5.below_of (below_drewN HW3.out.bel n4) (fun k h => by have := HSB.out; have := HG.out; omega) (by show _ ≤ w3.heap.size; have := HSB.out; omega)⟩
        have hs5 : w3.heap.size ≤ w5.heap.size := hk5.size
        clear hk5 HW3 HROW
        go_wp2_with fail
        refine (bytes_any w5 b rv ds l HL.out HW5.out.wt (by omega)).mono ?_
        rintro e w6 ⟨rfl, hn6⟩
        have HN6 : Hid (NewBytes w5 w6 l) := hn6
        have hs6 : w5.heap.size < w6.heap.size := (hn6.1.lt _ rfl).2
        have HW6 : Hid (WroteAt w w6 b rv u4 ds) := HW5.out.below hn6.2 (by have := HSB.out; omega)
        clear hn6 HW5
        go_wp2_with fail
        refine (rbytes_any w6 u4 ds l HL.out HW6.out.bt (by omega)).mono ?_
        rintro e w7 ⟨rfl, hn7⟩
        have HN7 : Hid (NewBytes w6 w7 l) := hn7
        have hs7 : w6.heap.size < w7.heap.size := (hn7.1.lt _ rfl).2
        have HB7 : Hid (Below w.heap.size w w7) := HW6.out.bel.trans (hn7.2.mono (by have := HSB.out; omega))
        clear hn7 HW6
        go_wp2_with fail
        refine (same_any w7 _ _ l ((SlAt.of_owns HN6.out.1).below HN7.out.2) (SlAt.of_owns HN7.out.1) (by omega)).mono ?_
        rintro e w8 ⟨rfl, n8, rfl⟩
        go_wp2_with fail
        refine (wakes_any _).mono ?_
        rintro e w9 ⟨rfl, hb9⟩
        go_wp2
        go_ret
        exact ⟨rfl, (below_drewN HB7.out n8).trans (hb9.mono (by show _ ≤ w7.heap.size; have := HSB.out; omega))⟩

end Go.Proofs.Ytkloocfceghddaa
