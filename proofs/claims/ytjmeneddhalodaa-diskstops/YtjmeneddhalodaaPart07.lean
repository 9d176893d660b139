/- The texts DPlays, Zeros, Ints, IntsB, IntsC, Atom, DwMem, one behind the other. -/
import Derived.Test.YtjmeneddhalodaaPart06
import Derived.Test.YtjmeneddhalodaaPart05
import Derived.Test.YtjmeneddhalodaaPart02
import Derived.Lib.AppendZeros
import Derived.Test.YtjmeneddhalodaaPart01
import Derived.Laws.AppendOwnNone
import Derived.Deep.RegionLaw
import Derived.Laws.LoneSync
import Derived.Deep.MidRow
import Derived.Deep.WholeRow

/- DiskPlays over the bundle. -/
namespace Go.Proofs.Ytjmeneddhalodaa
set_option linter.unusedVariables false
set_option linter.unusedSimpArgs false
open Go.RowKit Dg

theorem ActsK.kept {w w' : World} {B0 : Nat} {a : Option Addr} {L : List Act1} (h : ActsK w B0 a L) (hB : B0 ≤ w.heap.size) {F : Nat → Prop} (hk : Kept F w w') (hF : ∀ k, k < B0 → ¬ F k) : ActsK w' B0 a L := fun j x hx => (h j x hx).kept hB hk hF
theorem newS_used (n : Nat) : (newS n).used 0 := ⟨Nat.le_refl _, Nat.le_refl _, Nat.le_refl _, Nat.le_refl _⟩
theorem fromS_used (l : List Nat) : (fromS l).used 0 := ⟨Nat.le_refl _, Nat.le_refl _, Nat.le_refl _, Nat.le_refl _⟩
theorem Kept.belowW {W w : World} (h : Kept (fun k => W.heap.size ≤ k) W w) : Below W.heap.size W w := h.below_of (Below.refl _ _) (fun k e => e) (Nat.le_refl _)
set_option maxRecDepth 100000 in
set_option maxHeartbeats 8000000 in
theorem dplays_over {Di : DiP} (C : Dsk Di) (CN : DNewNo) (CR : DRead Di) (CF : DFlush Di) (CS : DStop Di) (CP : DPoke Di) (CD : DDead Di) (CL : DLen Di) (CC : DCounts Di) (CK : DClone Di)
    (W : World) (n : Int) (a1 : Option Addr) (len1 cap1 : Nat) (L1 : List Act1) (a2 : Option Addr) (len2 cap2 : Nat) (L2 : List Act1) (hn : I64 n) (hl1 : len1 ≤ maxLen) (e1 : L1.length = len1) (k1 : ActsK W W.heap.size a1 L1) (hl2 : len2 ≤ maxLen) (e2 : L2.length = len2) (k2 : ActsK W W.heap.size a2 L2) :
    Calls Try.prog 6 #[.int .i64 n, .slice a1 len1 cap1, .slice a2 len2 cap2] W fun e W' => e = .returned (.bool true) ∧ Below W.heap.size W W' := by
  obtain ⟨hn1, hn2⟩ := hn
  unfold maxLen at hl1 hl2
  have E1 := hid_of e1
  have E2 := hid_of e2
  have K1 := hid_of k1
  have K2 := hid_of k2
  clear e1 e2 k1 k2
  obtain ⟨nn, hnn⟩ : ∃ nn : Int, nn = if 12 < n ∧ n ≤ 4096 then n % 12 else n := ⟨_, rfl⟩
  have HNN : Hid (I64 nn) := by
    show I64 nn
    rw [hnn]
    split
    · exact ⟨by omega, by omega⟩
    · exact ⟨hn1, hn2⟩
  rcases (by omega : (12 < n ∧ n ≤ 4096) ∨ n ≤ 12 ∨ (12 < n ∧ 4096 < n)) with hc | hc | hc
  -- n is cut
  rw [if_pos hc] at hnn
  have HW := hid_of (within_any n 12 W hn1 hn2 (by decide) (by decide))
  rw [← hnn] at HW
  obtain ⟨hc1, hc2⟩ := hc
  have hb1 : decide (12 < n) = true := decide_eq_true hc1
  have hb2 : decide (n ≤ 4096) = true := decide_eq_true hc2
  clear hnn
  rotate_left
  -- n is small
  rw [if_neg (by omega)] at hnn
  obtain rfl : nn = n := hnn
  have hb1 : decide (12 < nn) = false := decide_eq_false (by omega)
  rotate_left
  -- n is great
  rw [if_neg (by omega)] at hnn
  obtain rfl : nn = n := hnn
  have hb1 : decide (12 < nn) = true := decide_eq_true hc.1
  have hb2 : decide (nn ≤ 4096) = false := decide_eq_false (by omega)
  rotate_left
  all_goals
    go_enter Try.func6, Try.ntmps6
    go_wp2_with (go_at_call 9; refine HW.out.mono ?_; rintro e W' ⟨rfl, rfl⟩)
    clear hn1 hn2
    by_cases hN : 1 ≤ nn ∧ nn ≤ 4096
    · obtain ⟨N, rfl⟩ : ∃ N : Nat, nn = (N : Int) := ⟨nn.toNat, by omega⟩
      have hN1 : 1 ≤ N := by omega
      have hN2 : N ≤ 4096 := by omega
      clear hN
      refine (C.newB W N hN1 hN2).mono ?_
      rintro e w1 ⟨d, F, G, rfl, hd1, hG1, hb1'⟩
      have HD1 := hid_of hd1
      have HG1 : Hid (∀ k, G k → W.heap.size ≤ k) := hG1
      have HB1 := hid_of hb1'
      clear hd1 hG1 hb1'
      go_wp2_with fail
      refine (rdnew_any w1 N hN1 hN2).mono ?_
      rintro e w2 ⟨r, F2, G2, rfl, hr2, hG2, hb2'⟩
      have HA1 := hid_of (C.arms HD1.out)
      have HD2 := hid_of (C.grow HD1.out hb2')
      have HR2 := hid_of hr2
      have HG2 : Hid (∀ k, G2 k → w1.heap.size ≤ k) := hG2
      have HK2 : Hid (Kept (fun k => W.heap.size ≤ k) W w2) := Below.kept0 (HB1.out.trans (hb2'.mono HB1.out.size))
      have hs12 : w1.heap.size ≤ w2.heap.size := hb2'.size
      have hs01 : W.heap.size ≤ w1.heap.size := HB1.out.size
      clear hr2 hG2 hb2'
      have HP1 := hid_of (play_any C CR CF CS CP CD CL CC w2 d r F G F2 G2 (newS N) HD2.out HR2.out (fun k f g => by have := HA1.out.2.2 k (HA1.out.2.1 k f); have := HG2.out k g; omega) (fun k f g => by have := HA1.out.2.2 k g; have := HG2.out k (HR2.out.arms.2.2.1 k f); omega) W.heap.size (by omega) (fun k g => HG1.out k g) (fun k g => Nat.le_trans hs01 (HG2.out k g)) a1 len1 cap1 L1 E1.out (by omega) (K1.out.kept (Nat.le_refl _) HK2.out (fun k e f => by omega)) 0 (by decide) (newS_used N))
      go_wp2_with fail
      refine HP1.out.mono ?_
      rintro e w3 ⟨rfl, s3, ht3, hu3⟩
      obtain ⟨F3, G3, F4, G4, hd3, hr3, hap1, hap2, ⟨hs1, hs2, hs3, hs4⟩, hk3, hx3⟩ := ht3
      have HT3 : Hid (Two Di w3 F3 G3 F4 G4 (fun k => k < W.heap.size) w3 d r s3 s3) := Two.first C hd3 hr3 hap1 hap2 hx3
      have HU3 := hid_of hu3
      have HK3 : Hid (Kept (fun k => W.heap.size ≤ k) W w3) := HK2.out.trans (hk3.mono (fun k _ e => by rcases e with e | e; exact HG1.out k (HA1.out.2.1 k e); exact Nat.le_trans hs01 (HG2.out k (HR2.out.arms.2.2.1 k e))))
      have HD3 := hid_of hd3
      have HR3 := hid_of hr3
      have HX3 : Hid (∀ k, k < W.heap.size → (¬ G3 k ∧ ¬ G4 k) ∧ k < w3.heap.size) := hx3
      have HAP1 : Hid (Apart F3 G4) := hap1
      have HAP2 : Hid (Apart F4 G3) := hap2
      have HA3 := hid_of (C.arms hd3)
      have HA4 := hid_of hr3.arms
      have hW3 : s3.W.length ≤ 100000 := by have := hu3.2.2.2; omega
      clear hd3 hr3 hap1 hap2 hs1 hs2 hs3 hs4 hk3 hx3 hu3 HP1 HD2 HR2
      go_wp2_with fail
      refine (CK w3 d F3 G3 s3 HD3.out hW3).mono ?_
      rintro e w4 ⟨c, Fc, Gc, rfl, hd4, hb4, hFc, hGc, hac⟩
      have HD4 := hid_of hd4
      have HFC : Hid (∀ k, Fc k → w3.heap.size ≤ k) := hFc
      have HGC : Hid (Sub Gc G3 w3.heap.size) := hGc
      have HAC : Hid (Apart F3 Gc) := hac
      have HB4 := hid_of hb4
      have HR4 := hid_of (HR3.out.keep (X := fun _ => False) (Kept.of_below hb4) (fun _ _ h => h))
      have HAC4 := hid_of (C.arms hd4)
      clear hd4 hb4 hFc hGc hac
      go_wp2_with fail
      refine (rdcopy_any w4 r F4 G4 s3 HR4.out hW3).mono ?_
      rintro e w5 ⟨y, Fy, Gy, rfl, hr5, hb5, hFy, hGy, hay⟩
      have HD5 := hid_of (C.grow HD4.out hb5)
      have HR5 := hid_of hr5
      have HFY : Hid (∀ k, Fy k → w4.heap.size ≤ k) := hFy
      have HGY : Hid (Sub Gy G4 w4.heap.size) := hGy
      have HAY : Hid (Apart F4 Gy) := hay
      have HB5 := hid_of hb5
      have HK5 : Hid (Kept (fun k => W.heap.size ≤ k) W w5) := (HK3.out.trans ((Below.kept0 (HB4.out.trans (HB5.out.mono HB4.out.size))).mono (fun k _ e => Nat.le_trans HK3.out.size e)))
      have hs34 : w3.heap.size ≤ w4.heap.size := HB4.out.size
      have hs45 : w4.heap.size ≤ w5.heap.size := hb5.size
      have hs03 : W.heap.size ≤ w3.heap.size := HK3.out.size
      clear hr5 hb5 hFy hGy hay
      have HP2 := hid_of (play_any C CR CF CS CP CD CL CC w5 c y Fc Gc Fy Gy s3 HD5.out HR5.out
        (fun k f g => by
          have h1 := HFC.out k f
          have h2 := HAC4.out.2.2 k (HAC4.out.2.1 k f)
          rcases HGY.out k g with h3 | h3
          · have := HA4.out.2.2.2 k h3; omega
          · omega)
        (fun k f g => by
          have h1 := HFY.out k f
          have h2 := HAC4.out.2.2 k g
          omega) W.heap.size (by omega)
        (fun k g => by
          rcases HGC.out k g with h3 | h3
          · rcases Nat.lt_or_ge k W.heap.size with h4 | h4
            · exact absurd h3 (HX3.out k h4).1.1
            · exact h4
          · omega)
        (fun k g => by
          rcases HGY.out k g with h3 | h3
          · rcases Nat.lt_or_ge k W.heap.size with h4 | h4
            · exact absurd h3 (HX3.out k h4).1.2
            · exact h4
          · omega) a2 len2 cap2 L2 E2.out (by omega) (K2.out.kept (Nat.le_refl _) HK5.out (fun k e f => by omega)) 30 (by decide) HU3.out)
      go_wp2_with fail
      refine HP2.out.mono ?_
      rintro e w6 ⟨rfl, s6, ht6, hu6⟩
      obtain ⟨F7, G7, F8, G8, hd6, hr6, -, -, -, hk6, -⟩ := ht6
      have hmy : ∀ k, (Fc k ∨ Fy k) → w3.heap.size ≤ k := fun k e => by rcases e with e | e; exact HFC.out k e; exact Nat.le_trans hs34 (HFY.out k e)
      have HK6 : Hid (Kept (fun k => W.heap.size ≤ k) W w6) := HK5.out.trans (hk6.mono (fun k _ e => Nat.le_trans hs03 (hmy k e)))
      have HK36 : Hid (Kept (fun k => w3.heap.size ≤ k) w3 w6) := (Below.kept0 (HB4.out.trans (HB5.out.mono HB4.out.size))).trans (hk6.mono (fun k _ e => hmy k e))
      have HD6 := hid_of (C.keep HD3.out HK36.out (fun k g e => by have := HA3.out.2.2 k g; omega))
      have HR6 := hid_of (HR3.out.keep HK36.out (fun k g e => by have := HA4.out.2.2.2 k g; omega))
      have hs36 : w3.heap.size ≤ w6.heap.size := HK36.out.size
      clear hd6 hr6 hk6 hu6 hmy HP2
      have HP3 := hid_of (play_any C CR CF CS CP CD CL CC w6 d r F3 G3 F4 G4 s3 HD6.out HR6.out HAP1.out HAP2.out W.heap.size (by omega)
        (fun k g => by
          rcases Nat.lt_or_ge k W.heap.size with h4 | h4
          · exact absurd g (HX3.out k h4).1.1
          · exact h4)
        (fun k g => by
          rcases Nat.lt_or_ge k W.heap.size with h4 | h4
          · exact absurd g (HX3.out k h4).1.2
          · exact h4) a1 len1 cap1 L1 E1.out (by omega) (K1.out.kept (Nat.le_refl _) HK6.out (fun k e f => by omega)) 30 (by decide) HU3.out)
      go_wp2_with fail
      refine HP3.out.mono ?_
      rintro e w7 ⟨rfl, s7, ht7, hu7⟩
      obtain ⟨F7, G7, F8, G8, -, -, -, -, -, hk7, -⟩ := ht7
      have HK7 : Hid (Kept (fun k => W.heap.size ≤ k) W w7) := HK6.out.trans (hk7.mono (fun k _ e => by
        rcases Nat.lt_or_ge k W.heap.size with h4 | h4
        · exfalso
          rcases e with e | e
          · exact (HX3.out k h4).1.1 (HA3.out.2.1 k e)
          · exact (HX3.out k h4).1.2 (HA4.out.2.2.1 k e)
        · exact h4))
      clear hk7 hu7 HP3
      go_wp2_with fail
      refine (wakes10_any C w7).mono ?_
      rintro e w8 ⟨rfl, hb8⟩
      have HB8 : Hid (Below W.heap.size W w8) := HK7.out.belowW.trans (hb8.mono HK7.out.size)
      clear hb8
      go_wp2_with fail
      go_ret
      exact ⟨rfl, HB8.out⟩
    · refine (CN W nn hN HNN.out).mono ?_
      rintro e w1 ⟨rfl, hk1⟩
      have HK1' := hid_of hk1
      have HRN := hid_of (rdnew_no w1 nn hN)
      clear hk1 hN
      go_wp2_with fail
      refine HRN.out.mono ?_
      rintro e w1' ⟨rfl, rfl⟩
      go_wp2_with fail
      refine (wakes10_any C w1).mono ?_
      rintro e w8 ⟨rfl, hb8⟩
      have HB8 : Hid (Below W.heap.size W w8) := (HK1'.out.below_of (Below.refl _ _) (fun _ h => h.elim) (Nat.le_refl _)).trans (hb8.mono HK1'.out.size)
      clear hb8
      go_wp2_with fail
      go_ret
      exact ⟨rfl, HB8.out⟩

end Go.Proofs.Ytjmeneddhalodaa

/- Noughts behind a row of bytes of the call's own. -/
namespace Go.Proofs.Ytjmeneddhalodaa
set_option linter.unusedVariables false
set_option linter.unusedSimpArgs false
open Go.RowKit Dg

theorem run_zeros (w : World) (base g n cap m : Nat) (l : List Nat) (h : w.ownsRow base 5 1 (.slice (some ⟨g, 0, none⟩) n cap) n (u8s l)) (hm : n + m ≤ 1000000) (hbase : base ≤ w.heap.size) :
    ∃ g' cap' w', (Builtin.append_ #[30, 3] 30 #[.slice (some ⟨g, 0, none⟩) n cap, .int .i64 m]).run Try.prog w = .ok (.slice (some ⟨g', 0, none⟩) (n + m) cap') w' ∧
      w'.ownsRow base 5 1 (.slice (some ⟨g', 0, none⟩) (n + m) cap') (n + m) (u8s (l ++ List.replicate m 0)) ∧ w.grownBy w' (some g) := by
  obtain ⟨i0, hi, hz0, hz1, hz2⟩ := info_parts Try.info5
  have hln : l.length = n := by have := h.1; simpa using this
  have hw : IntKind.i64.wrap (m : Int) = m := by rw [IntKind.wrap_i64]; omega
  have hneg : ¬ ((m : Int) < 0) := by omega
  have h48i : ¬ (281474976710656 < (m : Int)) := by omega
  rcases h.2 with ⟨e1, _⟩ | ⟨g', cap', cur, hv, hgb, hh, hncap, hcm, hcs, htake⟩
  · cases e1
  · cases hv
    by_cases hroom : n + m ≤ cap
    · have hap : (if m = 0 then (pure #[] : Sem (Array Value)) else pure (Builtin.zeroCells (Value.int .u8 0).cells m)) = pure (u8s (List.replicate m 0)).toArray := by
        by_cases h0 : m = 0
        · subst h0; simp [u8s]
        · rw [if_neg h0, ← zeros_u8]
      have hst := run_storeCells_at Try.prog g n 5 (u8s (List.replicate m 0)) 0 cur w hh (by simp; omega) (fun u hu => by simp [u8s] at hu; obtain ⟨_, rfl⟩ := hu; rfl)
      simp only [Nat.add_zero] at hst
      refine ⟨g, cap, w.setRow g (cur.toList.take n ++ u8s (List.replicate m 0) ++ cur.toList.drop (n + (u8s (List.replicate m 0)).length)).toArray, ?_, ⟨by simp [hln], .inr ⟨g, cap, _, rfl, hgb, setRow_heap w g cur _ 5 _ hh, hroom, hcm, ?_, ?_⟩⟩, ⟨rfl, rfl, rfl, by simp, fun k _ hk => setRow_other w g k _ (fun e => hk (by simp [e]))⟩⟩
      · simp [Builtin.append_, run_underlying Try.underlying30, run_underlying Try.underlying3, sizeOf, typeInfo, zeroValue, hi, hz0, hz1, hz2, asInt, asIntOf, hw, hneg, h48i, hroom, Addr.add_lit, hap]
        have hst' : ∀ vs, vs = u8s (List.replicate m 0) → Sem.run Try.prog (storeCells ⟨g, n, none⟩ vs) w = .ok () (w.setRow g (cur.toList.take n ++ (u8s (List.replicate m 0) ++ cur.toList.drop (n + m))).toArray) := by
          intro vs hvs
          rw [hvs, hst]
          simp
        by_cases h0 : m = 0
        · rw [if_pos h0, hst' [] (by rw [h0]; rfl)]; rfl
        · rw [if_neg h0, hst' _ (zeros_u8 m)]; rfl
      · simp; omega
      · rw [u8s_append]
        have h1 : cur.toList.take n = u8s l := by simpa using htake
        rw [h1]
        simp [hln]
        rw [← List.append_assoc, List.take_append_of_le_length (by simp [hln]), List.take_of_length_le (by simp [hln])]
    · have hm0 : m ≠ 0 := by omega
      have h63' : ¬ (9223372036854775807 < (n : Int) + (m : Int)) := by omega
      have h48' : ¬ (281474976710656 < Builtin.nextslicecap (n + m) cap) := by
        have := growslice_fits (need := n + m) (old := cap) (bytes := 1) (by omega) (by omega)
        omega
      have holds : ∀ j u, (u8s l)[j]? = some u → w.cell? ((⟨g, 0, none⟩ : Addr).add j) = some u := h.cells (g := g) rfl
      have hf := run_firstCells_some (P := Try.prog) w.drew 1 n ⟨g, 0, none⟩ n cap (u8s l) (by simp [hln]) holds
      have hge := grownCap_ge w (n + m) cap 5
      have hcm' : grownCap w (n + m) cap 5 ≤ maxLen := grownCap_le_maxLen w (n + m) cap 5 (by unfold maxLen; omega)
      refine ⟨w.heap.size, grownCap w (n + m) cap 5, w.drew.alloc (.cells ((u8s l).toArray ++ Builtin.zeroCells (Value.int .u8 0).cells m ++ Builtin.zeroCells (Value.int .u8 0).cells (grownCap w (n + m) cap 5 - (n + m))) 5), ?_, ⟨by simp [hln], .inr ⟨w.heap.size, _, _, rfl, hbase, heap_alloc_new w.drew _, hge, hcm', ?_, ?_⟩⟩, ⟨rfl, rfl, rfl, by simp, fun k hk _ => Below.heap_alloc w.drew _ k hk⟩⟩
      · simp [Builtin.append_, run_underlying Try.underlying30, run_underlying Try.underlying3, sizeOf, typeInfo, zeroValue, hi, hz0, hz1, hz2, asInt, asIntOf, hw, hneg, h48i, hroom, hm0, h63', h48', Question.forced, hf, newRow, grownCap]
      · simp [size_zeroCells, Value.cells, hln]; omega
      · rw [u8s_append, ← zeros_u8]
        simp only [Array.toList_append, List.append_assoc]
        rw [← List.append_assoc, List.take_append_of_le_length (by simp [size_zeroCells, Value.cells, hln])]
        exact List.take_of_length_le (by simp [size_zeroCells, Value.cells, hln])

end Go.Proofs.Ytjmeneddhalodaa

/- Numbers in a row that can be read; rows of numbers of the call's own; Copy and Cut of numbers. -/
namespace Go.Proofs.Ytjmeneddhalodaa
set_option linter.unusedVariables false
set_option linter.unusedSimpArgs false
open Go.RowKit Dg

/-- Numbers that can be read. -/
def IntsAt (w : World) (a : Option Addr) (l : List Int) : Prop :=
  ∀ j x, l[j]? = some x → ∃ b off, a = some ⟨b, off, none⟩ ∧ w.cell? ⟨b, off + j, none⟩ = some (.int .i64 x)
theorem IntsAt.below {w w' : World} {a : Option Addr} {l : List Int} {B : Nat} (h : IntsAt w a l) (hb : Below B w w') (hB : ∀ x, a = some x → x.block < B) : IntsAt w' a l := by
  intro j x hx
  obtain ⟨b, off, rfl, hc⟩ := h j x hx
  refine ⟨b, off, rfl, ?_⟩
  rw [hb.cell (p := ⟨b, off + j, none⟩) (hB ⟨b, off, none⟩ rfl)]
  exact hc
theorem IntsAt.kept {w w' : World} {a : Option Addr} {l : List Int} {F : Nat → Prop} (h : IntsAt w a l) (hk : Kept F w w') (hF : ∀ x, a = some x → ¬ F x.block) : IntsAt w' a l := by
  intro j x hx
  obtain ⟨b, off, rfl, hc⟩ := h j x hx
  refine ⟨b, off, rfl, ?_⟩
  rw [hk.cell (World.block_lt_of_cell? w _ hc) (hF ⟨b, off, none⟩ rfl)]
  exact hc
theorem IntsAt.take {w : World} {a : Option Addr} {l : List Int} (h : IntsAt w a l) (n : Nat) : IntsAt w a (l.take n) := by
  intro j x hx
  refine h j x ?_
  rw [List.getElem?_take] at hx
  split at hx
  · exact hx
  · cases hx
theorem IntsAt.nil (w : World) (a : Option Addr) : IntsAt w a [] := fun j x hx => by simp at hx
/-- Numbers as values. -/
def i64s (l : List Int) : List Value := l.map fun x : Int => Value.int .i64 x
@[simp] theorem length_i64s (l : List Int) : (i64s l).length = l.length := by simp [i64s]
theorem i64s_get (l : List Int) (k : Nat) : (i64s l)[k]? = l[k]?.map fun x : Int => Value.int .i64 x := by simp [i64s]
theorem IntsAt.of_owns {w : World} {base : Nat} {a : Option Addr} {n m cap : Nat} {l : List Int} (h : w.ownsRow base 3 1 (.slice a m cap) n (i64s l)) : IntsAt w a l := by
  have hl : l.length = n := by have := h.1; simpa using this
  rcases h.2 with ⟨e, rfl⟩ | ⟨g, cap, cur, e, hb, hh, hn, _, hcs, htake⟩
  · have : l = [] := List.eq_nil_of_length_eq_zero hl
    subst this
    exact IntsAt.nil w a
  · cases e
    intro j x hx
    refine ⟨g, 0, rfl, ?_⟩
    have hj : j < l.length := (List.getElem?_eq_some_iff.1 hx).1
    have e : (i64s l)[j]? = some (.int .i64 x) := by rw [i64s_get, hx]; rfl
    rw [← htake, List.getElem?_take, if_pos (by omega)] at e
    simp only [World.cell?, hh]
    simpa using e
/-- The numbers of a slice that came in. -/
theorem IsRow.ints {w : World} {a : Option Addr} {len cap : Nat} {zs : List Int} (h : IsRow .i64 w a len cap zs) :
    ∃ l : List Int, l.length = len ∧ (∀ x ∈ l, I64 x) ∧ IntsAt w a l ∧ len ≤ cap ∧ cap ≤ maxLen ∧ (a = none → len = 0 ∧ cap = 0) ∧ ∀ x, a = some x → 0 < len → x.block < w.heap.size := by
  rcases h with ⟨rfl, rfl, rfl, rfl⟩ | ⟨x, rfl, hle, hm, hz, hc, hwf⟩
  · exact ⟨[], rfl, fun x hx => by simp at hx, IntsAt.nil w _, Nat.le_refl _, by decide, fun _ => ⟨rfl, rfl⟩, fun x hx => by cases hx⟩
  · have hsp : 0 < zs.length → x.spot = none := fun h0 => by
      have := spot_of_cell (hc 0 h0)
      simpa [Addr.add] using this
    refine ⟨zs.take len, by simp; omega, fun y hy => wf_i64 (hwf y (List.mem_of_mem_take hy)), ?_, hle, hm, (fun e => by cases e), ?_⟩
    · intro j y hy
      have hj : j < (zs.take len).length := (List.getElem?_eq_some_iff.1 hy).1
      simp at hj
      have hj2 : j < zs.length := by omega
      obtain ⟨b, off, s⟩ := x
      have hs := hsp (by omega)
      simp at hs
      subst hs
      refine ⟨b, off, rfl, ?_⟩
      have hcell := hc j hj2
      have hadd : (⟨b, off, none⟩ : Addr).add j = ⟨b, off + j, none⟩ := by simp [Addr.add]
      rw [hadd] at hcell
      rw [hcell]
      rw [List.getElem?_take, if_pos (by omega)] at hy
      simp [List.getD, hy]
    · intro y hy h0
      cases hy
      have hcell := hc 0 (by omega)
      exact World.block_lt_of_cell? w _ hcell
theorem Try.info3 : (Try.prog.info? 3).map (fun i => (i.zero, i.size, i.bytes)) = some (some (.int .i64 0), 1, 8) := by kernel_rfl
/-- A row of numbers of the call's own. -/
def OwnInts (w : World) (base : Nat) (v : Value) (l : List Int) : Prop := w.ownsRow base 3 1 v l.length (i64s l)
theorem OwnInts.nil (w : World) (base : Nat) : OwnInts w base (.slice none 0 0) [] := World.ownsRow_nil _ _ _ _
theorem OwnInts.slice {w : World} {base : Nat} {v : Value} {l : List Int} (h : OwnInts w base v l) : ∃ a cap, v = .slice a l.length cap ∧ IntsAt w a l ∧ (a = none ∧ l = [] ∧ cap = 0 ∨ ∃ g, a = some ⟨g, 0, none⟩ ∧ base ≤ g ∧ g < w.heap.size) := by
  have h' := h
  rcases h.2 with ⟨rfl, hn⟩ | ⟨g, cap, cur, rfl, hb, hh, hn, _, hcs, htake⟩
  · have : l = [] := List.eq_nil_of_length_eq_zero hn
    subst this
    exact ⟨none, 0, rfl, IntsAt.nil w _, .inl ⟨rfl, rfl, rfl⟩⟩
  · exact ⟨some ⟨g, 0, none⟩, cap, rfl, IntsAt.of_owns h, .inr ⟨g, rfl, hb, (Array.getElem?_eq_some_iff.1 hh).1⟩⟩
theorem OwnInts.below {w w' : World} {base B : Nat} {v : Value} {l : List Int} (h : OwnInts w base v l) (hb : Below B w w') (hB : ∀ k, v.ownBlock = some k → k < B) : OwnInts w' base v l := by
  refine ⟨h.1, ?_⟩
  rcases h.2 with hn | ⟨g, cap, cur, rfl, hg, hh, r⟩
  · exact .inl hn
  · exact .inr ⟨g, cap, cur, rfl, hg, by rw [hb.block g (hB g rfl)]; exact hh, r⟩
/-- 'append(z, n)' of one number that was just built. -/
theorem wpList_append_int {P : Program} (w0 : World) {ops : Array Oper} {rest : List Oper} {o : Oper} {a : Act} {Q : Exit → Act → World → Prop}
    (hgd : o.guard = none) (s x : Operand) (t : TypeId) (ho : o.op = .call { callee := .builtin .append, args := #[s, x], argTypes := #[t, t] })
    (base : Nat) (i : TypeInfo) (ht : P.underlying t = some (.slice 3)) (hi : P.info? 3 = some i) (hz : i.zero = some (.int .i64 0)) (hsize : i.size = 1) (hby : i.bytes = 8)
    (v : Value) (l : List Int) (hs : a.eval s = v) (hown : OwnInts w0 base v l) (y : Int) (hx : a.eval x = .slice (some ⟨w0.heap.size, 0, none⟩) 1 1)
    (hl : l.length ≤ 1000000) (hbase : base ≤ w0.heap.size)
    (h : ∀ v' w', Hid (OwnInts w' base v' (l ++ [y])) → Hid (Below base w0 w') → wpList P ops Q rest (a.put o.dst v') w') : wpList P ops Q (o :: rest) a (w0.alloc (.cells #[.int .i64 y] 3)) := by
  refine wpList_append_mine _ hgd s x t ho base 3 i (.int .i64 0) 1 8 ht hi hz hsize hby rfl (by decide) v l.length (i64s l) hs (World.ownsRow.alloc hown _) ⟨w0.heap.size, 0, none⟩ 1 1 [.int .i64 y] hx rfl ?c1 ?c2 (by decide) ?b1 ?b2 ?b3 ?_
  case c1 => intro j u hj; match j, hj with | 0, hj => simp at hj; subst hj; simp [Addr.add]
  case c2 => intro u hu; simp at hu; subst hu; rfl
  case b1 => unfold maxLen; omega
  case b2 => omega
  case b3 => simp; omega
  intro g cap w' H1 HG HN
  refine h _ w' ?_ ?_
  · show World.ownsRow _ _ _ _ _ _ _
    have := H1.out
    simpa [i64s] using this
  · exact ((Below.refl base w0).alloc hbase _).grown HG.out (by simp; omega) (fun k hk => (World.ownsRow.lt hown k hk).1)
end Go.Proofs.Ytjmeneddhalodaa

/- Numbers once more: Same at like numbers; appends to a row of numbers of the call's own, told more closely; parts of such rows. -/
namespace Go.Proofs.Ytjmeneddhalodaa
set_option linter.unusedVariables false
set_option linter.unusedSimpArgs false
open Go.RowKit Dg

theorem take_next (zs : List Int) (j : Nat) (y : Int) (h : zs[j]? = some y) : zs.take (j + 1) = zs.take j ++ [y] := by rw [List.take_add_one, h]; rfl
theorem OwnInts.at {w : World} {base n cap : Nat} {a : Option Addr} {l : List Int} (h : OwnInts w base (.slice a n cap) l) : IntsAt w a l := IntsAt.of_owns h
theorem own_lt {w : World} {base n cap : Nat} {a : Option Addr} {l : List Int} (h : OwnInts w base (.slice a n cap) l) : ∀ x, a = some x → x.block < w.heap.size := by
  intro x hx
  subst hx
  exact (World.ownsRow.lt h x.block rfl).2

/-- 'append(z, n)' of one number that was just built: all but its row is as it was. -/
theorem wpList_append_int_mine {P : Program} (w0 : World) {ops : Array Oper} {rest : List Oper} {o : Oper} {a : Act} {Q : Exit → Act → World → Prop}
    (hgd : o.guard = none) (s x : Operand) (t : TypeId) (ho : o.op = .call { callee := .builtin .append, args := #[s, x], argTypes := #[t, t] })
    (base : Nat) (i : TypeInfo) (ht : P.underlying t = some (.slice 3)) (hi : P.info? 3 = some i) (hz : i.zero = some (.int .i64 0)) (hsize : i.size = 1) (hby : i.bytes = 8)
    (v : Value) (l : List Int) (hs : a.eval s = v) (hown : OwnInts w0 base v l) (y : Int) (hx : a.eval x = .slice (some ⟨w0.heap.size, 0, none⟩) 1 1)
    (hl : l.length ≤ 1000000) (hbase : base ≤ w0.heap.size)
    (h : ∀ v' w', OwnInts w' base v' (l ++ [y]) → Kept (fun k => v.ownBlock = some k) w0 w' → (∀ k, v'.ownBlock = some k → v.ownBlock = some k ∨ w0.heap.size ≤ k) → wpList P ops Q rest (a.put o.dst v') w') : wpList P ops Q (o :: rest) a (w0.alloc (.cells #[.int .i64 y] 3)) := by
  refine wpList_append_mine _ hgd s x t ho base 3 i (.int .i64 0) 1 8 ht hi hz hsize hby rfl (by decide) v l.length (i64s l) hs (World.ownsRow.alloc hown _) ⟨w0.heap.size, 0, none⟩ 1 1 [.int .i64 y] hx rfl ?c1 ?c2 (by decide) ?b1 ?b2 ?b3 ?_
  case c1 => intro j u hj; match j, hj with | 0, hj => simp at hj; subst hj; simp [Addr.add]
  case c2 => intro u hu; simp at hu; subst hu; rfl
  case b1 => unfold maxLen; omega
  case b2 => omega
  case b3 => simp; omega
  intro g cap w' H1 HG HN
  refine h _ w' ?_ ((Kept.alloc _ w0 _).trans (Kept.grown HG.out)) ?_
  · show World.ownsRow _ _ _ _ _ _ _
    have := H1.out
    simpa [i64s] using this
  · intro k hk
    simp [Value.ownBlock] at hk
    subst hk
    rcases HN.out with h2 | h2
    · exact .inl h2
    · simp at h2
      exact .inr (by omega)

/-- 'append(z, n)' of one number that was just built, its outcome named. -/
theorem wpList_append_int_as {P : Program} (w0 : World) {ops : Array Oper} {rest : List Oper} {o : Oper} {a : Act} {Q : Exit → Act → World → Prop}
    (hgd : o.guard = none) (s x : Operand) (t : TypeId) (ho : o.op = .call { callee := .builtin .append, args := #[s, x], argTypes := #[t, t] })
    (base : Nat) (i : TypeInfo) (ht : P.underlying t = some (.slice 3)) (hi : P.info? 3 = some i) (hz : i.zero = some (.int .i64 0)) (hsize : i.size = 1) (hby : i.bytes = 8)
    (v : Value) (l us : List Int) (hs : a.eval s = v) (hown : OwnInts w0 base v l) (y : Int) (hus : us = l ++ [y]) (hx : a.eval x = .slice (some ⟨w0.heap.size, 0, none⟩) 1 1)
    (hl : l.length ≤ 1000000) (hbase : base ≤ w0.heap.size)
    (h : ∀ ya yc w', Hid (OwnInts w' base (.slice ya us.length yc) us) → Hid (IntsAt w' ya us) → Hid (Below base w0 w') → wpList P ops Q rest (a.put o.dst (.slice ya us.length yc)) w') : wpList P ops Q (o :: rest) a (w0.alloc (.cells #[.int .i64 y] 3)) := by
  refine wpList_append_int w0 hgd s x t ho base i ht hi hz hsize hby v l hs hown y hx hl hbase ?_
  intro v' w' h1 h2
  rw [← hus] at h1
  obtain ⟨ya, yc, rfl, hy, _⟩ := h1.out.slice
  exact h ya yc w' h1 hy h2

/-- Numbers that can be read, and their room. -/
structure Ns (w : World) (a : Option Addr) (cap : Nat) (l : List Int) : Prop where
  at_ : IntsAt w a l
  le : l.length ≤ cap
  nil : a = none → cap = 0
theorem IntsAt.mono {w w' : World} {a : Option Addr} {l : List Int} (h : IntsAt w a l) (hb : Below w.heap.size w w') : IntsAt w' a l := by
  intro j x hx
  obtain ⟨b, off, rfl, hc⟩ := h j x hx
  refine ⟨b, off, rfl, ?_⟩
  rw [hb.cell (p := ⟨b, off + j, none⟩) (World.block_lt_of_cell? w _ hc)]
  exact hc
theorem Ns.mono {w w' : World} {a : Option Addr} {cap : Nat} {l : List Int} (h : Ns w a cap l) (hb : Below w.heap.size w w') : Ns w' a cap l := ⟨h.at_.mono hb, h.le, h.nil⟩
theorem IntsAt.drewN {w : World} {a : Option Addr} {l : List Int} (h : IntsAt w a l) (n : Nat) : IntsAt (w.drewN n) a l := h
theorem Ns.drewN {w : World} {a : Option Addr} {cap : Nat} {l : List Int} (h : Ns w a cap l) (n : Nat) : Ns (w.drewN n) a cap l := ⟨h.at_.drewN n, h.le, h.nil⟩
theorem OwnInts.mono {w w' : World} {base : Nat} {v : Value} {l : List Int} (h : OwnInts w base v l) (hb : Below w.heap.size w w') : OwnInts w' base v l := h.below hb (fun k hk => (World.ownsRow.lt h k hk).2)
theorem OwnInts.base {w : World} {base base' : Nat} {v : Value} {l : List Int} (h : OwnInts w base v l) (hb : base' ≤ base) : OwnInts w base' v l := ownsRow_base h hb
theorem OwnInts.drewN {w : World} {base : Nat} {v : Value} {l : List Int} (h : OwnInts w base v l) (n : Nat) : OwnInts (w.drewN n) base v l := h
theorem OwnInts.ns {w : World} {base : Nat} {v : Value} {l : List Int} (h : OwnInts w base v l) : ∃ a cap, v = .slice a l.length cap ∧ Ns w a cap l ∧ (a = none ∧ l = [] ∧ cap = 0 ∨ ∃ g, a = some ⟨g, 0, none⟩) ∧ cap ≤ maxLen := by
  have h' := h
  rcases h.2 with ⟨rfl, hn⟩ | ⟨g, cap, cur, rfl, hb, hh, hn, hm, hcs, htake⟩
  · have : l = [] := List.eq_nil_of_length_eq_zero hn
    subst this
    exact ⟨none, 0, rfl, ⟨IntsAt.nil w _, Nat.le_refl _, fun _ => rfl⟩, .inl ⟨rfl, rfl, rfl⟩, by decide⟩
  · exact ⟨some ⟨g, 0, none⟩, cap, rfl, ⟨IntsAt.of_owns h, hn, fun e => by cases e⟩, .inr ⟨g, rfl⟩, hm⟩
/-- A row of numbers that was just built. -/
theorem OwnInts.lit (w : World) (base : Nat) (l : List Int) (n : Nat) (hn : l.length = n) (hb : base ≤ w.heap.size) (hl : n ≤ 1000000) (cs : Array Value) (hcs : cs.toList = i64s l) : OwnInts (w.alloc (.cells cs 3)) base (.slice (some ⟨w.heap.size, 0, none⟩) n n) l := by
  subst hn
  have hs : cs.size = l.length := by have := congrArg List.length hcs; simpa using this
  have := World.ownsRow_lit (e := 3) (size := 1) (base := base) w cs l.length hb (by unfold maxLen; omega) (by omega)
  show World.ownsRow _ _ _ _ _ _ _
  rw [← hcs]
  exact this
theorem slice_ints (a : Option Addr) (n cap k : Nat) (hk : k ≤ cap) (W : World) : (Instr.sliceAt 45 (.slice a n cap) none (some (.int .i64 (k : Int))) none).run Try.prog W = .ok (.slice a k cap) W := by
  obtain ⟨i0, hi, hz0, hz1, hz2⟩ := info_parts Try.info3
  simp [Instr.sliceAt, Instr.slice, Instr.sliceBounds, Instr.sliceBound, asIntOf, run_underlying Try.underlying45, sizeOf, typeInfo, hi, hk]
  cases a <;> simp [Addr.add]
theorem i64s_append (l m : List Int) : i64s (l ++ m) = i64s l ++ i64s m := by simp [i64s]
/-- 'append(s, x...)' of numbers to a row of the call's own. -/
theorem wpList_append_ints (w : World) {ops : Array Oper} {rest : List Oper} {o : Oper} {a : Act} {Q : Exit → Act → World → Prop}
    (hgd : o.guard = none) (s x : Operand) (ho : o.op = .call { callee := .builtin .append, args := #[s, x], argTypes := #[45, 45] })
    (base : Nat) (v : Value) (l : List Int) (hs : a.eval s = v) (hown : OwnInts w base v l) (xa : Option Addr) (xc : Nat) (m : List Int) (hx : a.eval x = .slice xa m.length xc) (hm : Ns w xa xc m)
    (hl : l.length + m.length ≤ 1000000) (hbase : base ≤ w.heap.size)
    (h : ∀ v' w', Hid (OwnInts w' base v' (l ++ m)) → Hid (Kept (fun k => v.ownBlock = some k) w w') → Hid (∀ k, v'.ownBlock = some k → v.ownBlock = some k ∨ w.heap.size ≤ k) → wpList Try.prog ops Q rest (a.put o.dst v') w') : wpList Try.prog ops Q (o :: rest) a w := by
  obtain ⟨i0, hi, hz0, hz1, hz2⟩ := info_parts Try.info3
  have hown' : w.ownsRow base 3 1 v l.length (i64s l) := hown
  cases xa with
  | none =>
    have hc := hm.nil rfl
    have hle := hm.le
    have hm0 : m = [] := List.eq_nil_of_length_eq_zero (by omega)
    subst hm0 hc
    refine wpList_append_own_none hgd s x 45 ho base 3 i0 1 Try.underlying45 hi v l.length (i64s l) hs hown' hx ?_
    refine h v w ?_ (Kept.refl _ _) (fun k hk => .inl hk)
    rw [List.append_nil]; exact hown
  | some ad =>
    have hcell : ∀ j u, (i64s m)[j]? = some u → w.cell? (ad.add j) = some u := by
      intro j u hu
      rw [i64s_get] at hu
      obtain ⟨y, hy, rfl⟩ := Option.map_eq_some_iff.1 hu
      obtain ⟨b, off, e, hc⟩ := hm.at_ j y hy
      cases e
      have hadd : (⟨b, off, none⟩ : Addr).add j = ⟨b, off + j, none⟩ := by simp [Addr.add]
      rw [hadd]
      exact hc
    have hone : ∀ u ∈ i64s m, u.oneCell' = true := by intro u hu; simp [i64s] at hu; obtain ⟨y, _, rfl⟩ := hu; rfl
    by_cases hne : m = []
    · subst hne
      rcases hown'.2 with ⟨hv, hn⟩ | ⟨g, cap, cur, hv, hb, hh, hn, hcm, hcs, htake⟩
      · refine wpList_append_own _ hgd s x 45 ho base 3 i0 (.int .i64 0) 1 8 Try.underlying45 hi hz0 hz1 hz2 rfl (by decide) v l.length (i64s l) hs hown' ad 0 xc [] hx rfl (fun j u hu => by simp at hu) (fun u hu => by simp at hu) (by unfold maxLen; omega) (by omega) hbase ?_
        intro v' w' h1 h2 h3
        have hv' : v' = .slice none 0 0 := h3.2 ⟨hv, rfl⟩
        refine h v' w' ?_ (Kept.grown h2) (fun k hk => by rw [hv'] at hk; cases hk)
        show World.ownsRow _ _ _ _ _ _ _
        simpa [i64s_append] using h1
      · refine wpList_append_fits w hgd s x 45 ho base 3 i0 1 Try.underlying45 hi hz1 g l.length cap (i64s l) (hs.trans hv) (hv ▸ hown') ad 0 xc [] hx rfl (fun j u hu => by simp at hu) (fun u hu => by simp at hu) (by omega) ?_
        intro w' h1 h2
        refine h _ w' ?_ ?_ (fun k hk => .inl ?_)
        · show World.ownsRow _ _ _ _ _ _ _
          simpa [i64s_append] using h1
        · have := Kept.grown h2
          rw [hv]; exact this
        · rw [hv]; exact hk
    · refine wpList_append_mine _ hgd s x 45 ho base 3 i0 (.int .i64 0) 1 8 Try.underlying45 hi hz0 hz1 hz2 rfl (by decide) v l.length (i64s l) hs hown' ad m.length xc (i64s m) hx (by simp) hcell hone (List.length_pos_iff.2 hne) (by unfold maxLen; omega) (by omega) hbase ?_
      intro g cap w' h1 h2 h3
      refine h _ w' ?_ (Kept.grown h2.out) (fun k hk => ?_)
      · show World.ownsRow _ _ _ _ _ _ _
        rw [i64s_append, List.length_append]; exact h1.out
      · simp [Value.ownBlock] at hk
        subst hk
        exact h3.out

/-- 'append(z, n)' of one number that was just built, as one step of a region that draws its order. -/
theorem step_append_int {P : Program} {ops : Array Oper} {o : Oper} {a : Act} (w0 : World) {K : Act → World → Prop} {Q : Exit → Act → World → Prop} {E : Prop}
    (hgd : o.guard = none) (s x : Operand) (t : TypeId) (ho : o.op = .call { callee := .builtin .append, args := #[s, x], argTypes := #[t, t] })
    (base : Nat) (i : TypeInfo) (ht : P.underlying t = some (.slice 3)) (hi : P.info? 3 = some i) (hz : i.zero = some (.int .i64 0)) (hsize : i.size = 1) (hby : i.bytes = 8)
    (v : Value) (l : List Int) (hs : a.eval s = v) (hown : OwnInts w0 base v l) (y : Int) (hx : a.eval x = .slice (some ⟨w0.heap.size, 0, none⟩) 1 1)
    (hl : l.length ≤ 1000000) (hbase : base ≤ w0.heap.size)
    (hK : ∀ v' w', Hid (OwnInts w' base v' (l ++ [y])) → Hid (Below base w0 w') → K (a.put o.dst v') w') :
    if Region.wanted o (yielded ops a.tmps) = true then Oper.wp P o a (w0.alloc (.cells #[.int .i64 y] 3)) K Q else E := by
  have hw : Region.wanted o (yielded ops a.tmps) = true := by simp [Region.wanted, hgd]
  rw [if_pos hw]
  obtain ⟨v', w', hrun, r1, r2, r3⟩ := run_append_own (P := P) (w0.alloc (.cells #[.int .i64 y] 3)) base t o.type 3 i (.int .i64 0) 1 8 ht hi hz hsize hby rfl (by decide) v l.length (i64s l) (World.ownsRow.alloc hown _) ⟨w0.heap.size, 0, none⟩ 1 1 [.int .i64 y] rfl
    (by intro j u hj; match j, hj with | 0, hj => simp at hj; subst hj; simp [Addr.add]) (by intro u hu; simp at hu; subst hu; rfl) (by unfold maxLen; omega) (by omega) (by simp; omega)
  unfold Oper.wp
  simp [execOp, ho, resolve, invoke, builtin, hs, hx, hrun, Result.andThen]
  refine hK v' w' ?_ ?_
  · show World.ownsRow _ _ _ _ _ _ _
    simpa [i64s] using r1
  · exact ((Below.refl base w0).alloc hbase _).grown r2 (by simp; omega) (fun k hk => (World.ownsRow.lt hown k hk).1)

end Go.Proofs.Ytjmeneddhalodaa

/- Numbers a third time: x[k:]; rows of noughts that were made. -/
namespace Go.Proofs.Ytjmeneddhalodaa
set_option linter.unusedVariables false
set_option linter.unusedSimpArgs false
open Go.RowKit Dg

/-- Where 'x[k:]' begins. -/
def lowI (a : Option Addr) (cap k : Nat) : Option Addr := if cap = k then a else a.map fun x => x.add k
theorem slice_ints_lo (a : Option Addr) (n cap k : Nat) (hk : k ≤ n) (W : World) : (Instr.sliceAt 45 (.slice a n cap) (some (.int .i64 (k : Int))) none none).run Try.prog W = .ok (.slice (lowI a cap k) (n - k) (cap - k)) W := by
  obtain ⟨i0, hi, hz0, hz1, hz2⟩ := info_parts Try.info3
  simp [Instr.sliceAt, Instr.slice, Instr.sliceBounds, Instr.sliceBound, asIntOf, run_underlying Try.underlying45, sizeOf, typeInfo, hi, hz1, hk, lowI]
theorem IntsAt.drop {w : World} {a : Option Addr} {cap : Nat} {l : List Int} (h : IntsAt w a l) (hc : l.length ≤ cap) (k : Nat) : IntsAt w (lowI a cap k) (l.drop k) := by
  intro j x hx
  rw [List.getElem?_drop] at hx
  have hj : k + j < l.length := (List.getElem?_eq_some_iff.1 hx).1
  obtain ⟨b, off, rfl, hcell⟩ := h (k + j) x hx
  refine ⟨b, off + k, ?_, ?_⟩
  · unfold lowI
    rw [if_neg (by omega)]
    simp [Addr.add]
  · rw [Nat.add_assoc]
    exact hcell
theorem madeI (n : Nat) : (madeCells (Value.int .i64 0).cells (n * 1)).toList = i64s (List.replicate n 0) := by
  apply List.ext_getElem?
  intro k
  by_cases hk : k < n
  · simp [madeCells, i64s, hk, Value.cells, Nat.mod_one]
  · rw [List.getElem?_eq_none (by simp [madeCells]; omega), List.getElem?_eq_none (by simp; omega)]
/-- A row of noughts that was just made. -/
theorem OwnInts.made {w : World} {base : Nat} {v : Value} {Z : List Int} (hZ : Z = List.replicate Z.length 0) (h : w.ownsRow base 3 1 v Z.length (madeCells (Value.int .i64 0).cells Z.length).toList) : OwnInts w base v Z := by
  show World.ownsRow _ _ _ _ _ _ _
  have e := madeI Z.length
  rw [← hZ, Nat.mul_one] at e
  rw [← e]; exact h

end Go.Proofs.Ytjmeneddhalodaa

/- Counts kept by sync/atomic. -/
namespace Go.Proofs.Ytjmeneddhalodaa
set_option linter.unusedVariables false
set_option linter.unusedSimpArgs false
open Go.RowKit

set_option maxRecDepth 100000 in
/-- '(*sync/atomic.Int64).Add', '.Load' of a count. -/
theorem aadd_any (a : Addr) (x y : Int) (w : World) (hc : w.cell? a = some (.int .i64 x)) (hz : w.frozen? a = false) (h1 : -1000000 ≤ x) (h2 : x ≤ 1000000) (h3 : -1000000 ≤ y) (h4 : y ≤ 1000000) :
    Calls Try.prog 38 #[.pointer (some a), .int .i64 y] w fun e w' => e = .returned (.int .i64 (x + y)) ∧ w' = w.setCell a (.int .i64 (x + y)) := by
  have hs : (Op.intArith .add .i64 x y).run Try.prog w = .ok (.int .i64 (x + y)) w := by
    have e : IntKind.i64.wrap (x + y) = x + y := Go.IntWalk.i64_in _ (by omega)
    simp [Op.intArith, e]
  have hl := run_call_add (P := Try.prog) Try.func59 (by kernel_rfl) (by kernel_rfl) (by kernel_rfl) .i64 (by kernel_rfl) hc hz hs
  go_enter Try.func38, Try.ntmps38
  go_wp2
  go_ret
  exact ⟨rfl, rfl⟩
set_option maxRecDepth 100000 in
theorem aload_any (a : Addr) (x : Int) (w : World) (hc : w.cell? a = some (.int .i64 x)) :
    Calls Try.prog 58 #[.pointer (some a)] w fun e w' => e = .returned (.int .i64 x) ∧ w = w' := by
  have hl := run_call_load (P := Try.prog) Try.func63 (by kernel_rfl) (by kernel_rfl) (by kernel_rfl) .i64 (by kernel_rfl) hc
  go_enter Try.func58, Try.ntmps58
  go_wp2
  go_ret
  exact ⟨rfl, rfl⟩

theorem aload_quiet (a : Addr) (x : Int) (w : World) (k : Nat) (hc : w.cell? a = some (.int .i64 x)) :
    Calls Try.prog 58 #[.pointer (some a)] (w.drewN k) fun e w'' => e = .returned (.int .i64 x) ∧ ∃ m, w'' = w.drewN m :=
  (aload_any a x (w.drewN k) hc).mono fun e w'' ⟨h1, h2⟩ => ⟨h1, k, h2.symm⟩

end Go.Proofs.Ytjmeneddhalodaa

/- The program's disk in memory: what is kept, what waits (bytes and all), and for each sector how many wait up to its last write. -/
namespace Go.Proofs.Ytjmeneddhalodaa
set_option linter.unusedVariables false
set_option linter.unusedSimpArgs false
open Go.RowKit Dg

/-- How many wait up to the last write of a sector, of the first j. -/
def lastN (W : List (Nat × List Nat)) (k : Nat) : Nat → Nat
  | 0 => 0
  | j + 1 => match W[j]? with
    | some p => if p.1 = k then j + 1 else lastN W k j
    | none => lastN W k j
theorem lastN_le (W : List (Nat × List Nat)) (k : Nat) : ∀ j, lastN W k j ≤ j
  | 0 => Nat.le_refl _
  | j + 1 => by
    unfold lastN
    have := lastN_le W k j
    split
    · split <;> omega
    · omega
theorem lastN_hit (W : List (Nat × List Nat)) (k : Nat) : ∀ j, j ≤ W.length → lastN W k j ≠ 0 → ∃ p, W[lastN W k j - 1]? = some p ∧ p.1 = k ∧ lastW W k j = some p.2
  | 0, _, h => absurd rfl h
  | j + 1, hj, h => by
    unfold lastN at h ⊢
    unfold lastW
    rw [List.getElem?_eq_getElem (by omega : j < W.length)] at h ⊢
    simp only at h ⊢
    by_cases e : (W[j]).1 = k
    · rw [if_pos e, if_pos e]
      exact ⟨W[j], by rw [Nat.add_sub_cancel, List.getElem?_eq_getElem], e, rfl⟩
    · rw [if_neg e] at h ⊢
      rw [if_neg e]
      exact lastN_hit W k j (by omega) h
theorem lastN_none (W : List (Nat × List Nat)) (k : Nat) : ∀ j, j ≤ W.length → lastN W k j = 0 → lastW W k j = none ∧ ∀ i, i < j → ∀ p, W[i]? = some p → p.1 ≠ k
  | 0, _, _ => ⟨rfl, fun i hi => absurd hi (Nat.not_lt_zero _)⟩
  | j + 1, hj, h => by
    unfold lastN at h
    unfold lastW
    rw [List.getElem?_eq_getElem (by omega : j < W.length)] at h ⊢
    simp only at h ⊢
    by_cases e : (W[j]).1 = k
    · rw [if_pos e] at h; omega
    · rw [if_neg e] at h
      rw [if_neg e]
      obtain ⟨h1, h2⟩ := lastN_none W k j (by omega) h
      refine ⟨h1, fun i hi p hp => ?_⟩
      rcases Nat.lt_or_ge i j with h3 | h3
      · exact h2 i h3 p hp
      · have e2 : i = j := by omega
        subst e2
        rw [List.getElem?_eq_getElem (by omega)] at hp
        cases hp
        exact e
theorem lastN_map (W : List (Nat × List Nat)) (f : Nat × List Nat → Nat × List Nat) (hf : ∀ p, (f p).1 = p.1) (k : Nat) : ∀ j, lastN (W.map f) k j = lastN W k j
  | 0 => rfl
  | j + 1 => by
    unfold lastN
    rw [List.getElem?_map]
    cases W[j]? with
    | none => exact lastN_map W f hf k j
    | some p =>
      show (if (f p).1 = k then _ else _) = _
      rw [hf, lastN_map W f hf k j]
theorem lastN_more (W V : List (Nat × List Nat)) (k : Nat) : ∀ j, j ≤ W.length → lastN (W ++ V) k j = lastN W k j
  | 0, _ => rfl
  | j + 1, h => by
    unfold lastN
    rw [List.getElem?_append_left (by omega), lastN_more W V k j (by omega)]
theorem lastN_push (W : List (Nat × List Nat)) (i : Nat) (b : List Nat) (k : Nat) : lastN (W ++ [(i, b)]) k (W.length + 1) = if i = k then W.length + 1 else lastN W k W.length := by
  conv => lhs; unfold lastN
  rw [List.getElem?_append_right (Nat.le_refl _), Nat.sub_self]
  show (if i = k then _ else _) = _
  rw [lastN_more W _ k _ (Nat.le_refl _)]
/-- For each sector. -/
def lastI (W : List (Nat × List Nat)) (n : Nat) : List Int := (List.range n).map fun k => ((lastN W k W.length : Nat) : Int)
theorem length_lastI (W : List (Nat × List Nat)) (n : Nat) : (lastI W n).length = n := by simp [lastI]
theorem lastI_get {W : List (Nat × List Nat)} {n k : Nat} (h : k < n) : (lastI W n)[k]? = some ((lastN W k W.length : Nat) : Int) := by
  unfold lastI
  rw [List.getElem?_map, List.getElem?_range h]
  rfl
theorem lastI_nil (n : Nat) : lastI [] n = List.replicate n 0 := by
  refine List.ext_getElem? fun k => ?_
  rcases Nat.lt_or_ge k n with h | h
  · rw [lastI_get h, List.getElem?_replicate, if_pos h]; rfl
  · rw [List.getElem?_eq_none (by rw [length_lastI]; exact h), List.getElem?_eq_none (by simp; exact h)]
theorem lastI_push {W : List (Nat × List Nat)} {n i : Nat} (b : List Nat) (h : i < n) : lastI (W ++ [(i, b)]) n = (lastI W n).set i ((W.length + 1 : Nat) : Int) := by
  refine List.ext_getElem? fun k => ?_
  rcases Nat.lt_or_ge k n with hk | hk
  · rw [lastI_get hk, List.length_append, List.getElem?_set]
    show some ((lastN (W ++ [(i, b)]) k (W.length + 1) : Nat) : Int) = _
    rw [lastN_push]
    by_cases e : i = k
    · rw [if_pos e, if_pos e, if_pos (by rw [length_lastI]; omega)]
    · rw [if_neg e, if_neg e, lastI_get hk]
  · rw [List.getElem?_eq_none (by rw [length_lastI]; exact hk), List.getElem?_eq_none (by simp [length_lastI]; exact hk)]
theorem lastI_map (W : List (Nat × List Nat)) (f : Nat × List Nat → Nat × List Nat) (hf : ∀ p, (f p).1 = p.1) (n : Nat) : lastI (W.map f) n = lastI W n := by
  unfold lastI
  rw [List.length_map]
  exact List.map_congr_left fun k _ => by rw [lastN_map W f hf]
/-- The sectors of the first j writes are forgotten. -/
def zeroTo (W : List (Nat × List Nat)) (L : List Int) : Nat → List Int
  | 0 => L
  | j + 1 => (zeroTo W L j).set (W.getD j (0, [])).1 0
theorem length_zeroTo (W : List (Nat × List Nat)) (L : List Int) : ∀ j, (zeroTo W L j).length = L.length
  | 0 => rfl
  | j + 1 => by unfold zeroTo; rw [List.length_set, length_zeroTo W L j]
theorem zeroTo_get (W : List (Nat × List Nat)) (L : List Int) (k : Nat) : ∀ j, j ≤ W.length → ((zeroTo W L j)[k]? = some 0 ∧ k < L.length) ∨ ((zeroTo W L j)[k]? = L[k]? ∧ ∀ i, i < j → ∀ p, W[i]? = some p → p.1 ≠ k) ∨ L.length ≤ k
  | 0, _ => .inr (.inl ⟨rfl, fun i hi => absurd hi (Nat.not_lt_zero _)⟩)
  | j + 1, hj => by
    have e0 : W.getD j (0, []) = W[j] := by rw [List.getD_eq_getElem?_getD, List.getElem?_eq_getElem (by omega)]; rfl
    unfold zeroTo
    rw [e0, List.getElem?_set, length_zeroTo]
    rcases Nat.lt_or_ge k L.length with hk | hk
    · by_cases e : (W[j]).1 = k
      · rw [if_pos e, if_pos (by omega)]; exact .inl ⟨rfl, hk⟩
      · rw [if_neg e]
        rcases zeroTo_get W L k j (by omega) with h | ⟨h, h2⟩ | h
        · exact .inl h
        · refine .inr (.inl ⟨h, fun i hi p hp => ?_⟩)
          rcases Nat.lt_or_ge i j with h3 | h3
          · exact h2 i h3 p hp
          · have e2 : i = j := by omega
            subst e2
            rw [List.getElem?_eq_getElem (by omega)] at hp
            cases hp
            exact e
        · exact .inr (.inr h)
    · exact .inr (.inr hk)
theorem zeroTo_end (W : List (Nat × List Nat)) (n : Nat) : zeroTo W (lastI W n) W.length = lastI [] n := by
  rw [lastI_nil]
  refine List.ext_getElem? fun k => ?_
  rw [List.getElem?_replicate]
  rcases zeroTo_get W (lastI W n) k W.length (Nat.le_refl _) with ⟨h1, h2⟩ | ⟨h1, h2⟩ | h1
  · rw [length_lastI] at h2; rw [if_pos h2]; exact h1
  · rw [h1]
    rcases Nat.lt_or_ge k n with hk | hk
    · rw [lastI_get hk, if_pos hk]
      by_cases h3 : lastN W k W.length = 0
      · rw [h3]; rfl
      · exfalso
        obtain ⟨p, h4, h5, -⟩ := lastN_hit W k W.length (Nat.le_refl _) h3
        exact h2 _ (by have := lastN_le W k W.length; omega) p h4 h5
    · rw [List.getElem?_eq_none (by rw [length_lastI]; exact hk), if_neg (by omega)]
  · rw [length_lastI] at h1
    rw [List.getElem?_eq_none (by rw [length_zeroTo, length_lastI]; exact h1), if_neg (by omega)]

/-- A write as cells. -/
def cellsP (p : Nat × List Nat) : List Value := .int .i64 (p.1 : Int) :: u8s p.2
def cellsV (W : List (Nat × List Nat)) : List Value := W.flatMap cellsP
theorem length_cellsP {p : Nat × List Nat} (h : p.2.length = 128) : (cellsP p).length = 129 := by simp [cellsP, u8s, h]
theorem length_cellsV : ∀ {W : List (Nat × List Nat)}, (∀ p ∈ W, p.2.length = 128) → (cellsV W).length = W.length * 129
  | [], _ => rfl
  | p :: W, h => by
    have h1 := length_cellsV (W := W) fun q hq => h q (List.mem_cons_of_mem _ hq)
    have h2 := length_cellsP (h p (List.mem_cons_self ..))
    unfold cellsV at h1 ⊢
    rw [List.flatMap_cons, List.length_append, h1, h2, List.length_cons]
    omega
theorem cellsV_append (W V : List (Nat × List Nat)) : cellsV (W ++ V) = cellsV W ++ cellsV V := by simp [cellsV]
theorem cellsV_one (p : Nat × List Nat) : cellsV [p] = cellsP p := by simp [cellsV]
theorem cellsV_get : ∀ {W : List (Nat × List Nat)}, (∀ p ∈ W, p.2.length = 128) → ∀ (j : Nat) (p : Nat × List Nat), W[j]? = some p → ∀ i, i < 129 → (cellsV W)[j * 129 + i]? = (cellsP p)[i]?
  | [], _, j, p, h, _, _ => by simp at h
  | q :: W, hW, 0, p, h, i, hi => by
    simp at h
    subst h
    unfold cellsV
    rw [List.flatMap_cons, Nat.zero_mul, Nat.zero_add, List.getElem?_append_left (by rw [length_cellsP (hW _ (List.mem_cons_self ..))]; exact hi)]
  | q :: W, hW, j + 1, p, h, i, hi => by
    have h1 := cellsV_get (W := W) (fun q hq => hW q (List.mem_cons_of_mem _ hq)) j p (by simpa using h) i hi
    have h2 := length_cellsP (hW q (List.mem_cons_self ..))
    unfold cellsV at h1 ⊢
    rw [List.flatMap_cons, List.getElem?_append_right (by rw [h2]; omega), h2, show (j + 1) * 129 + i - 129 = j * 129 + i by omega, h1]
theorem cellsP_one (p : Nat × List Nat) : ∀ u ∈ cellsP p, u.oneCell' = true := by
  intro u hu
  rcases List.mem_cons.1 hu with rfl | hu
  · rfl
  · obtain ⟨x, -, rfl⟩ := List.mem_map.1 hu; rfl
theorem cellsV_cell (W : List (Nat × List Nat)) : ∀ u ∈ cellsV W, u.oneCell' = true := by
  intro u hu
  obtain ⟨p, -, h⟩ := List.mem_flatMap.1 hu
  exact cellsP_one p u h

/-- The blocks of a disk. -/
structure DwB where
  gK : Nat
  cK : Nat
  vW : Value
  gL : Nat
  cL : Nat
  left : Int
/-- A disk of the program: its fields, its bytes, its writes, its list L. -/
structure DwIs (w : World) (b : Nat) (x : DwB) (L : List Int) (s : Sk) : Prop where
  box : w.heap[b]? = some (.cells #[.slice (some ⟨x.gK, 0, none⟩) s.B.length x.cK, x.vW, .slice (some ⟨x.gL, 0, none⟩) (s.B.length / 128) x.cL, .bool s.stop.isSome, .int .i64 x.left, .bool s.dead, .int .i64 (s.reads : Int), .int .i64 (s.writes : Int), .int .i64 (s.flushes : Int)] 72 (0, 0))
  bs : OwnBytes w 0 (.slice (some ⟨x.gK, 0, none⟩) s.B.length x.cK) s.B
  ls : OwnInts w 0 (.slice (some ⟨x.gL, 0, none⟩) (s.B.length / 128) x.cL) L
  ws : w.ownsRow 0 75 129 x.vW s.W.length (cellsV s.W)
  at1 : ∀ k : Nat, s.stop = some k → x.left = (k : Int)
  at2 : 0 ≤ x.left ∧ x.left ≤ 9223372036854775807
  fine : s.Fine
  ne1 : b ≠ x.gK ∧ b ≠ x.gL ∧ x.gK ≠ x.gL
  ne2 : x.vW.ownBlock ≠ some b ∧ x.vW.ownBlock ≠ some x.gK ∧ x.vW.ownBlock ≠ some x.gL
/-- Its blocks. -/
def DwB.own (x : DwB) (b k : Nat) : Prop := k = b ∨ k = x.gK ∨ k = x.gL ∨ x.vW.ownBlock = some k
def DwAt (w : World) (b : Nat) (F G : Nat → Prop) (s : Sk) : Prop := ∃ x : DwB, DwIs w b x (lastI s.W (s.B.length / 128)) s ∧ (∀ k, x.own b k → F k) ∧ (∀ k, F k → G k) ∧ ∀ k, G k → k < w.heap.size
theorem DwIs.kept {w w' : World} {b : Nat} {x : DwB} {L : List Int} {s : Sk} {X : Nat → Prop} (h : DwIs w b x L s) (hk : Kept X w w') (hX : ∀ k, x.own b k → ¬ X k) : DwIs w' b x L s :=
  { h with
    box := by rw [hk.block b (Array.getElem?_eq_some_iff.1 h.box).1 (hX b (.inl rfl))]; exact h.box
    bs := ownsRow_other h.bs hk (fun k e => by cases e; exact hX _ (.inr (.inl rfl)))
    ls := ownsRow_other h.ls hk (fun k e => by cases e; exact hX _ (.inr (.inr (.inl rfl))))
    ws := ownsRow_other h.ws hk (fun k e => hX k (.inr (.inr (.inr e)))) }
theorem DwAt.keep {w w' : World} {b : Nat} {F G : Nat → Prop} {s : Sk} {X : Nat → Prop} (h : DwAt w b F G s) (hk : Kept X w w') (hX : ∀ k, G k → ¬ X k) : DwAt w' b F G s := by
  obtain ⟨x, h0, h1, h2, h3⟩ := h
  exact ⟨x, h0.kept hk (fun k e => hX k (h2 k (h1 k e))), h1, h2, fun k e => Nat.lt_of_lt_of_le (h3 k e) hk.size⟩
theorem DwAt.arms {w : World} {b : Nat} {F G : Nat → Prop} {s : Sk} (h : DwAt w b F G s) : s.Fine ∧ (∀ k, F k → G k) ∧ ∀ k, G k → k < w.heap.size := by
  obtain ⟨x, h0, h1, h2, h3⟩ := h
  exact ⟨h0.fine, h2, h3⟩
theorem DwIs.cell {w : World} {b : Nat} {x : DwB} {L : List Int} {s : Sk} (h : DwIs w b x L s) : w.cell? ⟨b, 0, none⟩ = some (.slice (some ⟨x.gK, 0, none⟩) s.B.length x.cK) ∧ w.cell? ⟨b, 1, none⟩ = some x.vW ∧ w.cell? ⟨b, 2, none⟩ = some (.slice (some ⟨x.gL, 0, none⟩) (s.B.length / 128) x.cL) ∧ w.cell? ⟨b, 3, none⟩ = some (.bool s.stop.isSome) ∧ w.cell? ⟨b, 4, none⟩ = some (.int .i64 x.left) ∧ w.cell? ⟨b, 5, none⟩ = some (.bool s.dead) ∧ w.cell? ⟨b, 6, none⟩ = some (.int .i64 (s.reads : Int)) ∧ w.cell? ⟨b, 7, none⟩ = some (.int .i64 (s.writes : Int)) ∧ w.cell? ⟨b, 8, none⟩ = some (.int .i64 (s.flushes : Int)) := by
  simp [World.cell?, h.box]
theorem DwIs.froz {w : World} {b : Nat} {x : DwB} {L : List Int} {s : Sk} (h : DwIs w b x L s) (o : Nat) : w.frozen? ⟨b, o, none⟩ = false := by simp [World.frozen?, h.box]
theorem DwIs.form {w : World} {b : Nat} {x : DwB} {L : List Int} {s : Sk} (h : DwIs w b x L s) : ∃ a c, x.vW = .slice a s.W.length c ∧ ((s.W.length = 0 ∧ a = none ∧ c = 0) ∨ ∃ g, a = some ⟨g, 0, none⟩) := by
  rcases h.ws.2 with ⟨e, hn⟩ | ⟨g, cap, cur, e, r⟩
  · exact ⟨none, 0, by rw [hn]; exact e, .inl ⟨hn, rfl, rfl⟩⟩
  · exact ⟨_, _, e, .inr ⟨g, rfl⟩⟩
/-- The fields alone turned. -/
theorem DwIs.put {w w' : World} {b : Nat} {x x' : DwB} {L : List Int} {s s' : Sk} (h : DwIs w b x L s) (hk : Kept (fun k => k = b) w w') (hB : s'.B = s.B) (hW : s'.W = s.W) (hx : x' = { x with left := x'.left })
    (hbox : w'.heap[b]? = some (.cells #[.slice (some ⟨x.gK, 0, none⟩) s.B.length x.cK, x.vW, .slice (some ⟨x.gL, 0, none⟩) (s.B.length / 128) x.cL, .bool s'.stop.isSome, .int .i64 x'.left, .bool s'.dead, .int .i64 (s'.reads : Int), .int .i64 (s'.writes : Int), .int .i64 (s'.flushes : Int)] 72 (0, 0)))
    (h1 : ∀ k : Nat, s'.stop = some k → x'.left = (k : Int)) (h2 : 0 ≤ x'.left ∧ x'.left ≤ 9223372036854775807) : DwIs w' b x' L s' := by
  have e1 : x'.gK = x.gK := by rw [hx]
  have e2 : x'.cK = x.cK := by rw [hx]
  have e3 : x'.vW = x.vW := by rw [hx]
  have e4 : x'.gL = x.gL := by rw [hx]
  have e5 : x'.cL = x.cL := by rw [hx]
  refine ⟨by rw [hB, e1, e2, e3, e4, e5]; exact hbox, ?_, ?_, ?_, h1, h2, ?_, by rw [e1, e4]; exact h.ne1, by rw [e1, e3, e4]; exact h.ne2⟩
  · rw [hB, e1, e2]; exact ownsRow_other h.bs hk (fun k e => by cases e; exact fun e => h.ne1.1 e.symm)
  · rw [hB, e4, e5]; exact ownsRow_other h.ls hk (fun k e => by cases e; exact fun e => h.ne1.2.1 e.symm)
  · rw [hW, e3]; exact ownsRow_other h.ws hk (fun k e e2 => h.ne2.1 (by rw [e, e2]))
  · exact ⟨by rw [hB]; exact h.fine.n, by rw [hB]; exact h.fine.b256, by rw [hB, hW]; exact h.fine.w⟩

end Go.Proofs.Ytjmeneddhalodaa
