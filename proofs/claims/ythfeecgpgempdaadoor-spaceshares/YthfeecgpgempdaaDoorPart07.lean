/- The texts MpP6, SgP4, SpO, SShares, SpX, SKeeps, one behind the other. -/
import Derived.Test.YthfeecgpgempdaaDoorPart06
import Derived.Lib.SliceRun
import Derived.Deep.CutRange
import Derived.Deep.RegionHeld
import Derived.BigQuiet
import Derived.Test.YthfeecgpgempdaaDoorPart05
import Derived.Deep.CutBlock

/- The program's map: Clone. -/
namespace Go.Proofs.YthfeecgpgempdaaDoor
set_option linter.unusedVariables false
set_option linter.unusedSimpArgs false
open Go.RowKit Dg

set_option maxHeartbeats 4000000 in
set_option maxRecDepth 100000 in
theorem mclone_is (w : World) (b g c : Nat) (m : List Bool) (h : MpIs w b g c m) :
    Calls Tryd.prog 45 #[.pointer (some ⟨b, 0, none⟩)] w fun e w' => ∃ b2 g2 c2, e = .returned (.pointer (some ⟨b2, 0, none⟩)) ∧ MpIs w' b2 g2 c2 m ∧ w.heap.size ≤ b2 ∧ w.heap.size ≤ g2 ∧ Below w.heap.size w w' := by
  obtain ⟨c0, c1⟩ := h.cell
  have hlen := h.len
  have hd : w.drew.ownsRow 0 77 1 (.slice (some ⟨g, 0, none⟩) (wsOf m).length c) (wsOf m).length (w64s (wsOf m)) := ownsRow_other h.ws (Kept.refl (fun _ => False) _).drew (fun _ _ h => h)
  have HC := hid_of (mcw_any w.drew g _ c (wsOf m) hlen.2.1 (by omega) hd)
  have H0 := hid_of h
  obtain ⟨L, hL⟩ : ∃ L, L = (wsOf m).length := ⟨_, rfl⟩
  obtain ⟨n, hn⟩ : ∃ n, n = m.length := ⟨_, rfl⟩
  rw [← hn] at c0
  rw [← hL] at c1 HC
  have HL := hid_of hL
  have HN := hid_of hn
  have hbl := h.lt.1
  have HCL : Hid (∀ W : World, Below w.heap.size w W → W.cell? ⟨b, 0, none⟩ = some (.int .i64 (n : Int)) ∧ W.cell? ⟨b, 1, none⟩ = some (.slice (some ⟨g, 0, none⟩) L c)) := fun W hW => by
    rw [hW.cell (p := ⟨b, 0, none⟩) hbl, hW.cell (p := ⟨b, 1, none⟩) hbl]; exact ⟨c0, c1⟩
  clear h hL hn hlen hd
  go_enter Tryd.func45, Tryd.ntmps45
  go_upto_region 1 with fail
  go_region_with (go_at_call 53; refine HC.out.mono ?_; rintro e w2 ⟨g2, c2, rfl, ho2, hb2⟩; have HO2 := hid_of ho2; have HB2 : Hid (Below w.heap.size w w2) := ((Below.refl w.heap.size w).drew).trans hb2; obtain ⟨hcc0, hcc1⟩ := HCL.out w2 HB2.out; clear ho2 hb2)
  all_goals
    go_wp2_with fail
    go_ret
    have hg := World.ownsRow.lt HO2.out g2 rfl
    have hg' : w.heap.size ≤ g2 := hg.1
    have hsz := HB2.out.size
    have hT := H0.out.tab
    refine ⟨w2.heap.size, g2, c2, rfl, ⟨?_, ?_, ?_, H0.out.pos, H0.out.le, ?_⟩, hsz, hg', HB2.out.alloc hsz _⟩
    · rw [heap_alloc_new, ← HL.out, ← HN.out]
    · rw [← HL.out]
      exact ownsRow_base (World.ownsRow.alloc HO2.out _) (Nat.zero_le _)
    · exact (hT.below HB2.out hT.lt).kept (Kept.alloc (fun _ => False) _ _) (fun h => h)
    · have := hT.lt
      have := hg.2
      exact ⟨by omega, by omega, by omega⟩

end Go.Proofs.YthfeecgpgempdaaDoor

/- The program's space: Clone; THE BUNDLE of the landed space. -/
namespace Go.Proofs.YthfeecgpgempdaaDoor
set_option linter.unusedVariables false
set_option linter.unusedSimpArgs false
open Go.RowKit Dg

theorem below_step {w w1 w2 : World} (h1 : Below w.heap.size w w1) (h2 : Below w1.heap.size w1 w2) : Below w.heap.size w w2 :=
  h1.trans ⟨h2.os, h2.tape, h2.output, h2.size, fun k hk => h2.block k (Nat.lt_of_lt_of_le hk h1.size)⟩
set_option maxRecDepth 100000 in
set_option maxHeartbeats 4000000 in
theorem gclone_is (w : World) (hT : Tab w) (b : Nat) (x : SgB) (s : Sd) (h : SgIs w b x s) :
    Calls Tryd.prog 24 #[.pointer (some ⟨b, 0, none⟩)] w fun e w' => ∃ (b' : Nat) (x' : SgB), e = .returned (.pointer (some ⟨b', 0, none⟩)) ∧ SgIs w' b' x' s ∧ (∀ k, x'.In b' k → w.heap.size ≤ k) ∧ Below w.heap.size w w' := by
  obtain ⟨c0, c1, c2⟩ := h.cell
  have H0 := hid_of h
  have HT := hid_of hT
  have HCELL : Hid (∀ W : World, Below w.heap.size w W → W.cell? ⟨b, 0, none⟩ = some (.int .i64 (s.fx : Int)) ∧ W.cell? ⟨b, 1, none⟩ = some (.pointer (some ⟨x.mb, 0, none⟩)) ∧ W.cell? ⟨b, 2, none⟩ = some (.pointer (some ⟨x.rb, 0, none⟩))) := fun W hW => (h.newer hW).cell
  have HM : Hid (∀ W : World, Below w.heap.size w W → Calls Tryd.prog 45 #[.pointer (some ⟨x.mb, 0, none⟩)] W fun e w' => ∃ b2, e = .returned (.pointer (some ⟨b2, 0, none⟩)) ∧ Hid (∃ g2 c2, MpIs w' b2 g2 c2 (mOf s) ∧ W.heap.size ≤ b2 ∧ W.heap.size ≤ g2) ∧ Hid (Below W.heap.size W w')) := fun W hW =>
    (mclone_is W x.mb x.mg x.mc (mOf s) ((h.newer hW).mp.is (hT.below hW hT.lt))).mono fun e w' ⟨b2, g2, c2, e1, e2, e3, e4, e5⟩ => ⟨b2, e1, ⟨g2, c2, e2, e3, e4⟩, e5⟩
  have HR : Hid (∀ W : World, Below w.heap.size w W → Calls Tryd.prog 46 #[.pointer (some ⟨x.rb, 0, none⟩)] W fun e w' => ∃ b2, e = .returned (.pointer (some ⟨b2, 0, none⟩)) ∧ Hid (∃ g2 c2, TaIs w' b2 g2 c2 s.C ∧ W.heap.size ≤ b2 ∧ W.heap.size ≤ g2) ∧ Hid (Below W.heap.size W w')) := fun W hW =>
    (tclone_is W x.rb x.rg x.rc s.C (h.newer hW).rf).mono fun e w' ⟨b2, g2, c2, e1, e2, e3, e4, e5⟩ => ⟨b2, e1, ⟨g2, c2, e2, e3, e4⟩, e5⟩
  obtain ⟨F, hF⟩ : ∃ F, F = s.fx := ⟨_, rfl⟩
  have HF := hid_of hF
  rw [← hF] at c0 HCELL
  clear h hT hF
  go_enter Tryd.func24, Tryd.ntmps24
  go_upto_region 1 with fail
  go_region_held (fun W => W.cell? ⟨b, 0, none⟩ = some (.int .i64 (F : Int)) ∧ W.cell? ⟨b, 1, none⟩ = some (.pointer (some ⟨x.mb, 0, none⟩)) ∧ W.cell? ⟨b, 2, none⟩ = some (.pointer (some ⟨x.rb, 0, none⟩))) (first | assumption | go_keep) (first
    | (go_at_call 45; refine (HM.out _ (below_drewN (Below.refl _ _) 1)).mono ?_; rintro e w2 ⟨b2, rfl, HM2, HB2⟩; have HW2 : Hid (Below w.heap.size w w2) := below_step (below_drewN (Below.refl _ _) 1) HB2.out; have hcc := HCELL.out w2 HW2.out)
    | (go_at_call 46; refine (HR.out _ HW2.out).mono ?_; rintro e w3 ⟨b3, rfl, HR3, HB3⟩; have HW3 : Hid (Below w.heap.size w w3) := below_step HW2.out HB3.out; have hcc := HCELL.out w3 HW3.out))
  all_goals
    go_wp2_with fail
    go_ret
    obtain ⟨g2, c2, m1, m2, m3⟩ := HM2.out
    obtain ⟨g3, c3, r1, r2, r3⟩ := HR3.out
    have hs0 : (w.drewN 1).heap.size = w.heap.size := rfl
    have hs2 := HW2.out.size
    have hs3 := HB3.out.size
    have hml := m1.lt
    have hrl := r1.lt
    have hTl := HT.out.lt
    have hbT := H0.out.nt.1
    have hm2 : w.heap.size ≤ b2 := m2
    have hm3 : w.heap.size ≤ g2 := m3
    have hal : Kept (fun _ => False) w3 (w3.alloc (.cells #[.int .i64 (F : Int), .pointer (some ⟨b2, 0, none⟩), .pointer (some ⟨b3, 0, none⟩)] 55)) := Kept.alloc _ _ _
    have hm' : MpR w3 b2 g2 c2 (mOf s) := m1.r.kept (X := fun k => w2.heap.size ≤ k) ⟨HB3.out.os, HB3.out.tape, HB3.out.output, HB3.out.size, fun k hk hf => HB3.out.block k hk⟩ (by omega) (by omega)
    refine ⟨w3.heap.size, ⟨b2, g2, c2, b3, g3, c3⟩, rfl, ⟨?_, hm'.kept hal (fun h => h) (fun h => h), r1.kept hal (fun h => h) (fun h => h), H0.out.fine, ⟨?_, ?_, ?_, ?_⟩, ⟨?_, ?_, ?_, ?_⟩, ?_, ?_, ?_⟩, ?_, HW3.out.alloc HW3.out.size _⟩
    · rw [heap_alloc_new, ← HF.out]
    · show w3.heap.size ≠ b2; omega
    · show w3.heap.size ≠ g2; omega
    · show w3.heap.size ≠ b3; omega
    · show w3.heap.size ≠ g3; omega
    · show b2 ≠ b3; omega
    · show b2 ≠ g3; omega
    · show g2 ≠ b3; omega
    · show g2 ≠ g3; omega
    · show w3.heap.size ≠ _; omega
    · show b3 ≠ _; omega
    · show g3 ≠ _; omega
    · rintro k (rfl | rfl | rfl | rfl | rfl)
      · omega
      · exact hm2
      · exact hm3
      · exact Nat.le_trans hs2 r2
      · exact Nat.le_trans hs2 r3

theorem sg_mem : SpMem Sg where
  lt := fun ⟨x, h, hF⟩ k hk => h.lt k ((hF k).1 hk)
  keep := fun ⟨x, h, hF⟩ hk hX => ⟨x, h.kept hk (fun k hk2 => hX k ((hF k).2 hk2)), hF⟩
  fine := fun ⟨x, h, hF⟩ => h.fine
/-- The bundle of the landed code. -/
theorem spcW : Spc Sg Tab where
  mem := sg_mem
  okK := fun hT hk => hT.kept hk (fun e => by have := hT.lt; omega)
  newB := fun w n fx hT h1 h2 h3 => (gnew_is w hT n fx h1 h2 h3).mono fun e w' ⟨b, x, e1, e2, e3, e4⟩ => ⟨b, _, e1, e2.sg, e3, e4⟩
  takeB := fun w b F s hT ⟨x, h, hF⟩ hC => (gtake_is w hT b x s h hC).mono fun e w' ⟨e1, e2, e3⟩ => ⟨e1, e2.to hF e3⟩
  dropB := fun w b F s i hT ⟨x, h, hF⟩ hi hC => (gdrop_is w b x s h i hi hC _ rfl _ rfl).mono fun e w' ⟨e1, e2, e3⟩ => ⟨e1, e2.to hF (e3.mono fun k _ e => In.rg e)⟩
  commitB := fun w b F s hT ⟨x, h, hF⟩ hC => (gcommit_is w hT b x s h).mono fun e w' ⟨e1, e2, e3⟩ => ⟨e1, F, ⟨x, e2, hF⟩, e3.mono (fun k hk e => (hF k).2 (In.mg (by omega))), fun k e => .inl e⟩
theorem spShareW : SpShare Sg Tab := fun w b F s i hT ⟨x, h, hF⟩ hi hC => (gshare_is w b x s h i hi hC _ rfl _ rfl).mono fun e w' ⟨e1, e2, e3⟩ => ⟨e1, e2.to hF (e3.mono fun k _ e => In.rg e)⟩
theorem spKeepW : SpKeep Sg Tab := fun w b F s a n cap l hT ⟨x, h, hF⟩ ha hl hn h64 hX h0 hc1 hc2 hC =>
  (gkeep_is w hT b x s h a n cap l ha hl hn h64 (fun hne y hy e => hX hne y hy ((hF _).2 e)) (fun hne y hy => by
    cases l with
    | nil => exact absurd rfl hne
    | cons z l =>
      obtain ⟨b', off, e1, e2⟩ := ha 0 z rfl
      rw [e1] at hy
      cases hy
      exact World.block_lt_of_cell? w _ e2) _ rfl _ rfl).mono fun e w' ⟨e1, x', e2, e3, e4⟩ => ⟨e1, _, e2.sg, e3.mono fun k _ e => (hF k).2 e, fun k e => (e4 k e).imp (hF k).2 id⟩
theorem spFreeW : SpFree Sg Tab := fun w b F s hT ⟨x, h, hF⟩ hC => (gfree_is w hT b x s h _ rfl).mono fun e w' ⟨e1, k, e2⟩ => ⟨e1, e2 ▸ below_drewN (Below.refl _ _) k⟩
theorem spUsedW : SpUsedQ Sg Tab := fun w b F s i hT ⟨x, h, hF⟩ hi hC => (gused_is w hT b x s h i hi _ rfl).mono fun e w' ⟨e1, e2⟩ => ⟨e1, 0, e2.symm⟩
theorem spOfW : SpOfQ Sg Tab := fun w b F s i hT ⟨x, h, hF⟩ hi hC => gof_is w b x s h i hi _ rfl
theorem spWaitsW : SpWaits Sg Tab := fun w b F s hT ⟨x, h, hF⟩ hC => gwaits_is w hT b x s h
theorem spCloneW : SpClone Sg Tab := fun w b F s hT ⟨x, h, hF⟩ hC => (gclone_is w hT b x s h).mono fun e w' ⟨b', x', e1, e2, e3, e4⟩ => ⟨b', _, e1, e2.sg, e3, e4⟩

end Go.Proofs.YthfeecgpgempdaaDoor

/- The document's example of layer 13, over the bundle. -/
namespace Go.Proofs.YthfeecgpgempdaaDoor
set_option linter.unusedVariables false
set_option linter.unusedSimpArgs false
open Go.RowKit Dg

theorem below_keptS {w w' : World} (hb : Below w.heap.size w w') : Kept (fun k => w.heap.size ≤ k) w w' := ⟨hb.os, hb.tape, hb.output, hb.size, fun k hk hf => hb.block k (Nat.lt_of_not_le hf)⟩
set_option maxRecDepth 100000 in
set_option maxHeartbeats 4000000 in
theorem wakes13_any {Si : SpP} {Ok : World → Prop} (S : Spc Si Ok) (FR : SpFree Si Ok) (w : World) (hok : Ok w) :
    Calls Tryd.prog 19 #[] w fun e w' => e = .returned (.bool true) ∧ Below w.heap.size w w' := by
  have HN := hid_of (sb_new S hok (Kept.refl (fun k => w.heap.size ≤ k) w) 4 2 (by decide) (by decide) (by decide))
  clear hok
  go_enter Tryd.func19, Tryd.ntmps19
  go_wp2_with fail
  refine HN.out.mono ?_
  rintro e w1 ⟨b, rfl, h1, -⟩
  have H1 : Hid (Sb Si Ok w (fun k => k < w.heap.size) w1 b ⟨4, 2, [0, 0, 0, 0], [false, false, false, false]⟩) := h1
  clear h1 HN
  go_wp2_with fail
  refine (sb_take S H1.out (by decide) 2 0 rfl ⟨4, 2, [0, 0, 1, 0], [false, false, false, false]⟩ rfl).mono ?_
  rintro e w2 ⟨rfl, h2, -⟩
  have H2 := hid_of h2
  clear h2 H1
  go_wp2_with fail
  refine (sb_drop S H2.out 2 ⟨by decide, by decide⟩ (by decide) true rfl ⟨4, 2, [0, 0, 0, 0], [false, false, true, false]⟩ rfl).mono ?_
  rintro e w3 ⟨rfl, h3, -⟩
  have H3 := hid_of h3
  clear h3 H2
  go_wp2_with fail
  refine (sb_free S FR H3.out (by decide) 1 rfl).mono ?_
  rintro e w4 ⟨rfl, h4, -⟩
  have H4 := hid_of h4
  clear h4 H3
  go_wp2_with fail
  refine (sb_commit S H4.out (by decide) 1 rfl ⟨4, 2, [0, 0, 0, 0], [false, false, false, false]⟩ rfl).mono ?_
  rintro e w5 ⟨rfl, h5, -⟩
  have H5 := hid_of h5
  clear h5 H4
  go_wp2_with fail
  refine (sb_free S FR H5.out (by decide) 2 rfl).mono ?_
  rintro e w6 ⟨rfl, h6, -⟩
  have H6 := hid_of h6.end_
  clear h6 H5
  go_wp2_with fail
  go_ret
  exact ⟨rfl, H6.out⟩

end Go.Proofs.YthfeecgpgempdaaDoor

/- SpaceShares over the bundle. -/
namespace Go.Proofs.YthfeecgpgempdaaDoor
set_option linter.unusedVariables false
set_option linter.unusedSimpArgs false
open Go.RowKit Dg

/-- Five sectors, two of them fixed: sector 2 has c, or waits. -/
def shS (c : Nat) (v : Bool) : Sd := ⟨5, 2, [0, 0, c, 0, 0], [false, false, v, false, false]⟩
theorem shS_of (c : Nat) (v : Bool) : (shS c v).of 2 = c := rfl
theorem shS_sum (c : Nat) (v : Bool) : sumC (shS c v).C = c := by
  show 0 + 0 + 0 + c + 0 + 0 = c
  omega
theorem shS_share (c : Nat) (v : Bool) (h : 0 < c) : (shS c v).shareS 2 = shS (c + 1) v := by
  unfold Sd.shareS
  rw [shS_of, if_pos h]
  rfl
theorem shS_less (c : Nat) : (shS (c + 1) false).lessS 2 = shS c (decide (c = 0)) := by
  unfold Sd.lessS
  rw [shS_of, if_pos (by omega)]
  rfl
theorem lit1S (w : World) (x : Int) : IntsAt (w.alloc (.cells #[.int .i64 x] 3)) (some ⟨w.heap.size, 0, none⟩) [x] := by
  intro j y hj
  match j, hj with
  | 0, hj =>
    simp at hj
    subst hj
    exact ⟨w.heap.size, 0, rfl, by unfold World.cell?; rw [heap_alloc_new]; rfl⟩
set_option maxRecDepth 100000 in
set_option maxHeartbeats 8000000 in
theorem sshares_any {Si : SpP} {Ok : World → Prop} (S : Spc Si Ok) (SH : SpShare Si Ok) (FR : SpFree Si Ok) (US : SpUsed Si Ok) (OF : SpOf Si Ok) (WA : SpWaits Si Ok) (W : World) (hok : Ok W) (n0 : Int) (hn : I64 n0) :
    Calls Tryd.prog 3 #[.int .i64 n0] W fun e W' => e = .returned (.bool true) ∧ Below W.heap.size W W' := by
  obtain ⟨hn1, hn2⟩ := hn
  obtain ⟨n, hnn⟩ : ∃ n : Nat, (n : Int) = n0 % 9 := ⟨(n0 % 9).toNat, by omega⟩
  have hn9 : n ≤ 8 := by omega
  have HW : Hid (Calls Tryd.prog 8 #[.int .i64 n0, .int .i64 9] W fun e w' => e = .returned (.int .i64 (n : Int)) ∧ W = w') := by rw [hnn]; exact within_any n0 9 W hn1 hn2 (by decide) (by decide)
  have HN := hid_of (sb_new S hok (Kept.refl (fun k => W.heap.size ≤ k) W) 5 2 (by decide) (by decide) (by decide))
  have HOK := hid_of hok
  clear hok hnn
  go_enter Tryd.func3, Tryd.ntmps3
  go_wp2_with fail
  refine HW.out.mono ?_
  rintro e w0 ⟨rfl, rfl⟩
  go_wp2_with fail
  refine HN.out.mono ?_
  rintro e w1 ⟨b, rfl, h1, -⟩
  have H1 : Hid (Sb Si Ok W (fun k => k < W.heap.size) w1 b (shS 0 false)) := h1
  clear h1 HN HW
  go_wp2_with fail
  refine (sb_take S H1.out (by decide) 2 0 rfl (shS 1 false) rfl).mono ?_
  rintro e w2 ⟨rfl, h2, -⟩
  have H2 := hid_of h2
  clear h2 H1
  go_wp2_with fail
  go_loopw [7] (fun v wr => ∃ j : Nat, j ≤ n ∧ v = .int .i64 (j : Int) ∧ Hid (Sb Si Ok W (fun k => k < W.heap.size) wr b (shS (j + 1) false))) (fun v _ => n - (intOf v).toNat)
  case atStart => exact ⟨0, Nat.zero_le _, rfl, H2⟩
  case round =>
    obtain ⟨j, hj, rfl, HS⟩ := hrel
    by_cases hjn : j < n
    · have HC := hid_of (sb_share S SH HS.out 2 ⟨by decide, by decide⟩ (by rw [shS_sum]; omega) true (by rw [shS_of]; exact (decide_eq_true (by omega)).symm) (shS (j + 1 + 1) false) (shS_share _ _ (by omega)).symm)
      go_wp2_with fail
      refine HC.out.mono ?_
      rintro e w3 ⟨rfl, h3, -⟩
      have H3 := hid_of h3
      clear h3
      go_wp2_with fail
      refine ⟨?_, by (simp [intOf]) <;> omega⟩
      first
        | exact ⟨j + 1, by omega, by go_num, H3⟩
        | ((repeat apply Exists.intro); refine ⟨?_, rfl⟩; exact ⟨j + 1, by omega, by go_num, H3⟩)
    · obtain rfl : j = n := by omega
      go_wp2_with fail
      go_loopw [8] (fun v wr => ∃ i c : Nat, c + i = j + 1 ∧ v = .int .i64 (i : Int) ∧ Hid (Sb Si Ok W (fun k => k < W.heap.size) wr b (shS c (decide (c = 0))))) (fun v _ => j + 1 - (intOf v).toNat)
      case atStart => exact ⟨0, j + 1, rfl, rfl, HS⟩
      case round =>
        obtain ⟨i, c, hic, rfl, HS2⟩ := hrel
        by_cases hij : i ≤ j
        · obtain ⟨d, rfl⟩ : ∃ d, c = d + 1 := ⟨c - 1, by omega⟩
          have HS3 : Hid (Sb Si Ok W (fun k => k < W.heap.size) wr b (shS (d + 1) false)) := HS2
          have hbi : decide ((i : Int) ≤ (j : Int)) = true := decide_eq_true (by omega)
          have hval : (j : Int) + 1 - (i : Int) = ((d + 1 : Nat) : Int) := by omega
          have hval2 : (j : Int) + 1 - (i : Int) = (d : Int) + 1 := by omega
          have hne : (((d : Int) + 1) != ((d : Int) + 1)) = false := by simp
          clear HS2
          go_wp2_with fail
          refine (sb_waits S WA HS3.out (by rw [shS_sum]; omega) [] rfl).mono ?_
          rintro e w3 ⟨v3, rfl, ho3, h3, -⟩
          obtain ⟨a3, c3, rfl, -, -⟩ := ho3.slice
          have H3 := hid_of h3
          clear h3 ho3
          go_wp2_with fail
          refine (sb_of S OF H3.out 2 ⟨by decide, by decide⟩ (by rw [shS_sum]; omega) (d + 1) (shS_of _ _).symm).mono ?_
          rintro e w4 ⟨rfl, h4, -⟩
          have H4 := hid_of h4
          clear h4 H3
          go_wp2_with fail
          refine (sb_drop S H4.out 2 ⟨by decide, by decide⟩ (by rw [shS_sum]; omega) true (by rw [shS_of]; exact (decide_eq_true (by omega)).symm) (shS d (decide (d = 0))) (shS_less d).symm).mono ?_
          rintro e w5 ⟨rfl, h5, -⟩
          have H5 := hid_of h5
          clear h5 H4
          go_wp2_with fail
          refine ⟨?_, by (simp [intOf]) <;> omega⟩
          first
            | exact ⟨i + 1, d, by omega, by go_num, H5⟩
            | ((repeat apply Exists.intro); refine ⟨?_, rfl⟩; exact ⟨i + 1, d, by omega, by go_num, H5⟩)
        · obtain rfl : c = 0 := by omega
          have HS3 : Hid (Sb Si Ok W (fun k => k < W.heap.size) wr b (shS 0 true)) := HS2
          have hbi : decide ((i : Int) ≤ (j : Int)) = false := decide_eq_false (by omega)
          clear HS2
          go_wp2_with fail
          refine (sb_waits S WA HS3.out (by rw [shS_sum]; omega) [2] rfl).mono ?_
          rintro e w3 ⟨v3, rfl, ho3, h3, -⟩
          obtain ⟨a3, c3, hv3, hi3, -⟩ := ho3.slice
          have hv3' : v3 = .slice a3 1 c3 := hv3
          subst hv3'
          have HI3 : Hid (IntsAt (w3.alloc (.cells #[.int .i64 2] 3)) a3 [2]) := hi3.kept (Kept.alloc (fun _ => False) _ _) (fun x hx h => h)
          have HSM : Hid (Calls Tryd.prog 15 #[.slice a3 1 c3, .slice (some ⟨w3.heap.size, 0, none⟩) 1 1] (w3.alloc (.cells #[.int .i64 2] 3)) fun e w' => e = .returned (.bool true) ∧ ∃ q, w' = (w3.alloc (.cells #[.int .i64 2] 3)).drewN q) :=
            sameInt_any (w3.alloc (.cells #[.int .i64 2] 3)) a3 (some ⟨w3.heap.size, 0, none⟩) c3 1 [2] HI3.out (lit1S w3 2) (by decide)
          have H3 : Hid (∀ q, Sb Si Ok W (fun k => k < W.heap.size) ((w3.alloc (.cells #[.int .i64 2] 3)).drewN q) b (shS 0 true)) := fun q => (h3.newer S ((Below.refl _ _).alloc (Nat.le_refl _) _)).draws S q
          clear h3 ho3 hi3 hv3 HI3
          go_wp2_with fail
          refine HSM.out.mono ?_
          rintro e w4 ⟨rfl, q, rfl⟩
          go_wp2_with fail
          refine (sb_drop S (H3.out q) 2 ⟨by decide, by decide⟩ (by decide) false rfl (shS 0 true) rfl).mono ?_
          rintro e w5 ⟨rfl, h5, -⟩
          have H5 := hid_of h5
          clear h5 H3 HSM
          go_wp2_with fail
          refine (sb_share S SH H5.out 2 ⟨by decide, by decide⟩ (by decide) false rfl (shS 0 true) rfl).mono ?_
          rintro e w6 ⟨rfl, h6, -⟩
          have H6 := hid_of h6
          clear h6 H5
          go_wp2_with fail
          refine (sb_used S US H6.out 2 ⟨by decide, by decide⟩ (by decide) true rfl).mono ?_
          rintro e w7 ⟨rfl, h7, -⟩
          have H7 := hid_of h7
          clear h7 H6
          go_wp2_with fail
          refine (sb_free S FR H7.out (by decide) 2 rfl).mono ?_
          rintro e w8 ⟨rfl, h8, -⟩
          have H8 := hid_of h8
          clear h8 H7
          go_wp2_with fail
          refine (sb_commit S H8.out (by decide) 1 rfl (shS 0 false) rfl).mono ?_
          rintro e w9 ⟨rfl, h9, -⟩
          have H9 := hid_of h9
          clear h9 H8
          go_wp2_with fail
          refine (sb_used S US H9.out 2 ⟨by decide, by decide⟩ (by decide) false rfl).mono ?_
          rintro e w10 ⟨rfl, h10, -⟩
          have H10 := hid_of h10
          clear h10 H9
          go_wp2_with fail
          refine (sb_free S FR H10.out (by decide) 3 rfl).mono ?_
          rintro e w11 ⟨rfl, h11, -⟩
          have H11 := hid_of h11
          clear h11 H10
          go_wp2_with fail
          refine (wakes13_any S FR w11 (H11.out.okw S)).mono ?_
          rintro e w12 ⟨rfl, h12⟩
          have H12 := hid_of (H11.out.newer S h12).end_
          clear h12 H11
          go_wp2_with fail
          go_ret
          exact ⟨rfl, H12.out⟩

end Go.Proofs.YthfeecgpgempdaaDoor

/- A space, a row of numbers of one's own beside it, and variables that are arrays. -/
namespace Go.Proofs.YthfeecgpgempdaaDoor
set_option linter.unusedVariables false
set_option linter.unusedSimpArgs false
open Go.RowKit Dg

/-- A variable that is an array, in block g. -/
def ArrV (t : TypeId) (w : World) (g : Nat) (vs : List Value) : Prop := w.heap[g]? = some (.cells vs.toArray t (0, 0))
theorem ArrV.lt {t : TypeId} {w : World} {g : Nat} {vs : List Value} (h : ArrV t w g vs) : g < w.heap.size := by
  have h' : w.heap[g]? = some (.cells vs.toArray t (0, 0)) := h
  exact (Array.getElem?_eq_some_iff.1 h').1
theorem ArrV.cell {t : TypeId} {w : World} {g k : Nat} {vs : List Value} {x : Value} (h : ArrV t w g vs) (hx : vs[k]? = some x) : w.cell? ⟨g, k, none⟩ = some x ∧ w.frozen? ⟨g, k, none⟩ = false := by
  have h' : w.heap[g]? = some (.cells vs.toArray t (0, 0)) := h
  exact ⟨by simp [World.cell?, h']; simpa using hx, by simp [World.frozen?, h']⟩
theorem ArrV.set {t : TypeId} {w : World} {g : Nat} {vs : List Value} (h : ArrV t w g vs) (k : Nat) (y : Value) : ArrV t (w.setCell ⟨g, k, none⟩ y) g (vs.set k y) := by
  have h' : w.heap[g]? = some (.cells vs.toArray t (0, 0)) := h
  show _ = _
  rw [heap_setCell_of h']
  simp
theorem ArrV.kept {t : TypeId} {w w' : World} {g : Nat} {vs : List Value} {F : Nat → Prop} (h : ArrV t w g vs) (hk : Kept F w w') (hF : ¬ F g) : ArrV t w' g vs := by
  show _ = _
  rw [hk.block g h.lt hF]
  exact h
theorem ArrV.newer {t : TypeId} {w w' : World} {g : Nat} {vs : List Value} (h : ArrV t w g vs) (hb : Below w.heap.size w w') : ArrV t w' g vs := by
  show _ = _
  rw [hb.block g h.lt]
  exact h
theorem ArrV.new (t : TypeId) (w : World) (vs : List Value) : ArrV t (w.alloc (.cells vs.toArray t)) w.heap.size vs := heap_alloc_new w _

/-- A space and a row beside it, both made behind W; the blocks X are neither's. -/
structure Sx (Si : SpP) (Ok : World → Prop) (W : World) (X : Nat → Prop) (w : World) (b : Nat) (s : Sd) (v : Value) (xs : List Int) : Prop where
  sb : Sb Si Ok W (fun k => X k ∨ v.ownBlock = some k) w b s
  row : OwnInts w W.heap.size v xs
  ne : ∀ k, X k → v.ownBlock ≠ some k
theorem Sx.newer {Si : SpP} {Ok : World → Prop} (S : Spc Si Ok) {W w w' : World} {X : Nat → Prop} {b : Nat} {s : Sd} {v : Value} {xs : List Int} (h : Sx Si Ok W X w b s v xs) (hb : Below w.heap.size w w') : Sx Si Ok W X w' b s v xs :=
  ⟨h.sb.newer S hb, h.row.below hb (fun k e => (World.ownsRow.lt h.row k e).2), h.ne⟩
theorem Sx.draws {Si : SpP} {Ok : World → Prop} (S : Spc Si Ok) {W w : World} {X : Nat → Prop} {b : Nat} {s : Sd} {v : Value} {xs : List Int} (h : Sx Si Ok W X w b s v xs) (n : Nat) : Sx Si Ok W X (w.drewN n) b s v xs := h.newer S (below_drewN (Below.refl _ _) n)
/-- Behind a call that turns the space. -/
theorem Sx.turned {Si : SpP} {Ok : World → Prop} {W w w' : World} {X : Nat → Prop} {b : Nat} {s s' : Sd} {v : Value} {xs : List Int} (h : Sx Si Ok W X w b s v xs) (ht : Sb Si Ok W (fun k => X k ∨ v.ownBlock = some k) w' b s') (hk : Kept (fun k => ¬ (k < W.heap.size ∨ (X k ∨ v.ownBlock = some k))) w w') : Sx Si Ok W X w' b s' v xs :=
  ⟨ht, ownsRow_other h.row hk (fun k e e2 => e2 (.inr (.inr e))), h.ne⟩
/-- A variable of X is written. -/
theorem Sx.write {Si : SpP} {Ok : World → Prop} (S : Spc Si Ok) {W w w' : World} {X : Nat → Prop} {b g : Nat} {s : Sd} {v : Value} {xs : List Int} (h : Sx Si Ok W X w b s v xs) (hk : Kept (fun k => k = g) w w') (hX : X g) (hg : W.heap.size ≤ g) : Sx Si Ok W X w' b s v xs :=
  ⟨h.sb.keep S (hk.mono fun k _ e => by subst e; exact .inl ⟨.inl hX, hg⟩) (fun k e => .inl e), ownsRow_other h.row hk (fun k e e2 => h.ne g hX (e2 ▸ e)), h.ne⟩
theorem Sx.start {Si : SpP} {Ok : World → Prop} {W w : World} {X : Nat → Prop} {b : Nat} {s : Sd} (h : Sb Si Ok W X w b s) : Sx Si Ok W X w b s (.slice none 0 0) [] := by
  obtain ⟨F, h1, h2⟩ := h.at_
  exact ⟨⟨h.ok, h.kept, F, h1, fun k e => h2 k (by rcases e with e | e | e; exact .inl e; exact .inr e; cases e)⟩, OwnInts.nil _ _, fun k _ e => by cases e⟩
/-- 'append(x, n)' of one number that was just built. -/
theorem wpList_append_sx {P : Program} {Si : SpP} {Ok : World → Prop} (S : Spc Si Ok) (W w0 : World) {X : Nat → Prop} {ops : Array Oper} {rest : List Oper} {o : Oper} {a : Act} {Q : Exit → Act → World → Prop}
    (hgd : o.guard = none) (sl x : Operand) (t : TypeId) (ho : o.op = .call { callee := .builtin .append, args := #[sl, x], argTypes := #[t, t] })
    (i : TypeInfo) (ht : P.underlying t = some (.slice 3)) (hi : P.info? 3 = some i) (hz : i.zero = some (.int .i64 0)) (hsize : i.size = 1) (hby : i.bytes = 8)
    (b : Nat) (s : Sd) (xv : Value) (xs : List Int) (hs : a.eval sl = xv) (hr : Sx Si Ok W X w0 b s xv xs) (y : Int) (hx : a.eval x = .slice (some ⟨w0.heap.size, 0, none⟩) 1 1)
    (hl : xs.length ≤ 1000000) (hXl : ∀ k, X k → k < w0.heap.size)
    (h : ∀ v' w', Hid (Sx Si Ok W X w' b s v' (xs ++ [y])) → Hid (Kept (fun k => xv.ownBlock = some k ∨ w0.heap.size ≤ k) w0 w') → wpList P ops Q rest (a.put o.dst v') w') : wpList P ops Q (o :: rest) a (w0.alloc (.cells #[.int .i64 y] 3)) := by
  have hbs : W.heap.size ≤ w0.heap.size := hr.sb.kept.size
  refine wpList_append_mine _ hgd sl x t ho W.heap.size 3 i (.int .i64 0) 1 8 ht hi hz hsize hby rfl (by decide) xv xs.length (i64s xs) hs (World.ownsRow.alloc hr.row _) ⟨w0.heap.size, 0, none⟩ 1 1 [.int .i64 y] hx rfl ?c1 ?c2 (by decide) ?b1 ?b2 ?b3 ?_
  case c1 => intro j u hj; match j, hj with | 0, hj => simp at hj; subst hj; simp [Addr.add]
  case c2 => intro u hu; simp at hu; subst hu; rfl
  case b1 => unfold maxLen; omega
  case b2 => omega
  case b3 => simp; omega
  intro g cap w' H1 HG HN
  have hk : Kept (fun k => xv.ownBlock = some k ∨ w0.heap.size ≤ k) w0 w' := by
    have e1 : Kept (fun k => xv.ownBlock = some k ∨ w0.heap.size ≤ k) w0 (w0.alloc (.cells #[.int .i64 y] 3)) := Kept.alloc _ _ _
    exact e1.trans ((Kept.grown HG.out).mono (fun k _ e => .inl e))
  have hg := World.ownsRow.lt H1.out g rfl
  have hnew : xv.ownBlock = some g ∨ w0.heap.size ≤ g := by
    rcases HN.out with e4 | e4
    · exact .inl e4
    · have e5 : w0.heap.size ≤ (w0.alloc (.cells #[.int .i64 y] 3)).heap.size := by simp
      exact .inr (by omega)
  refine h _ w' ⟨?_, ?_, ?_⟩ hk
  · refine hr.sb.keep S (hk.mono (fun k _ e => by
      rcases e with e | e
      · exact .inl ⟨.inr e, (World.ownsRow.lt hr.row k e).1⟩
      · exact .inr e)) (fun k e => ?_)
    rcases e with e | e
    · exact .inl (.inl e)
    · have e3 : g = k := by simpa [Value.ownBlock] using e
      subst e3
      rcases hnew with e4 | e4
      · exact .inl (.inr e4)
      · exact .inr ⟨e4, hg.2⟩
  · show World.ownsRow _ _ _ _ _ _ _
    have := H1.out
    simpa [i64s] using this
  · intro k hX e
    have e3 : g = k := by simpa [Value.ownBlock] using e
    subst e3
    rcases hnew with e4 | e4
    · exact hr.ne g hX e4
    · have := hXl g hX; omega

end Go.Proofs.YthfeecgpgempdaaDoor

/- SpaceKeeps over the bundle. -/
namespace Go.Proofs.YthfeecgpgempdaaDoor
set_option linter.unusedVariables false
set_option linter.unusedSimpArgs false
open Go.RowKit Dg

theorem Sd.take_n (s : Sd) : s.takeS.N = s.N ∧ s.takeS.fx = s.fx := by
  cases e : s.least with
  | none => rw [(Sd.take_no e).2]; exact ⟨rfl, rfl⟩
  | some k => rw [(Sd.take_yes e).2]; exact ⟨rfl, rfl⟩
/-- Counts as numbers. -/
def nI (C : List Nat) : List Int := C.map fun x : Nat => (x : Int)
theorem nI_get (C : List Nat) (k x : Nat) (h : C[k]? = some x) : (i64s (nI C))[k]? = some (.int .i64 (x : Int)) := by rw [i64s_get]; unfold nI; rw [List.getElem?_map, h]; rfl
theorem nI_set (C : List Nat) (k x : Nat) : (i64s (nI C)).set k (.int .i64 (x : Int)) = i64s (nI (C.set k x)) := by simp [i64s, nI, List.map_set]
/-- How many have a count, of the first j. -/
def manyTo (C : List Nat) : Nat → Nat
  | 0 => 0
  | j + 1 => manyTo C j + (if 0 < C.getD j 0 then 1 else 0)
theorem manyTo_le (C : List Nat) : ∀ j, manyTo C j ≤ j
  | 0 => Nat.le_refl _
  | j + 1 => by unfold manyTo; have := manyTo_le C j; split <;> omega
theorem manyTo_new (C : List Nat) (k y : Nat) (hk : k < C.length) (h0 : C.getD k 0 = 0) (hy : 0 < y) : ∀ j, manyTo (C.set k y) j = manyTo C j + (if k < j then 1 else 0)
  | 0 => rfl
  | j + 1 => by
    have ih := manyTo_new C k y hk h0 hy j
    show manyTo (C.set k y) j + (if 0 < (C.set k y).getD j 0 then 1 else 0) = manyTo C j + (if 0 < C.getD j 0 then 1 else 0) + _
    rw [ih, getD_setN _ _ _ _ hk]
    by_cases e : k = j
    · subst e
      have a1 : (if k < k then 1 else 0) = 0 := if_neg (by omega)
      have a2 : (if k < k + 1 then 1 else 0) = 1 := if_pos (by omega)
      rw [if_pos rfl, if_pos hy, a1, a2, if_neg (by omega)]
    · rw [if_neg e]
      by_cases e2 : k < j
      · have a1 : (if k < j then 1 else 0) = 1 := if_pos e2
        have a2 : (if k < j + 1 then 1 else 0) = 1 := if_pos (by omega)
        rw [a1, a2]
        omega
      · have a1 : (if k < j then 1 else 0) = 0 := if_neg e2
        have a2 : (if k < j + 1 then 1 else 0) = 0 := if_neg (by omega)
        rw [a1, a2]
        omega
theorem manyTo_old (C : List Nat) (k y : Nat) (hk : k < C.length) (h0 : 0 < C.getD k 0) (hy : 0 < y) : ∀ j, manyTo (C.set k y) j = manyTo C j
  | 0 => rfl
  | j + 1 => by
    unfold manyTo
    rw [manyTo_old C k y hk h0 hy j, getD_setN _ _ _ _ hk]
    by_cases e : k = j
    · subst e
      rw [if_pos rfl, if_pos hy, if_pos h0]
    · rw [if_neg e]
/-- What is kept, and what is free then. -/
theorem kept_free (C : List Nat) (h : ∀ j, j < 3 → C.getD j 0 = 0) (s : Sd) (h1 : s.fx = 3) (h2 : s.C = C) (h3 : ∀ j, s.V.getD j false = false) : ∀ j, s.freeTo j + manyTo C j + min j 3 = j
  | 0 => rfl
  | j + 1 => by
    have ih := kept_free C h s h1 h2 h3 j
    have e3 : s.u j = (decide (j < 3) || decide (0 < C.getD j 0)) := by
      unfold Sd.u
      rw [h1, h2, h3, Bool.or_false]
    show s.freeTo j + (if s.u j then 0 else 1) + (manyTo C j + (if 0 < C.getD j 0 then 1 else 0)) + min (j + 1) 3 = j + 1
    rw [e3]
    by_cases h4 : j < 3
    · have a1 : (if (decide (j < 3) || decide (0 < C.getD j 0)) = true then 0 else 1) = 0 := if_pos (by rw [decide_eq_true h4]; rfl)
      have a2 : (if 0 < C.getD j 0 then 1 else 0) = 0 := if_neg (by rw [h j h4]; omega)
      rw [a1, a2]
      omega
    · by_cases h5 : 0 < C.getD j 0
      · have a1 : (if (decide (j < 3) || decide (0 < C.getD j 0)) = true then 0 else 1) = 0 := if_pos (by rw [decide_eq_true h5, Bool.or_true])
        have a2 : (if 0 < C.getD j 0 then 1 else 0) = 1 := if_pos h5
        rw [a1, a2]
        omega
      · have a1 : (if (decide (j < 3) || decide (0 < C.getD j 0)) = true then 0 else 1) = 1 := if_neg (by rw [decide_eq_false h4, decide_eq_false h5]; simp)
        have a2 : (if 0 < C.getD j 0 then 1 else 0) = 0 := if_neg h5
        rw [a1, a2]
        omega
/-- The numbers that the law makes of a list. -/
def ksOf (l : List Int) : List Int := l.map fun v => 3 + v % 9
theorem ksOf_mem {l : List Int} {x : Int} (h : x ∈ ksOf l) : 3 ≤ x ∧ x < 12 := by
  obtain ⟨v, -, rfl⟩ := List.mem_map.1 h
  omega
set_option maxRecDepth 100000 in
set_option maxHeartbeats 16000000 in
theorem skeeps_any {Si : SpP} {Ok : World → Prop} (S : Spc Si Ok) (KE : SpKeep Si Ok) (FR : SpFree Si Ok) (US : SpUsedQ Si Ok) (OF : SpOfQ Si Ok) (WA : SpWaits Si Ok) (W : World) (hok : Ok W) (a : Option Addr) (len cap : Nat) (zs : List Int) (t0 b0 : Int) (hr : IsRow .i64 W a len cap zs) (ht : I64 t0) (hb : I64 b0) :
    Calls Tryd.prog 4 #[.slice a len cap, .int .i64 t0, .int .i64 b0] W fun e W' => e = .returned (.bool true) ∧ Below W.heap.size W W' := by
  obtain ⟨i0, hi, hz0, hz1, hz2⟩ := info_parts Tryd.info3
  obtain ⟨l, hl, hl64, hla, hlc, hcm, -, hlb⟩ := hr.ints
  have hlen : len ≤ 9223372036854775807 := by unfold maxLen at hcm; omega
  have HL := hid_of hl
  have H6 := hid_of hl64
  have HI := hid_of hla
  have HLB := hid_of hlb
  obtain ⟨ht1, ht2⟩ := ht
  obtain ⟨hb1, hb2⟩ := hb
  obtain ⟨t, htt⟩ : ∃ t : Nat, (t : Int) = t0 % 9 := ⟨(t0 % 9).toNat, by omega⟩
  have ht9 : t ≤ 8 := by omega
  have HW : Hid (∀ w, Calls Tryd.prog 8 #[.int .i64 t0, .int .i64 9] w fun e w' => e = .returned (.int .i64 (t : Int)) ∧ w = w') := fun w => by rw [htt]; exact within_any t0 9 w ht1 ht2 (by decide) (by decide)
  have HN := hid_of (sb_new S hok (Kept.refl (fun k => W.heap.size ≤ k) W) 12 3 (by decide) (by decide) (by decide))
  have HOK := hid_of hok
  clear hok htt hl hl64 hla hlb hr hlc hcm
  go_enter Tryd.func4, Tryd.ntmps4
  go_wp2_with fail
  refine HN.out.mono ?_
  rintro e w1 ⟨b, rfl, h1, -⟩
  have H1 : Hid (Sb Si Ok W (fun k => k < W.heap.size) w1 b (newSd 12 3)) := h1
  clear h1 HN
  go_wp2_with fail
  go_loopw [9] (fun v wr => ∃ (j : Nat) (s : Sd), j ≤ t ∧ v = .int .i64 (j : Int) ∧ Hid (s.N = 12 ∧ s.fx = 3 ∧ sumC s.C ≤ j) ∧ Hid (Sb Si Ok W (fun k => k < W.heap.size) wr b s)) (fun v _ => t - (intOf v).toNat)
  case atStart => exact ⟨0, newSd 12 3, Nat.zero_le _, rfl, ⟨rfl, rfl, by decide⟩, H1⟩
  case round =>
    obtain ⟨j, s, hj, rfl, HS, HB⟩ := hrel
    by_cases hjt : j < t
    · obtain ⟨tn, te, hR⟩ : ∃ tn te, s.takeR = (tn, te) := ⟨_, _, rfl⟩
      have HC := hid_of (sb_take S HB.out (by have := HS.out; omega) tn te hR s.takeS rfl)
      have HS2 : Hid (s.takeS.N = 12 ∧ s.takeS.fx = 3 ∧ sumC s.takeS.C ≤ j + 1) := by
        have := HS.out
        have e := Sd.sum_take (HB.out.fine S)
        exact ⟨s.take_n.1.trans this.1, s.take_n.2.trans this.2.1, by omega⟩
      clear hR
      go_wp2_with fail
      refine (HW.out wr).mono ?_
      rintro e w2 ⟨rfl, rfl⟩
      go_wp2_with fail
      refine HC.out.mono ?_
      rintro e w3 ⟨rfl, h3, -⟩
      have H3 := hid_of h3
      clear h3
      go_wp2_with fail
      refine ⟨?_, by (simp [intOf]) <;> omega⟩
      first
        | exact ⟨j + 1, s.takeS, by omega, by go_num, HS2, H3⟩
        | ((repeat apply Exists.intro); refine ⟨?_, rfl⟩; exact ⟨j + 1, s.takeS, by omega, by go_num, HS2, H3⟩)
    · obtain rfl : j = t := by omega
      go_wp2_with fail
      refine (HW.out wr).mono ?_
      rintro e w2 ⟨rfl, rfl⟩
      go_wp2_with fail
      obtain ⟨g, hg⟩ : ∃ g, g = wr.heap.size := ⟨_, rfl⟩
      obtain ⟨w2, hw2⟩ : ∃ w2, w2 = wr.alloc (.cells #[.int .i64 0, .int .i64 0, .int .i64 0, .int .i64 0, .int .i64 0, .int .i64 0, .int .i64 0, .int .i64 0, .int .i64 0, .int .i64 0, .int .i64 0, .int .i64 0] 36) := ⟨_, rfl⟩
      have HX2 : Hid (Sx Si Ok W (fun k => k = g) w2 b s (.slice none 0 0) (ksOf (l.take 0))) := by
        refine Sx.start ?_
        rw [hw2]
        exact HB.out.keep S (Kept.alloc _ _ _) (fun k e => .inr ⟨by omega, by simp; omega⟩)
      have HA2 : Hid (ArrV 36 w2 g (i64s (nI (addZ (List.replicate 12 0) (ksOf (l.take 0)))))) := by
        show ArrV _ _ _ _
        rw [hw2, hg]
        exact ArrV.new _ _ _
      have HGW : Hid (W.heap.size ≤ g) := by show _ ≤ _; rw [hg]; exact HB.out.kept.size
      rw [← hw2, ← hg]
      clear hw2 hg HB HW
      go_loopw [10, 11, 13] (fun xv vu v wr => ∃ (i u : Nat), i ≤ len ∧ i ≤ 14 ∧ vu = .int .i64 (u : Int) ∧ v = .int .i64 (i : Int) ∧ Hid (u = manyTo (addZ (List.replicate 12 0) (ksOf (l.take i))) 12) ∧ Hid (Sx Si Ok W (fun k => k = g) wr b s xv (ksOf (l.take i))) ∧ Hid (ArrV 36 wr g (i64s (nI (addZ (List.replicate 12 0) (ksOf (l.take i))))))) (fun _ _ v _ => len - (intOf v).toNat)
      case atStart => exact ⟨0, 0, Nat.zero_le _, Nat.zero_le _, rfl, rfl, rfl, HX2, HA2⟩
      case round =>
        obtain ⟨i, u, hi', hi14, rfl, rfl, HU, HX, HA⟩ := hrel
        have hub : u ≤ 12 := by rw [HU.out]; exact manyTo_le _ _
        have hway : (decide ((i : Int) < (len : Int)) = true ∧ decide ((i : Int) < 14) = true ∧ i < len ∧ i < 14) ∨ ((decide ((i : Int) < (len : Int)) = true ∧ decide ((i : Int) < 14) = false ∧ i < len) ∨ (decide ((i : Int) < (len : Int)) = false ∧ decide (i < len) = false ∧ True)) := by
          by_cases e1 : i < len
          · by_cases e2 : i < 14
            · exact .inl ⟨decide_eq_true (by omega), decide_eq_true (by omega), e1, e2⟩
            · exact .inr (.inl ⟨decide_eq_true (by omega), decide_eq_false (by omega), e1⟩)
          · exact .inr (.inr ⟨decide_eq_false (by omega), decide_eq_false e1, trivial⟩)
        rcases hway with ⟨hd1, hd2, hil, hi2⟩ | hout
        · obtain ⟨x, hx⟩ : ∃ x, l[i]? = some x := ⟨_, List.getElem?_eq_getElem (by rw [HL.out]; exact hil)⟩
          obtain ⟨x1, x2⟩ := H6.out x (List.mem_of_getElem? hx)
          obtain ⟨ab, off, rfl, hcx⟩ := HI.out.kept HX.out.sb.kept (fun y hy e => by have := HLB.out y hy (by omega); omega) i x hx
          obtain ⟨q, hq⟩ : ∃ q : Nat, (q : Int) = x % 9 := ⟨(x % 9).toNat, by omega⟩
          obtain ⟨p, hp⟩ : ∃ p, p = 3 + q := ⟨_, rfl⟩
          have hpI : 3 + (q : Int) = (p : Int) := by omega
          have hp12 : p < 12 := by omega
          have HWX : Hid (Calls Tryd.prog 8 #[.int .i64 x, .int .i64 9] wr fun e w' => e = .returned (.int .i64 (q : Int)) ∧ wr = w') := by rw [hq]; exact within_any x 9 wr x1 x2 (by decide) (by decide)
          obtain ⟨D, hD⟩ : ∃ D, D = addZ (List.replicate 12 0) (ksOf (l.take i)) := ⟨_, rfl⟩
          rw [← hD] at HU HA
          have hDl : D.length = 12 := by rw [hD, length_addZ, List.length_replicate]
          have hks : ksOf (l.take (i + 1)) = ksOf (l.take i) ++ [(p : Int)] := by
            rw [take_next l i x hx]
            unfold ksOf
            rw [List.map_append, List.map_cons, List.map_nil, ← hpI, hq]
          have hsec : ∀ y ∈ ksOf (l.take i), isSec (List.replicate 12 0) y := fun y hy => by
            have := ksOf_mem hy
            unfold isSec
            rw [List.length_replicate]
            omega
          have hDs : sumC D ≤ 14 := by
            rw [hD, sumC_add _ _ hsec, sumC_nought]
            unfold ksOf
            rw [List.length_map, List.length_take]
            omega
          obtain ⟨y, hy⟩ : ∃ y, D[p]? = some y := ⟨_, List.getElem?_eq_getElem (by omega)⟩
          have hgy : D.getD p 0 = y := by rw [List.getD_eq_getElem?_getD, hy]; rfl
          have hyb : y ≤ 14 := by rw [← hgy]; exact Nat.le_trans (getD_le_sumC p) hDs
          have hDn : addZ (List.replicate 12 0) (ksOf (l.take (i + 1))) = D.set p (y + 1) := by rw [hks, addZ_snoc, ← hD, Int.toNat_natCast, hgy]
          have HKS := hid_of hks
          have HDN := hid_of hDn
          have HCA := hid_of (nI_get D p y hy)
          have HMN : Hid (y = 0 → manyTo (D.set p (y + 1)) 12 = manyTo D 12 + 1) := fun e => by
            rw [manyTo_new D p (y + 1) (by omega) (by omega) (by omega), if_pos hp12]
          have HMO : Hid (0 < y → manyTo (D.set p (y + 1)) 12 = manyTo D 12) := fun e => manyTo_old D p (y + 1) (by omega) (by omega) (by omega) 12
          have hkl : (ksOf (l.take i)).length ≤ 1000000 := by unfold ksOf; rw [List.length_map, List.length_take]; omega
          have hgl : g < wr.heap.size := HA.out.lt
          clear hx hq hp hD hks hsec hDs hy hgy hDn hDl
          go_wp2_with fail
          refine HWX.out.mono ?_
          rintro e w3 ⟨rfl, rfl⟩
          go_wp2_with (at_builtin; go_must (refine wpList_append_sx S W wr rfl (.tmp 51) (.tmp 53) 30 rfl i0 Tryd.underlying30 hi hz0 hz1 hz2 b s u10 (ksOf (l.take i)) (by rfl) HX.out (p : Int) (by first | rfl | (rw [← hpI]; rfl)) hkl (fun k e => by omega) ?_))
          intro v' w4 hx4 hk4
          have HX4 : Hid (Sx Si Ok W (fun k => k = g) w4 b s v' (ksOf (l.take (i + 1)))) := by show Sx _ _ _ _ _ _ _ _ _; rw [HKS.out]; exact hx4.out
          have HA4 : Hid (ArrV 36 w4 g (i64s (nI D))) := HA.out.kept hk4.out (fun e => by rcases e with e | e; exact HX.out.ne g rfl e; omega)
          obtain ⟨d1, d2⟩ := HA4.out.cell HCA.out
          have HA5 : Hid (ArrV 36 (w4.setCell ⟨g, p, none⟩ (.int .i64 ((y + 1 : Nat) : Int))) g (i64s (nI (addZ (List.replicate 12 0) (ksOf (l.take (i + 1))))))) := by
            show ArrV _ _ _ _
            rw [HDN.out, ← nI_set]
            exact HA4.out.set p _
          have HX5 : Hid (Sx Si Ok W (fun k => k = g) (w4.setCell ⟨g, p, none⟩ (.int .i64 ((y + 1 : Nat) : Int))) b s v' (ksOf (l.take (i + 1)))) := HX4.out.write S (Kept.setCell _ _ _ rfl) rfl HGW.out
          clear hx4 hk4
          by_cases hy0 : y = 0
          · subst hy0
            have HU2 : Hid (u + 1 = manyTo (addZ (List.replicate 12 0) (ksOf (l.take (i + 1)))) 12) := by show _ = _; rw [HDN.out, HMN.out rfl, ← HU.out]
            go_wp2_with fail
            refine ⟨?_, by (simp [intOf]) <;> omega⟩
            first
              | exact ⟨i + 1, u + 1, by omega, by omega, by go_num, by go_num, HU2, HX5, HA5⟩
              | ((repeat apply Exists.intro); refine ⟨?_, rfl⟩; exact ⟨i + 1, u + 1, by omega, by omega, by go_num, by go_num, HU2, HX5, HA5⟩)
          · have hyn : ((y : Int) == 0) = false := beq_eq_false_iff_ne.2 (by omega)
            have HU2 : Hid (u = manyTo (addZ (List.replicate 12 0) (ksOf (l.take (i + 1)))) 12) := by show _ = _; rw [HDN.out, HMO.out (by omega), ← HU.out]
            go_wp2_with fail
            refine ⟨?_, by (simp [intOf]) <;> omega⟩
            first
              | exact ⟨i + 1, u, by omega, by omega, rfl, by go_num, HU2, HX5, HA5⟩
              | ((repeat apply Exists.intro); refine ⟨?_, rfl⟩; exact ⟨i + 1, u, by omega, by omega, rfl, by go_num, HU2, HX5, HA5⟩)
        · rcases hout with ⟨hd1, hd2, hd3⟩ | ⟨hd1, hd2, hd3⟩
          all_goals as_aux_lemma =>
            have HK0 : Hid (s.N = 12 ∧ s.fx = 3 ∧ sumC s.C ≤ 8) := ⟨HS.out.1, HS.out.2.1, by have := HS.out.2.2; omega⟩
            obtain ⟨ks, hks⟩ : ∃ ks, ks = ksOf (l.take i) := ⟨_, rfl⟩
            have hkm : ∀ x ∈ ks, 3 ≤ x ∧ x < 12 := fun x hx => ksOf_mem (by rw [hks] at hx; exact hx)
            have hkl : ks.length ≤ 14 := by rw [hks]; unfold ksOf; rw [List.length_map, List.length_take]; omega
            rw [← hks] at HU HX HA
            obtain ⟨D, hD⟩ : ∃ D, D = addZ (List.replicate 12 0) ks := ⟨_, rfl⟩
            rw [← hD] at HU HA
            have HD := hid_of hD
            have HKM := hid_of hkm
            obtain ⟨xa, xc, hxv, hns, hza, hcm⟩ := HX.out.row.ns
            obtain ⟨M, hM⟩ : ∃ M, M = ks.length := ⟨_, rfl⟩
            rw [← hM] at hxv hkl
            subst hxv
            have HM := hid_of hM
            have HNS := hid_of hns
            have HZA := hid_of hza
            have HCM := hid_of hcm
            clear hks hD hkm hM hns hza hcm HS
            go_upto_region 19 with fail
            go_cut [71] from 66 (fun v wx => ∃ B : Bool, v = .bool B ∧ Hid (B = decide (3 ≤ b0 ∧ b0 < 12)) ∧ wx = wr)
            case first =>
              by_cases h1 : 3 ≤ b0
              · have hq1 : decide (3 ≤ b0) = true := decide_eq_true h1
                by_cases h2 : b0 < 12
                · have hq2 : decide (b0 < 12) = true := decide_eq_true h2
                  go_wp2_with fail
                  go_meet
                  exact ⟨true, rfl, (decide_eq_true ⟨h1, h2⟩).symm, rfl⟩
                · have hq2 : decide (b0 < 12) = false := decide_eq_false h2
                  go_wp2_with fail
                  go_meet
                  exact ⟨false, rfl, (decide_eq_false (by omega)).symm, rfl⟩
              · have hq1 : decide (3 ≤ b0) = false := decide_eq_false h1
                go_wp2_with fail
                go_meet
                exact ⟨false, rfl, (decide_eq_false (by omega)).symm, rfl⟩
            case rest =>
            obtain ⟨B, rfl, HBB, rfl⟩ := hcut
            go_upto_if 71 with fail
            go_cut [2] from 72 (fun v wx => ∃ z : Int, v = .int .i64 z ∧ (z < 3 ∨ 12 ≤ z) ∧ -9223372036854775808 ≤ z ∧ z ≤ 9223372036854775807 ∧ wx = wc)
            case first =>
              rcases B with _ | _
              · have h := of_decide_eq_false HBB.out.symm
                go_wp2_with fail
                go_meet
                exact ⟨b0, rfl, by omega, hb1, hb2, rfl⟩
              · go_wp2_with fail
                go_meet
                exact ⟨2, rfl, by omega, by omega, by omega, rfl⟩
            case rest =>
            obtain ⟨z, rfl, hz, hz1', hz2', rfl⟩ := hcut
            clear HBB hb1 hb2
            obtain ⟨fz, hfz⟩ : ∃ f, f = s.free := ⟨_, rfl⟩
            have HFZ := hid_of hfz
            have hfne : ((fz : Int) != (fz : Int)) = false := by simp
            clear hfz
            go_wp2_with fail
            refine (sb_free S FR HX.out.sb (by have := HK0.out; omega) fz HFZ.out).mono ?_
            rintro e w4 ⟨rfl, -, hb4⟩
            have HX4 := hid_of (HX.out.newer S hb4)
            have HA4 := hid_of (HA.out.newer hb4)
            have HI4 : Hid (IntsAt w4 xa ks) := HNS.out.at_.mono hb4
            have HCP : Hid (Calls Tryd.prog 21 #[.slice xa M xc] w4 fun e w' => ∃ v, e = .returned v ∧ OwnInts w' w4.heap.size v ks ∧ Below w4.heap.size w4 w') := by
              rw [HM.out]
              exact copyInt_any w4 xa xc ks HI4.out (by rw [← HM.out]; omega) HZA.out
            clear hb4 HX HA
            go_wp2_with fail
            refine HCP.out.mono ?_
            rintro e w5 ⟨v5, rfl, ho5, hb5⟩
            have HO5 := hid_of ho5
            have HB5 := hid_of hb5
            have hs5 : w4.heap.size ≤ w5.heap.size := hb5.size
            have hkl2 : ks.length ≤ 1000000 := by rw [← HM.out]; omega
            clear ho5 hb5 HCP
            go_wp2_with (at_builtin; go_must (refine wpList_append_int w5 rfl (.tmp 76) (.tmp 78) 30 rfl w4.heap.size i0 Tryd.underlying30 hi hz0 hz1 hz2 v5 ks (by rfl) HO5.out z (by rfl) hkl2 hs5 ?_))
            intro v6 w6 ho6 hb6
            obtain ⟨a6, c6, hv6, hns6, hza6, hcm6⟩ := ho6.out.ns
            have hlen6 : (ks ++ [z]).length = M + 1 := by rw [List.length_append, ← HM.out]; rfl
            have hown6 : v6.ownBlock = (a6.map fun y => y.block) := by
              rw [hv6]
              rcases hza6 with ⟨rfl, -, -⟩ | ⟨gg, rfl⟩ <;> rfl
            have HB6 : Hid (Below w4.heap.size w4 w6) := HB5.out.trans hb6.out
            have HX6 := hid_of (HX4.out.newer S HB6.out)
            have HA6 := hid_of (HA4.out.newer HB6.out)
            have HSB6 : Hid (Sb Si Ok W (fun k => (k = g ∨ (Value.slice xa M xc).ownBlock = some k) ∨ v6.ownBlock = some k) w6 b s) := by
              refine HX4.out.sb.keep S ?_ (fun k e => ?_)
              · have e := HB6.out
                exact ⟨e.os, e.tape, e.output, e.size, fun k hk hf => e.block k (Nat.lt_of_not_le fun e2 => hf (.inr e2))⟩
              · rcases e with e | e
                · exact .inl e
                · exact .inr (World.ownsRow.lt ho6.out k e)
            have hno : s.keepOk (ks ++ [z]) = false := by
              cases e : s.keepOk (ks ++ [z]) with
              | false => rfl
              | true =>
                have e1 := Sd.keepOk_iff.1 e z (by simp)
                have := HK0.out
                omega
            have hno2 : s.keepS (ks ++ [z]) = s := by unfold Sd.keepS; rw [hno]; rfl
            have HKC := hid_of (sb_keep S KE HSB6.out a6 (M + 1) c6 (ks ++ [z]) hns6.at_ hlen6 (by omega) (fun x hx => by
              rcases List.mem_append.1 hx with hx | hx
              · have := HKM.out x hx; exact ⟨by omega, by omega⟩
              · rw [List.mem_singleton.1 hx]; exact ⟨by omega, by omega⟩) (fun hne y hy => .inr (.inr (by rw [hown6, hy]; rfl))) (fun e => by
                rcases hza6 with ⟨-, e2, e3⟩ | ⟨gg, e2⟩
                · rw [e2] at hlen6; simp at hlen6
                · rw [e2] at e; cases e) (by rw [← hlen6]; exact hns6.le) hcm6 (by have := HK0.out; omega) false hno.symm s hno2.symm)
            rw [hlen6] at hv6
            subst hv6
            clear ho6 hb6 hns6 hza6 hcm6 hlen6 hown6 hno hno2 HO5 HB5 hs5
            go_wp2_with fail
            refine HKC.out.mono ?_
            rintro e w7 ⟨rfl, h7, hk7⟩
            have hk7' : Kept (fun k => ¬ (k < W.heap.size ∨ (k = g ∨ (Value.slice xa M xc).ownBlock = some k))) w6 w7 := hk7.mono (fun k _ e f => e (f.imp id .inl))
            have HX7 := hid_of (HX6.out.turned (h7.less (fun k e => .inl e)) hk7')
            have HA7 := hid_of (HA6.out.kept hk7' (fun e => e (.inr (.inl rfl))))
            clear h7 hk7 hk7' HKC HSB6 HX6 HA6 HX4 HA4
            go_wp2_with fail
            refine (sb_free S FR HX7.out.sb (by have := HK0.out; omega) fz HFZ.out).mono ?_
            rintro e w8 ⟨rfl, -, hb8⟩
            have HX8 := hid_of (HX7.out.newer S hb8)
            have HA8 := hid_of (HA7.out.newer hb8)
            clear hb8 HX7 HA7
            have hyes : s.keepOk ks = true := Sd.keepOk_iff.2 (fun x hx => by have := HKM.out x hx; have := HK0.out; omega)
            have hs3 : Sd.mk 12 3 D (List.replicate 12 false) = s.keepS ks := by
              unfold Sd.keepS
              rw [if_pos hyes, HK0.out.1, HK0.out.2.1, HD.out]
            obtain ⟨s3, hs3'⟩ : ∃ s3, s3 = Sd.mk 12 3 D (List.replicate 12 false) := ⟨_, rfl⟩
            have hxown : ∀ y, xa = some y → (Value.slice xa M xc).ownBlock = some y.block := fun y hy => by rw [hy]; rfl
            have HKC := hid_of (sb_keep S KE HX8.out.sb xa M xc ks (IntsAt.of_owns (show World.ownsRow _ _ _ _ _ _ _ from HX8.out.row)) HM.out.symm (by omega) (fun x hx => by have := HKM.out x hx; exact ⟨by omega, by omega⟩) (fun hne y hy => .inr (.inr (hxown y hy))) (fun e => by
              rcases HZA.out with ⟨-, e2, e3⟩ | ⟨gg, e2⟩
              · have := HM.out; rw [e2] at this; exact ⟨this, e3⟩
              · rw [e2] at e; cases e) (by have := HNS.out.le; rw [← HM.out] at this; exact this) HCM.out (by have := HK0.out; omega) true hyes.symm s3 (hs3'.trans hs3))
            have HS3 := hid_of hs3'
            clear hyes hs3 hs3' hxown
            go_wp2_with fail
            refine HKC.out.mono ?_
            rintro e w9 ⟨rfl, h9, hk9⟩
            have HB9 : Hid (Sb Si Ok W (fun k => k = g) w9 b s3) := h9.less (fun k e => .inl e)
            have HA9 := hid_of (HA8.out.kept hk9 (fun e => e (.inr (.inl rfl))))
            have hDl : D.length = 12 := by rw [HD.out, length_addZ, List.length_replicate]
            have hDk : ∀ k : Nat, k < 12 → D.getD k 0 = ks.count (k : Int) := fun k hk => by
              rw [HD.out]
              exact addZ_nought_get (fun x hx => by have := HKM.out x hx; omega) k hk
            have hD3 : ∀ k, k < 3 → D.getD k 0 = 0 := fun k hk => by
              rw [hDk k (by omega), List.count_eq_zero]
              intro hm
              have := HKM.out _ hm
              omega
            have hDs : sumC D ≤ 14 := by
              rw [HD.out, sumC_add _ _ (fun x hx => by have := HKM.out x hx; unfold isSec; rw [List.length_replicate]; omega), sumC_nought, ← HM.out]
              omega
            have h3s : sumC s3.C ≤ 1000000 := by rw [HS3.out]; show sumC D ≤ _; omega
            have hfree := kept_free D hD3 s3 (by rw [HS3.out]) (by rw [HS3.out]) (fun j => by rw [HS3.out]; exact getD_repF _ _) 12
            obtain ⟨n3, hn3⟩ : ∃ n3, n3 = s3.free := ⟨_, rfl⟩
            have hn3' : s3.freeTo 12 = n3 := by rw [hn3, HS3.out]; rfl
            rw [hn3', ← HU.out] at hfree
            have h9u : 9 - (u : Int) = (n3 : Int) := by omega
            have hnn : ((n3 : Int) == (n3 : Int)) = true := by simp
            have HN3 := hid_of hn3
            have HDL := hid_of hDl
            have HDS := hid_of hDs
            have H3S := hid_of h3s
            have hn12 : n3 ≤ 12 := by omega
            clear h9 hk9 HKC HX8 HA8 hDl hDk hD3 hDs h3s hn3 hn3' hfree
            go_wp2_with fail
            go_loopw [93] (fun v wr => ∃ j : Nat, j ≤ 12 ∧ v = .int .i64 (j : Int) ∧ Hid (Sb Si Ok W (fun k => k = g) wr b s3) ∧ Hid (ArrV 36 wr g (i64s (nI D)))) (fun v _ => 12 - (intOf v).toNat)
            case atStart => exact ⟨0, Nat.zero_le _, rfl, HB9, HA9⟩
            case round =>
              obtain ⟨j, hj, rfl, HB, HA⟩ := hrel
              by_cases hj12 : j < 12
              · obtain ⟨y, hy⟩ : ∃ y, D[j]? = some y := ⟨_, List.getElem?_eq_getElem (by rw [HDL.out]; exact hj12)⟩
                have hgy : D.getD j 0 = y := by rw [List.getD_eq_getElem?_getD, hy]; rfl
                have hyb : y ≤ 14 := by rw [← hgy]; exact Nat.le_trans (getD_le_sumC j) HDS.out
                have HCA := hid_of (nI_get D j y hy)
                have hof : y = s3.of (j : Int) := by
                  rw [s3.of_nat (by rw [HS3.out]; show j < D.length; rw [HDL.out]; exact hj12), HS3.out]
                  exact hgy.symm
                obtain ⟨R, hR⟩ : ∃ R, R = s3.uZ (j : Int) := ⟨_, rfl⟩
                have hRv : R = (decide (j < 3) || decide (0 < y)) := by
                  rw [hR, s3.uZ_nat (by rw [HS3.out]; exact hj12), HS3.out]
                  show (decide (j < 3) || decide (0 < D.getD j 0) || (List.replicate 12 false).getD j false) = _
                  rw [getD_repF, Bool.or_false, hgy]
                have HQO := hid_of (sb_ofQ S OF HB.out (j : Int) ⟨by omega, by omega⟩ H3S.out y hof)
                have HQU := hid_of (sb_usedQ S US HB.out (j : Int) ⟨by omega, by omega⟩ H3S.out R hR)
                have hyy : ((y : Int) != (y : Int)) = false := by simp
                obtain ⟨d1, -⟩ := HA.out.cell HCA.out
                have HBN : Hid (∀ q, Sb Si Ok W (fun k => k = g) (wr.drewN q) b s3) := fun q => HB.out.draws S q
                have HAN : Hid (∀ q, ArrV 36 (wr.drewN q) g (i64s (nI D))) := fun q => HA.out.newer (below_drewN (Below.refl _ _) q)
                clear hy hgy hof hR
                rcases (by omega : j < 3 ∨ (3 ≤ j ∧ 0 < y) ∨ (3 ≤ j ∧ y = 0)) with h5 | ⟨h5, h6⟩ | ⟨h5, h6⟩
                · obtain rfl : R = true := by rw [hRv, decide_eq_true h5]; rfl
                  have hb1 : decide ((j : Int) < 3) = true := decide_eq_true (by omega)
                  have hb2 : decide (j < 3) = true := decide_eq_true h5
                  clear hRv
                  go_wp2_with fail
                  go_quiet (first | (go_at_call 13; exact HQO.out _) | (go_at_call 16; exact HQU.out _))
                  go_wp2_with fail
                  refine ⟨?_, by (simp [intOf]) <;> omega⟩
                  first
                    | exact ⟨j + 1, by omega, by go_num, HBN.out _, HAN.out _⟩
                    | ((repeat apply Exists.intro); refine ⟨?_, rfl⟩; exact ⟨j + 1, by omega, by go_num, HBN.out _, HAN.out _⟩)
                · obtain rfl : R = true := by rw [hRv, decide_eq_false (by omega : ¬ j < 3), decide_eq_true h6]; rfl
                  have hb1 : decide ((j : Int) < 3) = false := decide_eq_false (by omega)
                  have hb2 : decide (j < 3) = false := decide_eq_false (by omega)
                  have hb3 : decide (0 < (y : Int)) = true := decide_eq_true (by omega)
                  have hb4 : decide (0 < y) = true := decide_eq_true h6
                  clear hRv
                  go_wp2_with fail
                  go_quiet (first | (go_at_call 13; exact HQO.out _) | (go_at_call 16; exact HQU.out _))
                  go_wp2_with fail
                  refine ⟨?_, by (simp [intOf]) <;> omega⟩
                  first
                    | exact ⟨j + 1, by omega, by go_num, HBN.out _, HAN.out _⟩
                    | ((repeat apply Exists.intro); refine ⟨?_, rfl⟩; exact ⟨j + 1, by omega, by go_num, HBN.out _, HAN.out _⟩)
                · subst h6
                  obtain rfl : R = false := by rw [hRv, decide_eq_false (by omega : ¬ j < 3)]; rfl
                  have hb1 : decide ((j : Int) < 3) = false := decide_eq_false (by omega)
                  have hb2 : decide (j < 3) = false := decide_eq_false (by omega)
                  clear hRv
                  go_wp2_with fail
                  go_quiet (first | (go_at_call 13; exact HQO.out _) | (go_at_call 16; exact HQU.out _))
                  go_wp2_with fail
                  refine ⟨?_, by (simp [intOf]) <;> omega⟩
                  first
                    | exact ⟨j + 1, by omega, by go_num, HBN.out _, HAN.out _⟩
                    | ((repeat apply Exists.intro); refine ⟨?_, rfl⟩; exact ⟨j + 1, by omega, by go_num, HBN.out _, HAN.out _⟩)
              · obtain rfl : j = 12 := by omega
                go_wp2_with fail
                refine (sb_free S FR HB.out H3S.out n3 HN3.out).mono ?_
                rintro e w10 ⟨rfl, h10, -⟩
                have H10 := hid_of h10
                clear h10
                go_wp2_with fail
                refine (sb_waits S WA H10.out H3S.out [] (by rw [HS3.out]; exact (waitTo_none 12 12).symm)).mono ?_
                rintro e w11 ⟨v11, rfl, ho11, h11, -⟩
                obtain ⟨a11, c11, rfl, -, -⟩ := ho11.slice
                have H11 := hid_of h11
                clear h11 ho11
                go_wp2_with fail
                refine (wakes13_any S FR w11 (H11.out.okw S)).mono ?_
                rintro e w12 ⟨rfl, hb12⟩
                have HE := hid_of (H11.out.newer S hb12).end_
                clear hb12
                go_wp2_with fail
                go_ret
                exact ⟨rfl, HE.out⟩

end Go.Proofs.YthfeecgpgempdaaDoor
