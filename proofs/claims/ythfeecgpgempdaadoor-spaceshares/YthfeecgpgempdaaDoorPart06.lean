/- The texts SgIn, SgP1, SgP2, SgP3, MpP5, one behind the other. -/
import Derived.Test.YthfeecgpgempdaaDoorPart04
import Derived.Test.YthfeecgpgempdaaDoorPart05
import Derived.BigQuiet
import Derived.Deep.MidRow
import Derived.Deep.CutRange
import Derived.Deep.RegionHeld
import Derived.Lib.SliceRun

/- The program's space in memory: its map, its counts; Used, Of, Drop, Share, Take. -/
namespace Go.Proofs.YthfeecgpgempdaaDoor
set_option linter.unusedVariables false
set_option linter.unusedSimpArgs false
open Go.RowKit Dg

/-- A map in memory, whatever the library's table holds. -/
structure MpR (w : World) (b g c : Nat) (m : List Bool) : Prop where
  box : w.heap[b]? = some (.cells #[.int .i64 (m.length : Int), .slice (some ⟨g, 0, none⟩) (wsOf m).length c] 76 (0, 0))
  ws : w.ownsRow 0 77 1 (.slice (some ⟨g, 0, none⟩) (wsOf m).length c) (wsOf m).length (w64s (wsOf m))
  pos : 1 ≤ m.length
  le : m.length ≤ 4096
  ne : b ≠ g ∧ b ≠ 0 ∧ g ≠ 0
theorem MpIs.r {w : World} {b g c : Nat} {m : List Bool} (h : MpIs w b g c m) : MpR w b g c m := ⟨h.box, h.ws, h.pos, h.le, h.ne⟩
theorem MpR.is {w : World} {b g c : Nat} {m : List Bool} (h : MpR w b g c m) (hT : Tab w) : MpIs w b g c m := ⟨h.box, h.ws, hT, h.pos, h.le, h.ne⟩
theorem MpR.lt {w : World} {b g c : Nat} {m : List Bool} (h : MpR w b g c m) : b < w.heap.size ∧ g < w.heap.size := by
  refine ⟨(Array.getElem?_eq_some_iff.1 h.box).1, ?_⟩
  exact (World.ownsRow.lt h.ws g rfl).2
theorem MpR.kept {w w' : World} {b g c : Nat} {m : List Bool} {X : Nat → Prop} (h : MpR w b g c m) (hk : Kept X w w') (h1 : ¬ X b) (h2 : ¬ X g) : MpR w' b g c m :=
  { h with
    box := by rw [hk.block b h.lt.1 h1]; exact h.box
    ws := ownsRow_other h.ws hk (fun k e => by cases e; exact h2) }

/-- The five blocks of a space. -/
structure SgB where
  mb : Nat
  mg : Nat
  mc : Nat
  rb : Nat
  rg : Nat
  rc : Nat
def SgB.In (x : SgB) (b k : Nat) : Prop := k = b ∨ k = x.mb ∨ k = x.mg ∨ k = x.rb ∨ k = x.rg
/-- A space in memory: its fields at b. -/
structure SgIs (w : World) (b : Nat) (x : SgB) (s : Sd) : Prop where
  box : w.heap[b]? = some (.cells #[.int .i64 (s.fx : Int), .pointer (some ⟨x.mb, 0, none⟩), .pointer (some ⟨x.rb, 0, none⟩)] 55 (0, 0))
  mp : MpR w x.mb x.mg x.mc (mOf s)
  rf : TaIs w x.rb x.rg x.rc s.C
  fine : s.Fine
  ne1 : b ≠ x.mb ∧ b ≠ x.mg ∧ b ≠ x.rb ∧ b ≠ x.rg
  ne2 : x.mb ≠ x.rb ∧ x.mb ≠ x.rg ∧ x.mg ≠ x.rb ∧ x.mg ≠ x.rg
  nt : b ≠ 0 ∧ x.rb ≠ 0 ∧ x.rg ≠ 0
set_option maxRecDepth 100000 in
theorem SgIs.cell {w : World} {b : Nat} {x : SgB} {s : Sd} (h : SgIs w b x s) : w.cell? ⟨b, 0, none⟩ = some (.int .i64 (s.fx : Int)) ∧ w.cell? ⟨b, 1, none⟩ = some (.pointer (some ⟨x.mb, 0, none⟩)) ∧ w.cell? ⟨b, 2, none⟩ = some (.pointer (some ⟨x.rb, 0, none⟩)) := by
  have e := h.box
  refine ⟨?_, ?_, ?_⟩
  · unfold World.cell?; rw [e]; rfl
  · unfold World.cell?; rw [e]; rfl
  · unfold World.cell?; rw [e]; rfl
theorem SgIs.lt {w : World} {b : Nat} {x : SgB} {s : Sd} (h : SgIs w b x s) : ∀ k, x.In b k → k < w.heap.size := by
  intro k hk
  rcases hk with rfl | rfl | rfl | rfl | rfl
  · exact (Array.getElem?_eq_some_iff.1 h.box).1
  · exact h.mp.lt.1
  · exact h.mp.lt.2
  · exact h.rf.lt.1
  · exact h.rf.lt.2
theorem SgIs.kept {w w' : World} {b : Nat} {x : SgB} {s : Sd} {X : Nat → Prop} (h : SgIs w b x s) (hk : Kept X w w') (hX : ∀ k, x.In b k → ¬ X k) : SgIs w' b x s :=
  { h with
    box := by rw [hk.block b (h.lt b (.inl rfl)) (hX b (.inl rfl))]; exact h.box
    mp := h.mp.kept hk (hX _ (.inr (.inl rfl))) (hX _ (.inr (.inr (.inl rfl))))
    rf := h.rf.kept hk (hX _ (.inr (.inr (.inr (.inl rfl))))) (hX _ (.inr (.inr (.inr (.inr rfl))))) }
theorem SgIs.draws {w : World} {b : Nat} {x : SgB} {s : Sd} (h : SgIs w b x s) (n : Nat) : SgIs (w.drewN n) b x s :=
  h.kept (X := fun _ => False) ⟨rfl, rfl, rfl, Nat.le_refl _, fun _ _ _ => rfl⟩ (fun _ _ h => h)
theorem SgIs.newer {w w' : World} {b : Nat} {x : SgB} {s : Sd} (h : SgIs w b x s) (hb : Below w.heap.size w w') : SgIs w' b x s :=
  h.kept (X := fun k => w.heap.size ≤ k) ⟨hb.os, hb.tape, hb.output, hb.size, fun k hk hf => hb.block k hk⟩ (fun k hk e => by have := h.lt k hk; omega)
/-- The map was turned. -/
theorem SgIs.mapped {w w' : World} {b : Nat} {x : SgB} {s s' : Sd} (h : SgIs w b x s) (hk : Kept (fun k => k = x.mg) w w') (hm : MpR w' x.mb x.mg x.mc (mOf s')) (hC : s'.C = s.C) (hf : s'.Fine) (hfx : s'.fx = s.fx) : SgIs w' b x s' :=
  { h with
    box := by rw [hk.block b (h.lt b (.inl rfl)) h.ne1.2.1, hfx]; exact h.box
    mp := hm
    rf := by rw [hC]; exact h.rf.kept hk (fun e => h.ne2.2.2.1 e.symm) (fun e => h.ne2.2.2.2 e.symm)
    fine := hf }
/-- The counts were turned. -/
theorem SgIs.counted {w w' : World} {b : Nat} {x : SgB} {s s' : Sd} (h : SgIs w b x s) (hk : Kept (fun k => k = x.rg) w w') (hr : TaIs w' x.rb x.rg x.rc s'.C) (hm : mOf s' = mOf s) (hf : s'.Fine) (hfx : s'.fx = s.fx) : SgIs w' b x s' :=
  { h with
    box := by rw [hk.block b (h.lt b (.inl rfl)) h.ne1.2.2.2, hfx]; exact h.box
    mp := by rw [hm]; exact h.mp.kept hk h.ne2.2.1 h.ne2.2.2.2
    rf := hr
    fine := hf }
/-- What lies in the blocks F. -/
def Sg (w : World) (b : Nat) (F : Nat → Prop) (s : Sd) : Prop := ∃ x : SgB, SgIs w b x s ∧ ∀ k, F k ↔ x.In b k
theorem SgIs.sg {w : World} {b : Nat} {x : SgB} {s : Sd} (h : SgIs w b x s) : Sg w b (x.In b) s := ⟨x, h, fun k => Iff.rfl⟩
theorem SgIs.to {w w' : World} {b : Nat} {x : SgB} {s : Sd} {F : Nat → Prop} (h : SgIs w' b x s) (hF : ∀ k, F k ↔ x.In b k) (hk : Kept (x.In b) w w') : SpTo Sg w w' b F s :=
  ⟨F, ⟨x, h, hF⟩, hk.mono fun k _ e => (hF k).2 e, fun k e => .inl e⟩
theorem In.mg {x : SgB} {b k : Nat} (h : k = x.mg) : x.In b k := .inr (.inr (.inl h))
theorem In.rg {x : SgB} {b k : Nat} (h : k = x.rg) : x.In b k := .inr (.inr (.inr (.inr h)))

set_option maxRecDepth 100000 in
set_option maxHeartbeats 1000000 in
theorem gused_is (w : World) (hT : Tab w) (b : Nat) (x : SgB) (s : Sd) (h : SgIs w b x s) (i : Int) (hi : I64 i) (R : Bool) (hR : R = s.uZ i) :
    Calls Tryd.prog 16 #[.pointer (some ⟨b, 0, none⟩), .int .i64 i] w fun e w' => e = .returned (.bool R) ∧ w = w' := by
  have HU := hid_of (mused_is w x.mb x.mg x.mc (mOf s) (h.mp.is hT) i hi R (by rw [usedZ_mOf, hR]))
  obtain ⟨c0, c1, c2⟩ := h.cell
  clear h hT hR
  go_enter Tryd.func16, Tryd.ntmps16
  go_wp2_with fail
  refine HU.out.mono ?_
  rintro e w1 ⟨rfl, rfl⟩
  go_wp2_with fail
  go_ret
  exact ⟨rfl, rfl⟩
set_option maxRecDepth 100000 in
set_option maxHeartbeats 1000000 in
theorem gof_is (w : World) (b : Nat) (x : SgB) (s : Sd) (h : SgIs w b x s) (i : Int) (hi : I64 i) (n : Nat) (hn : n = s.of i) :
    Calls Tryd.prog 13 #[.pointer (some ⟨b, 0, none⟩), .int .i64 i] w fun e w' => e = .returned (.int .i64 (n : Int)) ∧ ∃ k, w' = w.drewN k := by
  have HU := hid_of (tof_is w x.rb x.rg x.rc s.C h.rf i hi n hn)
  obtain ⟨c0, c1, c2⟩ := h.cell
  clear h hn
  go_enter Tryd.func13, Tryd.ntmps13
  go_wp2_with fail
  refine HU.out.mono ?_
  rintro e w1 ⟨rfl, k, rfl⟩
  go_wp2_with fail
  go_ret
  exact ⟨rfl, k, rfl⟩
theorem dropR_of (s : Sd) (i : Int) : (dropR s.C i).2 = decide (0 < s.of i) := by
  unfold dropR Sd.of ofR
  by_cases h : isSec s.C i
  · by_cases h2 : 0 < s.C.getD i.toNat 0
    · rw [if_pos ⟨h, h2⟩, if_pos h, decide_eq_true h2]
    · rw [if_neg (fun e => h2 e.2), if_pos h, decide_eq_false h2]
  · rw [if_neg (fun e => h e.1), if_neg h]; rfl
set_option maxRecDepth 100000 in
set_option maxHeartbeats 1000000 in
theorem gdrop_is (w : World) (b : Nat) (x : SgB) (s : Sd) (h : SgIs w b x s) (i : Int) (hi : I64 i) (hs : sumC s.C ≤ 1000000) (R : Bool) (hR : R = decide (0 < s.of i)) (s2 : Sd) (hs2 : s2 = s.lessS i) :
    Calls Tryd.prog 14 #[.pointer (some ⟨b, 0, none⟩), .int .i64 i] w fun e w' => e = .returned (.bool R) ∧ SgIs w' b x s2 ∧ Kept (fun k => k = x.rg) w w' := by
  have HD := hid_of (tdrop_is w x.rb x.rg x.rc s.C h.rf i hi hs)
  rw [dropR_of, ← hR] at HD
  obtain ⟨c0, c1, c2⟩ := h.cell
  have HN : Hid (∀ w', TaIs w' x.rb x.rg x.rc (dropS s.C i) → Kept (fun k => k = x.rg) w w' → SgIs w' b x s2) := fun w' h1 h2 => by
    rw [hs2]
    refine h.counted h2 (by rw [s.less_C]; exact h1) (h.fine.map_less i) (h.fine.lessened i) ?_
    unfold Sd.lessS; split <;> rfl
  obtain ⟨left, hleft⟩ : ∃ left, left = (dropR s.C i).1 := ⟨_, rfl⟩
  rw [← hleft] at HD
  clear h hs hR hs2 hleft
  go_enter Tryd.func14, Tryd.ntmps14
  go_wp2_with fail
  refine HD.out.mono ?_
  rintro e w1 ⟨rfl, h1, h2⟩
  have H1 := hid_of h1
  have H2 := hid_of h2
  clear h1 h2
  go_wp2_with fail
  go_ret
  exact ⟨rfl, HN.out _ H1.out H2.out, H2.out⟩
/-- One more of one, handed in as a row just built. -/
theorem tadd_one (w : World) (b g c : Nat) (C : List Nat) (h : TaIs w b g c C) (i : Nat) (hi : i < C.length) (hs : sumC C ≤ 1000000) (C2 : List Nat) (hC2 : C2 = C.set i (C.getD i 0 + 1)) :
    Calls Tryd.prog 28 #[.pointer (some ⟨b, 0, none⟩), .slice (some ⟨w.heap.size, 0, none⟩) 1 1] (w.alloc (.cells #[.int .i64 (i : Int)] 3)) fun e w' => e = .returned (.bool true) ∧ TaIs w' b g c C2 ∧ Kept (fun k => k = g) w w' := by
  have hle := h.le
  have hok : okZ C [(i : Int)] = true := (okZ_iff _ _).2 fun y hy => by rw [List.mem_singleton.1 hy]; exact ⟨by omega, by omega⟩
  have hl := h.lt
  refine (tadd_is (w.alloc (.cells #[.int .i64 (i : Int)] 3)) b g c C (h.kept (Kept.alloc (fun _ => False) _ _) (fun h => h) (fun h => h)) (some ⟨w.heap.size, 0, none⟩) 1 1 [(i : Int)] (lit1 w _) rfl (by decide) (fun y hy => by rw [List.mem_singleton.1 hy]; exact ⟨by omega, by omega⟩) (fun _ y hy e => by cases hy; have e2 : w.heap.size = g := e; omega) hs true hok.symm C2 ?_).mono ?_
  · rw [hC2]
    unfold addS
    rw [if_pos hok]
    show _ = C.set (i : Int).toNat (C.getD (i : Int).toNat 0 + 1)
    rw [Int.toNat_natCast]
  · rintro e w' ⟨h1, h2, h3⟩
    exact ⟨h1, h2, (Kept.alloc _ _ _).trans h3⟩
set_option maxRecDepth 100000 in
set_option maxHeartbeats 1000000 in
theorem gshare_is (w : World) (b : Nat) (x : SgB) (s : Sd) (h : SgIs w b x s) (i : Int) (hi : I64 i) (hs : sumC s.C ≤ 1000000) (R : Bool) (hR : R = decide (0 < s.of i)) (s2 : Sd) (hs2 : s2 = s.shareS i) :
    Calls Tryd.prog 11 #[.pointer (some ⟨b, 0, none⟩), .int .i64 i] w fun e w' => e = .returned (.bool R) ∧ SgIs w' b x s2 ∧ Kept (fun k => k = x.rg) w w' := by
  obtain ⟨n, hn⟩ : ∃ n, n = s.of i := ⟨_, rfl⟩
  have HU := hid_of (gof_is w b x s h i hi n hn)
  rw [← hn] at hR
  by_cases h0 : 0 < n
  · obtain ⟨k, rfl, hk, hg⟩ := Sd.of_pos (s := s) (i := i) (by omega)
    have HA : Hid (∀ d, Calls Tryd.prog 28 #[.pointer (some ⟨x.rb, 0, none⟩), .slice (some ⟨(w.drewN d).heap.size, 0, none⟩) 1 1] ((w.drewN d).alloc (.cells #[.int .i64 (k : Int)] 3)) fun e w' => e = .returned (.bool true) ∧ TaIs w' x.rb x.rg x.rc s2.C ∧ Kept (fun k => k = x.rg) w w') := fun d =>
      (tadd_one (w.drewN d) x.rb x.rg x.rc s.C (h.rf.draws d) k hk hs s2.C (by
        rw [hs2]; unfold Sd.shareS; rw [if_pos (by omega), hg, Int.toNat_natCast])).mono fun e w' ⟨e1, e2, e3⟩ => ⟨e1, e2, (⟨rfl, rfl, rfl, Nat.le_refl _, fun _ _ _ => rfl⟩ : Kept (fun k => k = x.rg) w (w.drewN d)).trans e3⟩
    have HN : Hid (∀ w', TaIs w' x.rb x.rg x.rc s2.C → Kept (fun k => k = x.rg) w w' → SgIs w' b x s2) := fun w' h1 h2 =>
      h.counted h2 h1 (by rw [hs2]; exact h.fine.map_share _) (by rw [hs2]; exact h.fine.shared _) (by rw [hs2]; unfold Sd.shareS; split <;> rfl)
    have HC : Hid (∀ d, (w.drewN d).cell? ⟨b, 2, none⟩ = some (.pointer (some ⟨x.rb, 0, none⟩))) := fun d => (h.draws d).cell.2.2
    obtain rfl : R = true := by rw [hR]; exact decide_eq_true h0
    clear h hs hR hs2 hn hg hk
    go_enter Tryd.func11, Tryd.ntmps11
    go_wp2_with fail
    refine HU.out.mono ?_
    rintro e w1 ⟨rfl, d, rfl⟩
    have hc2 := HC.out d
    go_wp2_with fail
    refine (HA.out d).mono ?_
    rintro e w2 ⟨rfl, h1, h2⟩
    have H1 := hid_of h1
    have H2 := hid_of h2
    clear h1 h2
    go_wp2_with fail
    go_ret
    exact ⟨rfl, HN.out _ H1.out H2.out, H2.out⟩
  · obtain rfl : n = 0 := by omega
    have HN : Hid (∀ d, SgIs (w.drewN d) b x s2) := fun d => by
      have e : s2 = s := by rw [hs2]; unfold Sd.shareS; rw [if_neg (by omega)]
      rw [e]; exact h.draws d
    obtain rfl : R = false := by rw [hR]; rfl
    clear h hs hR hs2 hn
    go_enter Tryd.func11, Tryd.ntmps11
    go_wp2_with fail
    refine HU.out.mono ?_
    rintro e w1 ⟨rfl, d, rfl⟩
    go_wp2_with fail
    go_ret
    exact ⟨rfl, HN.out d, ⟨rfl, rfl, rfl, Nat.le_refl _, fun _ _ _ => rfl⟩⟩
set_option maxRecDepth 100000 in
set_option maxHeartbeats 1000000 in
theorem gtake_is (w : World) (hT : Tab w) (b : Nat) (x : SgB) (s : Sd) (h : SgIs w b x s) (hs : sumC s.C ≤ 1000000) :
    Calls Tryd.prog 10 #[.pointer (some ⟨b, 0, none⟩)] w fun e w' => e = .returned (.tuple #[.int .i64 s.takeR.1, .int .i64 s.takeR.2]) ∧ SgIs w' b x s.takeS ∧ Kept (x.In b) w w' := by
  obtain ⟨c0, c1, c2⟩ := h.cell
  have H0 := hid_of h
  cases hk : s.least with
  | none =>
    have HM := hid_of (mtake_is w x.mb x.mg x.mc (mOf s) (h.mp.is hT) (-1) (h.fine.first_none hk) (mOf s) (by simp))
    obtain ⟨e1, e2⟩ := Sd.take_no hk
    rw [e1, e2]
    show Calls Tryd.prog _ _ w fun e w' => e = .returned (.tuple #[.int .i64 0, .int .i64 3]) ∧ SgIs w' b x s ∧ Kept (x.In b) w w'
    clear h hT hs e1 e2 hk
    go_enter Tryd.func10, Tryd.ntmps10
    go_wp2_with fail
    refine HM.out.mono ?_
    rintro e w1 ⟨rfl, h1, h2⟩
    have H1 := hid_of h1
    have H2 := hid_of h2
    clear h1 h2
    go_wp2_with fail
    go_ret2
    exact ⟨rfl, H0.out.mapped H2.out H1.out.r rfl H0.out.fine rfl, H2.out.mono fun k _ e => In.mg e⟩
  | some k =>
    obtain ⟨f1, f2, f3⟩ := h.fine.first_some hk
    have hkN : k < s.C.length := by rw [h.fine.c]; exact (Sd.least_some hk).1
    have hk0 : s.C.getD k 0 = 0 := (Sd.u_false.1 (Sd.least_some hk).2.1).2.1
    have hk4 : k < 4096 := Nat.lt_of_lt_of_le hkN h.rf.le
    have HM := hid_of (mtake_is w x.mb x.mg x.mc (mOf s) (h.mp.is hT) (k : Int) f1 (mOf s.takeS) (by rw [if_pos (by omega), Int.toNat_natCast, f2]))
    have HA : Hid (∀ w1, Kept (fun k => k = x.mg) w w1 → Calls Tryd.prog 28 #[.pointer (some ⟨x.rb, 0, none⟩), .slice (some ⟨w1.heap.size, 0, none⟩) 1 1] (w1.alloc (.cells #[.int .i64 (k : Int)] 3)) fun e w' => e = .returned (.bool true) ∧ TaIs w' x.rb x.rg x.rc s.takeS.C ∧ Kept (fun k => k = x.rg) w1 w') := fun w1 hw1 =>
      tadd_one w1 x.rb x.rg x.rc s.C (H0.out.rf.kept hw1 (fun e => H0.out.ne2.2.2.1 e.symm) (fun e => H0.out.ne2.2.2.2 e.symm)) k hkN hs s.takeS.C (by rw [f3, hk0])
    have HC : Hid (∀ w1, Kept (fun k => k = x.mg) w w1 → w1.cell? ⟨b, 2, none⟩ = some (.pointer (some ⟨x.rb, 0, none⟩))) := fun w1 hw1 => by
      rw [hw1.cell (H0.out.lt b (.inl rfl)) H0.out.ne1.2.1]; exact H0.out.cell.2.2
    have HF := hid_of h.fine.taken
    have HX : Hid (s.takeS.fx = s.fx) := by show _ = _; rw [(Sd.take_yes hk).2]
    rw [(Sd.take_yes hk).1]
    show Calls Tryd.prog _ _ w fun e w' => e = .returned (.tuple #[.int .i64 (k : Int), .int .i64 0]) ∧ SgIs w' b x s.takeS ∧ Kept (x.In b) w w'
    have HS : Hid (∀ w1 w2, Kept (fun k => k = x.mg) w w1 → MpIs w1 x.mb x.mg x.mc (mOf s.takeS) → Kept (fun k => k = x.rg) w1 w2 → TaIs w2 x.rb x.rg x.rc s.takeS.C → SgIs w2 b x s.takeS) := fun w1 w2 k1 m1 k2 t2 =>
      { box := by rw [k2.block b (Nat.lt_of_lt_of_le (H0.out.lt b (.inl rfl)) k1.size) H0.out.ne1.2.2.2, k1.block b (H0.out.lt b (.inl rfl)) H0.out.ne1.2.1, HX.out]; exact H0.out.box
        mp := m1.r.kept k2 H0.out.ne2.2.1 H0.out.ne2.2.2.2
        rf := t2
        fine := HF.out
        ne1 := H0.out.ne1
        ne2 := H0.out.ne2
        nt := H0.out.nt }
    clear h hT hs f1 f2 f3 hk hkN hk0
    obtain ⟨s2, hs2⟩ : ∃ s2, s2 = s.takeS := ⟨_, rfl⟩
    rw [← hs2] at HM HA HS ⊢
    clear HF HX hs2
    go_enter Tryd.func10, Tryd.ntmps10
    go_wp2_with fail
    refine HM.out.mono ?_
    rintro e w1 ⟨rfl, h1, h2⟩
    have H1 := hid_of h1
    have H2 := hid_of h2
    have hc2 := HC.out w1 h2
    clear h1 h2
    go_wp2_with fail
    refine (HA.out w1 H2.out).mono ?_
    rintro e w2 ⟨rfl, h3, h4⟩
    have H3 := hid_of h3
    have H4 := hid_of h4
    clear h3 h4
    go_wp2_with fail
    go_ret2
    exact ⟨rfl, HS.out _ _ H2.out H1.out H4.out H3.out, (H2.out.mono fun k _ e => In.mg e).trans (H4.out.mono fun k _ e => In.rg e)⟩

end Go.Proofs.YthfeecgpgempdaaDoor

/- The program's space: Free, Waiting, Commit. -/
namespace Go.Proofs.YthfeecgpgempdaaDoor
set_option linter.unusedVariables false
set_option linter.unusedSimpArgs false
open Go.RowKit Dg

set_option maxRecDepth 100000 in
set_option maxHeartbeats 4000000 in
theorem gfree_is (w : World) (hT : Tab w) (b : Nat) (x : SgB) (s : Sd) (h : SgIs w b x s) (n : Nat) (hn : n = s.free) :
    Calls Tryd.prog 17 #[.pointer (some ⟨b, 0, none⟩)] w fun e w' => e = .returned (.int .i64 (n : Int)) ∧ ∃ k, w' = w.drewN k := by
  obtain ⟨c0, c1, c2⟩ := h.cell
  have hle := h.fine.le
  have hlen := length_mOf s
  obtain ⟨y, hy⟩ : ∃ y, y = usedN (mOf s) s.N := ⟨_, rfl⟩
  obtain ⟨N, hN⟩ : ∃ N, N = s.N := ⟨_, rfl⟩
  have hsum : n + y = N := by rw [hn, hy, hN]; exact s.free_used s.N (Nat.le_refl _)
  have HL : Hid (∀ d, Calls Tryd.prog 29 #[.pointer (some ⟨x.mb, 0, none⟩)] (w.drewN d) fun e w' => e = .returned (.int .i64 (N : Int)) ∧ ∃ k, w' = w.drewN k) := fun d =>
    (mlen_is (w.drewN d) x.mb x.mg x.mc (mOf s) ((h.draws d).mp.is hT) N (by rw [hlen, hN])).mono fun e w' ⟨e1, e2⟩ => ⟨e1, d, e2.symm⟩
  have HC : Hid (∀ d, Calls Tryd.prog 33 #[.pointer (some ⟨x.mb, 0, none⟩)] (w.drewN d) fun e w' => e = .returned (.int .i64 (y : Int)) ∧ ∃ k, w' = w.drewN k) := fun d =>
    (mcount_is (w.drewN d) x.mb x.mg x.mc (mOf s) ((h.draws d).mp.is hT) y (by rw [hlen, hy])).mono fun e w' ⟨e1, k, e2⟩ => ⟨e1, d + k, by rw [e2, World.drewN_drewN]⟩
  have hI : (N : Int) - (y : Int) = (n : Int) := by omega
  have hN4 : N ≤ 4096 := by omega
  clear h hT hlen hn hy hN hle
  go_enter Tryd.func17, Tryd.ntmps17
  go_wp2_with fail
  go_quiet (first
    | (go_at_call 29; exact HL.out _)
    | (go_at_call 33; exact HC.out _))
  go_wp2_with fail
  go_ret
  exact ⟨rfl, nq, rfl⟩
set_option maxRecDepth 100000 in
set_option maxHeartbeats 4000000 in
theorem gwaits_is (w : World) (hT : Tab w) (b : Nat) (x : SgB) (s : Sd) (h : SgIs w b x s) :
    Calls Tryd.prog 12 #[.pointer (some ⟨b, 0, none⟩)] w fun e w' => ∃ v, e = .returned v ∧ OwnInts w' w.heap.size v s.waits ∧ Below w.heap.size w w' := by
  obtain ⟨i0, hi, hz0, hz1, hz2⟩ := info_parts Tryd.info3
  obtain ⟨c0, -, -⟩ := h.cell
  have hN4 := h.fine.le
  have hfx := h.fine.fx
  obtain ⟨N, hN⟩ : ∃ N, N = s.N := ⟨_, rfl⟩
  obtain ⟨f, hf⟩ : ∃ f, f = s.fx := ⟨_, rfl⟩
  rw [← hf] at c0 hfx
  rw [← hN] at hN4 hfx
  have HW : Hid (s.waits = waitTo s.V N) := by show _ = _; rw [hN]; rfl
  have H0 : Hid (waitTo s.V f = []) := waitTo_low _ _ (fun i hi => (h.fine.low i (by omega)).2)
  have HG : Hid (∀ W, Below w.heap.size w W → W.cell? ⟨b, 1, none⟩ = some (.pointer (some ⟨x.mb, 0, none⟩)) ∧ W.cell? ⟨b, 2, none⟩ = some (.pointer (some ⟨x.rb, 0, none⟩))) := fun W hW => (h.newer hW).cell.2
  have HL : Hid (∀ W, Below w.heap.size w W → Calls Tryd.prog 29 #[.pointer (some ⟨x.mb, 0, none⟩)] W fun e w' => e = .returned (.int .i64 (N : Int)) ∧ W = w') := fun W hW =>
    mlen_is W x.mb x.mg x.mc (mOf s) ((h.newer hW).mp.is (hT.below hW hT.lt)) N (by rw [length_mOf, hN])
  have HU : Hid (∀ W, Below w.heap.size w W → ∀ j, j < N → Calls Tryd.prog 30 #[.pointer (some ⟨x.mb, 0, none⟩), .int .i64 (j : Int)] W fun e w' => e = .returned (.bool (s.u j)) ∧ W = w') := fun W hW j hj =>
    mused_is W x.mb x.mg x.mc (mOf s) ((h.newer hW).mp.is (hT.below hW hT.lt)) (j : Int) ⟨by omega, by omega⟩ (s.u j) (by rw [usedZ_mOf, s.uZ_nat (by omega)])
  have HO : Hid (∀ W, Below w.heap.size w W → ∀ j, j < N → Calls Tryd.prog 31 #[.pointer (some ⟨x.rb, 0, none⟩), .int .i64 (j : Int)] W fun e w' => e = .returned (.int .i64 (s.C.getD j 0 : Nat)) ∧ ∃ k, w' = W.drewN k) := fun W hW j hj =>
    tof_is W x.rb x.rg x.rc s.C (h.newer hW).rf (j : Int) ⟨by omega, by omega⟩ _ (by have := s.of_nat (k := j) (by rw [h.fine.c]; omega); exact this.symm)
  have HF : Hid (∀ j, f ≤ j → ((s.u j = true ∧ s.C.getD j 0 = 0) ↔ s.V.getD j false = true)) := fun j hj => h.fine.waits_iff (by omega)
  have HB : Hid (∀ j, j < N → s.C.getD j 0 ≤ 9223372036854775807 ∨ True) := fun _ _ => .inr trivial
  clear h hT hN hf
  go_enter Tryd.func12, Tryd.ntmps12
  go_wp2_with fail
  go_loopw [3, 4] (fun vz i wr => ∃ j : Nat, f ≤ j ∧ j ≤ N ∧ i = .int .i64 (j : Int) ∧ Hid (OwnInts wr w.heap.size vz (waitTo s.V j)) ∧ Hid (Below w.heap.size w wr)) (fun _ i _ => N - (intOf i).toNat)
  case atStart => exact ⟨f, Nat.le_refl _, hfx, rfl, by rw [H0.out]; exact OwnInts.nil _ _, Below.refl _ _⟩
  case round =>
    obtain ⟨j, hfj, hj, rfl, ho, hb⟩ := hrel
    have hsz : w.heap.size ≤ wr.heap.size := hb.out.size
    obtain ⟨g1, g2⟩ := HG.out wr hb.out
    have HL1 := hid_of (HL.out wr hb.out)
    by_cases hjn : j < N
    · have HU1 := hid_of (HU.out wr hb.out j hjn)
      have hok : (waitTo s.V j).length ≤ 1000000 := by have := length_waitTo s.V j; omega
      cases hu : s.u j with
      | false =>
        have HNX : Hid (waitTo s.V (j + 1) = waitTo s.V j) := by
          show _ = _
          show (if s.V.getD j false then _ else _) = _
          rw [if_neg (fun e => by have := ((HF.out j hfj).2 e).1; rw [hu] at this; cases this)]
        have HO' : Hid (OwnInts wr w.heap.size u3 (waitTo s.V (j + 1))) := by rw [HNX.out]; exact ho.out
        rw [hu] at HU1
        clear hu
        go_wp2_with fail
        refine HL1.out.mono ?_
        rintro e w1 ⟨rfl, rfl⟩
        go_wp2_with fail
        refine HU1.out.mono ?_
        rintro e w1 ⟨rfl, rfl⟩
        go_wp2_with fail
        exact ⟨⟨j + 1, by omega, by omega, by go_num, HO', hb⟩, by (simp [intOf]) <;> omega⟩
      | true =>
        have HO1 := hid_of (HO.out wr hb.out j hjn)
        rw [hu] at HU1
        obtain ⟨c, hc⟩ : ∃ c, c = s.C.getD j 0 := ⟨_, rfl⟩
        rw [← hc] at HO1
        by_cases hc0 : c = 0
        · subst hc0
          have HNX : Hid (waitTo s.V (j + 1) = waitTo s.V j ++ [(j : Int)]) := by
            show _ = _
            show (if s.V.getD j false then _ else _) = _
            rw [if_pos ((HF.out j hfj).1 ⟨hu, hc.symm⟩)]
          clear hu hc
          go_wp2_with fail
          refine HL1.out.mono ?_
          rintro e w1 ⟨rfl, rfl⟩
          go_wp2_with fail
          refine HU1.out.mono ?_
          rintro e w1 ⟨rfl, rfl⟩
          go_wp2_with fail
          refine HO1.out.mono ?_
          rintro e w1 ⟨rfl, d, rfl⟩
          go_wp2_with (at_builtin; go_must (refine wpList_append_int (wr.drewN d) rfl (.tmp 33) (.tmp 35) 30 rfl w.heap.size i0 Tryd.underlying30 hi hz0 hz1 hz2 u3 (waitTo s.V j) (by rfl) (ho.out.drewN d) (j : Int) (by rfl) hok hsz ?_))
          intro v' w' g1 g2
          have HO' : Hid (OwnInts w' w.heap.size v' (waitTo s.V (j + 1))) := by rw [HNX.out]; exact g1
          have HB' : Hid (Below w.heap.size w w') := (below_drewN hb.out d).trans g2.out
          clear g1 g2
          go_wp2_with fail
          exact ⟨⟨j + 1, by omega, by omega, by go_num, HO', HB'⟩, by (simp [intOf]) <;> omega⟩
        · have HNX : Hid (waitTo s.V (j + 1) = waitTo s.V j) := by
            show _ = _
            show (if s.V.getD j false then _ else _) = _
            rw [if_neg (fun e => by have := ((HF.out j hfj).2 e).2; omega)]
          have hcb : ((c : Int) == 0) = false := beq_eq_false_iff_ne.2 (by omega)
          have hcb2 : (c == 0) = false := beq_eq_false_iff_ne.2 hc0
          have HO' : Hid (∀ d, OwnInts (wr.drewN d) w.heap.size u3 (waitTo s.V (j + 1))) := fun d => by rw [HNX.out]; exact ho.out.drewN d
          have HB' : Hid (∀ d, Below w.heap.size w (wr.drewN d)) := fun d => below_drewN hb.out d
          clear hu hc
          go_wp2_with fail
          refine HL1.out.mono ?_
          rintro e w1 ⟨rfl, rfl⟩
          go_wp2_with fail
          refine HU1.out.mono ?_
          rintro e w1 ⟨rfl, rfl⟩
          go_wp2_with fail
          refine HO1.out.mono ?_
          rintro e w1 ⟨rfl, d, rfl⟩
          go_wp2_with fail
          exact ⟨⟨j + 1, by omega, by omega, by go_num, HO'.out d, HB'.out d⟩, by (simp [intOf]) <;> omega⟩
    · obtain rfl : j = N := by omega
      have HO' : Hid (OwnInts wr w.heap.size u3 s.waits) := by rw [HW.out]; exact ho.out
      go_wp2_with fail
      refine HL1.out.mono ?_
      rintro e w1 ⟨rfl, rfl⟩
      go_wp2_with fail
      go_ret
      exact ⟨_, rfl, HO'.out, hb.out⟩
set_option maxRecDepth 100000 in
set_option maxHeartbeats 4000000 in
theorem gcommit_is (w : World) (hT : Tab w) (b : Nat) (x : SgB) (s : Sd) (h : SgIs w b x s) :
    Calls Tryd.prog 18 #[.pointer (some ⟨b, 0, none⟩)] w fun e w' => e = .returned (.int .i64 (s.waits.length : Nat)) ∧ SgIs w' b x s.commitS ∧ Kept (fun k => k = x.mg ∨ w.heap.size ≤ k) w w' := by
  have HWT := hid_of (gwaits_is w hT b x s h)
  have H0 := hid_of h
  have HT := hid_of hT
  have hfin := h.fine
  obtain ⟨l, hl⟩ : ∃ l, l = s.waits := ⟨_, rfl⟩
  have hll : l.length ≤ 4096 := by rw [hl]; exact Nat.le_trans (length_waitTo _ _) h.fine.le
  have HLI : Hid (∀ (j : Nat) (y : Int), l[j]? = some y → I64 y) := fun j y hy => by
    have hm := List.mem_of_getElem? hy
    rw [hl] at hm
    have hb : ∀ j, ∀ y ∈ waitTo s.V j, 0 ≤ y ∧ y < (j : Int) := by
      intro j
      induction j with
      | zero => intro y hy; cases hy
      | succ j ih =>
        intro y hy
        unfold waitTo at hy
        split at hy
        · rcases List.mem_append.1 hy with hy | hy
          · have := ih y hy; omega
          · rw [List.mem_singleton.1 hy]; omega
        · have := ih y hy; omega
    have := hb _ y hm
    have := h.fine.le
    exact ⟨by omega, by omega⟩
  have HE : Hid (turnM false (mOf s) l = mOf s.commitS) := by show _ = _; rw [hl]; exact h.fine.map_commit
  rw [← hl] at HWT ⊢
  clear h hT hl hfin
  obtain ⟨n, hn⟩ : ∃ n, n = l.length := ⟨_, rfl⟩
  have HN := hid_of hn
  rw [← hn]
  rw [← hn] at hll
  clear hn
  go_enter Tryd.func18, Tryd.ntmps18
  go_wp2_with fail
  refine HWT.out.mono ?_
  rintro e w1 ⟨v, rfl, hv, hb⟩
  obtain ⟨a, cap, rfl, hat, hfar⟩ := hv.slice
  rw [← HN.out]
  have HA := hid_of hat
  have HFAR := hid_of hfar
  have HB := hid_of hb
  have H1 := hid_of (H0.out.newer hb)
  have HT1 := hid_of (HT.out.below hb HT.out.lt)
  have hsz := hb.size
  clear hv hat hfar hb
  go_wp2_with fail
  go_loopw [10] (fun i wr => ∃ j : Nat, j ≤ n ∧ i = .int .i64 (j : Int) ∧ Hid (MpIs wr x.mb x.mg x.mc (turnM false (mOf s) (l.take j))) ∧ Hid (Kept (fun k => k = x.mg) w1 wr)) (fun i _ => n - (intOf i).toNat)
  case atStart => exact ⟨0, Nat.zero_le _, rfl, H1.out.mp.is HT1.out, Kept.refl _ _⟩
  case round =>
    obtain ⟨j, hj, rfl, hm, hk⟩ := hrel
    by_cases hjn : j < n
    · obtain ⟨y, hy⟩ : ∃ y, l[j]? = some y := ⟨_, List.getElem?_eq_getElem (by have := HN.out; omega)⟩
      have hmg : x.mg < w.heap.size := H0.out.mp.lt.2
      obtain ⟨ab, off, ha, hc⟩ := (HA.out.kept hk.out (fun z hz e => by
        rcases HFAR.out with ⟨e1, -⟩ | ⟨g, e1, e2, -⟩
        · rw [e1] at hz; cases hz
        · rw [e1] at hz; cases hz
          have e3 : g = x.mg := e
          omega)) j y hy
      subst ha
      have hc1 : wr.cell? ⟨b, 1, none⟩ = some (.pointer (some ⟨x.mb, 0, none⟩)) := by
        rw [hk.out.cell (H1.out.lt b (.inl rfl)) H1.out.ne1.2.1]; exact H1.out.cell.2.1
      have HS := hid_of (mset_is wr x.mb x.mg x.mc _ hm.out y (HLI.out j y hy) false _ rfl _ rfl)
      have HTK : Hid (setM (turnM false (mOf s) (l.take j)) y false = turnM false (mOf s) (l.take (j + 1))) := by
        show _ = _
        rw [take_next l j y hy, turnM_snoc]
      rw [HTK.out] at HS
      obtain ⟨R, hR⟩ : ∃ R, R = setsB (turnM false (mOf s) (l.take j)) y false := ⟨_, rfl⟩
      rw [← hR] at HS
      clear hy hR
      go_wp2_with fail
      refine HS.out.mono ?_
      rintro e w2 ⟨rfl, h1, h2⟩
      have H2 := hid_of h1
      have HK2 : Hid (Kept (fun k => k = x.mg) w1 w2) := hk.out.trans h2
      clear h1 h2
      go_wp2_with fail
      all_goals go_roundw
      case rel => exact ⟨j + 1, by omega, by go_num, H2, HK2⟩
      case measure => simp [intOf]; omega
    · obtain rfl : j = n := by omega
      have HM : Hid (MpIs wr x.mb x.mg x.mc (mOf s.commitS)) := by
        have e := hm.out
        rw [List.take_of_length_le (by have := HN.out; omega), HE.out] at e
        exact e
      have HS : Hid (SgIs wr b x s.commitS) := H1.out.mapped hk.out HM.out.r rfl H0.out.fine.committed rfl
      have HK : Hid (Kept (fun k => k = x.mg ∨ w.heap.size ≤ k) w wr) := by
        have hb := HB.out
        refine Kept.trans (b := w1) ⟨hb.os, hb.tape, hb.output, hb.size, fun k hk hf => hb.block k hk⟩ (hk.out.mono fun k _ e => .inl e)
      go_wp2_with fail
      go_ret
      exact ⟨rfl, HS.out, HK.out⟩

end Go.Proofs.YthfeecgpgempdaaDoor

/- The program's space: fresh, New; a space laid over another. -/
namespace Go.Proofs.YthfeecgpgempdaaDoor
set_option linter.unusedVariables false
set_option linter.unusedSimpArgs false
open Go.RowKit Dg

set_option maxRecDepth 100000 in
set_option maxHeartbeats 4000000 in
theorem gfresh_is (w : World) (hT : Tab w) (n f : Nat) (h1 : 1 ≤ n) (h2 : n ≤ 4096) (h3 : f ≤ n) :
    Calls Tryd.prog 26 #[.int .i64 (n : Int), .int .i64 (f : Int)] w fun e w' => ∃ (b : Nat) (x : SgB), e = .returned (.pointer (some ⟨b, 0, none⟩)) ∧ SgIs w' b x (newSd n f) ∧ (∀ k, x.In b k → w.heap.size ≤ k) ∧ Below w.heap.size w w' := by
  have HM := hid_of (mnew_any w hT n h1 h2)
  have HR : Hid (∀ W, Calls Tryd.prog 48 #[.int .i64 (n : Int)] W fun e w' => ∃ b g c, e = .returned (.tuple #[.pointer (some ⟨b, 0, none⟩), .int .i64 0]) ∧ TaIs w' b g c (List.replicate n 0) ∧ W.heap.size ≤ b ∧ W.heap.size ≤ g ∧ Below W.heap.size W w') := fun W => tnew_is W n h1 h2
  have HT := hid_of hT
  clear hT
  go_enter Tryd.func26, Tryd.ntmps26
  go_wp2_with fail
  refine HM.out.mono ?_
  rintro e w1 ⟨mb, mg, mc, rfl, hm, hmb, hmg, hb1⟩
  have HMI := hid_of hm
  have HB1 := hid_of hb1
  have HMB := hid_of (And.intro hmb hmg)
  clear hm hb1 hmb hmg HM
  go_wp2_with fail
  refine (HR.out w1).mono ?_
  rintro e w2 ⟨rb, rg, rc, rfl, hr, hrb, hrg, hb2⟩
  have HRI := hid_of hr
  have HB2 := hid_of hb2
  have HRB := hid_of (And.intro hrb hrg)
  clear hr hb2 hrb hrg HR
  have HM2 : Hid (MpIs w2 mb mg mc (List.replicate n false)) := by
    have e := (HMI.out.r.kept (X := fun k => w1.heap.size ≤ k) ⟨HB2.out.os, HB2.out.tape, HB2.out.output, HB2.out.size, fun k hk hf => HB2.out.block k hk⟩ (fun e => by have := HMI.out.r.lt.1; omega) (fun e => by have := HMI.out.r.lt.2; omega))
    exact e.is (HMI.out.tab.below HB2.out HMI.out.tab.lt)
  go_wp2_with fail
  go_loopw [21] (fun i wr => ∃ j : Nat, j ≤ f ∧ i = .int .i64 (j : Int) ∧ Hid (MpIs wr mb mg mc (turnM true (List.replicate n false) (fstI j))) ∧ Hid (Kept (fun k => k = mg) w2 wr)) (fun i _ => f - (intOf i).toNat)
  case atStart => exact ⟨0, Nat.zero_le _, rfl, HM2.out, Kept.refl _ _⟩
  case round =>
    obtain ⟨j, hj, rfl, hm, hk⟩ := hrel
    by_cases hjn : j < f
    · have HS := hid_of (mset_is wr mb mg mc _ hm.out (j : Int) ⟨by omega, by omega⟩ true _ rfl _ rfl)
      have HTK : Hid (setM (turnM true (List.replicate n false) (fstI j)) (j : Int) true = turnM true (List.replicate n false) (fstI (j + 1))) := by
        show _ = _
        rw [fstI_next, turnM_snoc]
      rw [HTK.out] at HS
      obtain ⟨R, hR⟩ : ∃ R, R = setsB (turnM true (List.replicate n false) (fstI j)) (j : Int) true := ⟨_, rfl⟩
      rw [← hR] at HS
      clear hR
      go_wp2_with fail
      refine HS.out.mono ?_
      rintro e w3 ⟨rfl, g1, g2⟩
      have H2 := hid_of g1
      have HK2 : Hid (Kept (fun k => k = mg) w2 w3) := hk.out.trans g2
      clear g1 g2
      go_wp2_with fail
      all_goals go_roundw
      case rel => exact ⟨j + 1, by omega, by go_num, H2, HK2⟩
      case measure => simp [intOf]; omega
    · obtain rfl : j = f := by omega
      have HM3 : Hid (MpIs wr mb mg mc (mOf (newSd n j))) := by
        have e := hm.out
        rw [map_new] at e
        exact e
      go_wp2_with fail
      go_ret
      have hs1 := HB1.out.size
      have hs2 := HB2.out.size
      have hs3 := hk.out.size
      have hml := HMI.out.lt
      have hrl := HRI.out.lt
      obtain ⟨hmb, hmg⟩ := HMB.out
      obtain ⟨hrb, hrg⟩ := HRB.out
      have hTl := HT.out.lt
      have hal : Kept (fun _ => False) wr (wr.alloc (.cells #[.int .i64 (j : Int), .pointer (some ⟨mb, 0, none⟩), .pointer (some ⟨rb, 0, none⟩)] 55)) := Kept.alloc _ _ _
      have hr3 : TaIs wr rb rg rc (List.replicate n 0) := HRI.out.kept hk.out (by omega) (by omega)
      refine ⟨wr.heap.size, ⟨mb, mg, mc, rb, rg, rc⟩, rfl, ⟨?_, ?_, ?_, newSd_fine h1 h2 h3, ⟨?_, ?_, ?_, ?_⟩, ⟨?_, ?_, ?_, ?_⟩, ?_, ?_, ?_⟩, ?_, ?_⟩
      · rw [heap_alloc_new]; rfl
      · exact HM3.out.r.kept hal (fun h => h) (fun h => h)
      · exact hr3.kept hal (fun h => h) (fun h => h)
      · show wr.heap.size ≠ mb; omega
      · show wr.heap.size ≠ mg; omega
      · show wr.heap.size ≠ rb; omega
      · show wr.heap.size ≠ rg; omega
      · show mb ≠ rb; omega
      · show mb ≠ rg; omega
      · show mg ≠ rb; omega
      · show mg ≠ rg; omega
      · show wr.heap.size ≠ _; omega
      · show rb ≠ _; omega
      · show rg ≠ _; omega
      · rintro k (rfl | rfl | rfl | rfl | rfl)
        · omega
        · exact hmb
        · exact hmg
        · exact Nat.le_trans hs1 hrb
        · exact Nat.le_trans hs1 hrg
      · have e1 : Below w.heap.size w w2 := HB1.out.trans ⟨HB2.out.os, HB2.out.tape, HB2.out.output, HB2.out.size, fun k hk => HB2.out.block k (Nat.lt_of_lt_of_le hk hs1)⟩
        have e2 : Below w.heap.size w wr := ⟨hk.out.os.trans e1.os, hk.out.tape.trans e1.tape, hk.out.output.trans e1.output, Nat.le_trans e1.size hs3, fun k hkk => (hk.out.block k (by omega) (by omega)).trans (e1.block k hkk)⟩
        exact e2.alloc e2.size _
set_option maxRecDepth 100000 in
set_option maxHeartbeats 1000000 in
theorem gnew_is (w : World) (hT : Tab w) (n f : Nat) (h1 : 1 ≤ n) (h2 : n ≤ 4096) (h3 : f ≤ n) :
    Calls Tryd.prog 9 #[.int .i64 (n : Int), .int .i64 (f : Int)] w fun e w' => ∃ (b : Nat) (x : SgB), e = .returned (.tuple #[.pointer (some ⟨b, 0, none⟩), .int .i64 0]) ∧ SgIs w' b x (newSd n f) ∧ (∀ k, x.In b k → w.heap.size ≤ k) ∧ Below w.heap.size w w' := by
  have HF := hid_of (gfresh_is w hT n f h1 h2 h3)
  clear hT
  go_enter Tryd.func9, Tryd.ntmps9
  go_wp2_with fail
  refine HF.out.mono ?_
  rintro e w1 ⟨b, x, rfl, g1, g2, g3⟩
  have G1 := hid_of g1
  have G2 := hid_of g2
  have G3 := hid_of g3
  clear g1 g2 g3
  go_wp2_with fail
  go_ret2
  exact ⟨b, x, rfl, G1.out, G2.out, G3.out⟩
set_option maxRecDepth 100000 in
set_option maxHeartbeats 1000000 in
theorem gnew_no : SpNewNo := by
  intro w n f hn hf h
  obtain ⟨hn1, hn2⟩ := hn
  obtain ⟨hf1, hf2⟩ := hf
  rcases (by omega : n < 1 ∨ (1 ≤ n ∧ 4096 < n) ∨ (1 ≤ n ∧ n ≤ 4096 ∧ f < 0) ∨ (1 ≤ n ∧ n ≤ 4096 ∧ 0 ≤ f ∧ n < f)) with h | ⟨h0, h⟩ | ⟨h0, h4, h⟩ | ⟨h0, h4, h5, h⟩
  all_goals
    go_enter Tryd.func9, Tryd.ntmps9
    go_wp2_with fail
    go_ret2
    exact ⟨rfl, Below.refl _ _⟩

theorem Tryd.infoSp : (Tryd.prog.info? 55).map (·.size) = some 3 := by kernel_rfl
/-- A space's three fields laid over another's. -/
theorem setCells3_heap (w : World) (b : Nat) (t : TypeId) (a0 a1 a2 c0 c1 c2 : Value) (h : w.heap[b]? = some (.cells #[a0, a1, a2] t (0, 0))) : (w.setCells b 0 [c0, c1, c2]).heap[b]? = some (.cells #[c0, c1, c2] t (0, 0)) := by
  have e1 := heap_setCell_of (o := 0) h c0
  have e2 := heap_setCell_of (o := 1) e1 c1
  have e3 := heap_setCell_of (o := 2) e2 c2
  exact e3
theorem Kept.setCells3 (w : World) (b : Nat) (c0 c1 c2 : Value) : Kept (fun k => k = b) w (w.setCells b 0 [c0, c1, c2]) :=
  (((Kept.setCell (F := fun k => k = b) w ⟨b, 0, none⟩ c0 rfl).trans (Kept.setCell _ ⟨b, 1, none⟩ c1 rfl)).trans (Kept.setCell _ ⟨b, 2, none⟩ c2 rfl))
theorem rng3 {w : World} {b : Nat} {c0 c1 c2 : Value} (h0 : w.cell? ⟨b, 0, none⟩ = some c0) (h1 : w.cell? ⟨b, 1, none⟩ = some c1) (h2 : w.cell? ⟨b, 2, none⟩ = some c2) : w.rangeAt b 0 [c0, c1, c2] := by
  intro j v hv
  rw [Nat.zero_add]
  match j, hv with
  | 0, hv => cases hv; exact h0
  | 1, hv => cases hv; exact h1
  | 2, hv => cases hv; exact h2
  | j + 3, hv => simp at hv
theorem gstore_is {w : World} {b : Nat} {x : SgB} {s : Sd} (h : SgIs w b x s) (c0 c1 c2 : Value) (h0 : c0.oneCell' = true) (h1 : c1.oneCell' = true) (h2 : c2.oneCell' = true) :
    (Instr.storeAt 55 (.pointer (some ⟨b, 0, none⟩)) (.agg #[c0, c1, c2])).run Tryd.prog w = .ok () (w.setCells b 0 [c0, c1, c2]) := by
  refine run_storeAt_mid (P := Tryd.prog) w b 0 55 #[c0, c1, c2] (fun j hj => ?_) Tryd.infoSp (by simp [h0, h1, h2])
  have hj3 : j < 3 := hj
  obtain ⟨g0, g1, g2⟩ := h.cell
  rw [Nat.zero_add]
  refine ⟨?_, ?_⟩
  · match j, hj3 with
    | 0, _ => rw [g0]; rfl
    | 1, _ => rw [g1]; rfl
    | 2, _ => rw [g2]; rfl
  · have e := h.box
    simp [World.frozen?, e]

end Go.Proofs.YthfeecgpgempdaaDoor

/- The program's space: Keep. -/
namespace Go.Proofs.YthfeecgpgempdaaDoor
set_option linter.unusedVariables false
set_option linter.unusedSimpArgs false
open Go.RowKit Dg

set_option maxRecDepth 100000 in
set_option maxHeartbeats 8000000 in
theorem gkeep_is (w : World) (hT : Tab w) (b : Nat) (x : SgB) (s : Sd) (h : SgIs w b x s) (a : Option Addr) (n cap : Nat) (l : List Int) (ha : IntsAt w a l) (hl : l.length = n) (hn : n ≤ 100000) (h64 : ∀ x ∈ l, I64 x) (hX : l ≠ [] → ∀ y, a = some y → ¬ x.In b y.block) (hlt : l ≠ [] → ∀ y, a = some y → y.block < w.heap.size) (R : Bool) (hR : R = s.keepOk l) (s2 : Sd) (hs2 : s2 = s.keepS l) :
    Calls Tryd.prog 20 #[.pointer (some ⟨b, 0, none⟩), .slice a n cap] w fun e w' => e = .returned (.bool R) ∧ ∃ x' : SgB, SgIs w' b x' s2 ∧ Kept (x.In b) w w' ∧ ∀ k, x'.In b k → x.In b k ∨ w.heap.size ≤ k := by
  obtain ⟨c0, c1, -⟩ := h.cell
  have H := hid_of h
  have HT := hid_of hT
  have HI := hid_of ha
  have H6 := hid_of h64
  have HX := hid_of hX
  have HLT := hid_of hlt
  have HL := hid_of hl
  have HR := hid_of hR
  have HS := hid_of hs2
  have hN4 := h.fine.le
  have hfx := h.fine.fx
  have hpos := h.fine.pos
  obtain ⟨N, hN⟩ : ∃ N, N = s.N := ⟨_, rfl⟩
  obtain ⟨F, hF⟩ : ∃ F, F = s.fx := ⟨_, rfl⟩
  have HN := hid_of hN
  have HF := hid_of hF
  rw [← hF] at c0 hfx
  rw [← hN] at hN4 hfx hpos
  have HLE : Hid (∀ W, Below w.heap.size w W → Calls Tryd.prog 29 #[.pointer (some ⟨x.mb, 0, none⟩)] W fun e w' => e = .returned (.int .i64 (N : Int)) ∧ W = w') := fun W hW =>
    mlen_is W x.mb x.mg x.mc (mOf s) ((h.newer hW).mp.is (hT.below hW hT.lt)) N (by rw [length_mOf, hN])
  have HL0 := hid_of (HLE.out w (Below.refl _ _))
  have HFR : Hid (∀ W, Below w.heap.size w W → Calls Tryd.prog 26 #[.int .i64 (N : Int), .int .i64 (F : Int)] W fun e w' => ∃ (b' m' r' : Nat), e = .returned (.pointer (some ⟨b', 0, none⟩)) ∧
      (w'.cell? ⟨b', 0, none⟩ = some (.int .i64 (F : Int)) ∧ w'.cell? ⟨b', 1, none⟩ = some (.pointer (some ⟨m', 0, none⟩)) ∧ w'.cell? ⟨b', 2, none⟩ = some (.pointer (some ⟨r', 0, none⟩))) ∧
      (w'.cell? ⟨b, 0, none⟩ = some (.int .i64 (F : Int)) ∧ (∀ v, (w'.setCell ⟨b, 0, none⟩ v).cell? ⟨b, 1, none⟩ = some (.pointer (some ⟨x.mb, 0, none⟩))) ∧ (∀ v v2, ((w'.setCell ⟨b, 0, none⟩ v).setCell ⟨b, 1, none⟩ v2).cell? ⟨b, 2, none⟩ = some (.pointer (some ⟨x.rb, 0, none⟩)))) ∧
      (w'.frozen? ⟨b, 0, none⟩ = false ∧ w'.frozen? ⟨b, 1, none⟩ = false ∧ w'.frozen? ⟨b, 2, none⟩ = false) ∧
      Hid (∃ x' : SgB, SgIs (w'.setCells b 0 [.int .i64 (F : Int), .pointer (some ⟨m', 0, none⟩), .pointer (some ⟨r', 0, none⟩)]) b x' (newSd N F) ∧ Kept (fun k => k = b ∨ w.heap.size ≤ k) w (w'.setCells b 0 [.int .i64 (F : Int), .pointer (some ⟨m', 0, none⟩), .pointer (some ⟨r', 0, none⟩)]) ∧ ∀ k, x'.In b k → k = b ∨ w.heap.size ≤ k)) := fun W hW => by
    refine (gfresh_is W (hT.below hW hT.lt) N F hpos hN4 hfx).mono ?_
    rintro e w1 ⟨b', x', rfl, g1, g2, g3⟩
    have hsz := hW.size
    have g4 : Below w.heap.size w w1 := hW.trans ⟨g3.os, g3.tape, g3.output, g3.size, fun k hk => g3.block k (Nat.lt_of_lt_of_le hk hsz)⟩
    have hb1 := h.newer g4
    have hbl := h.lt b (.inl rfl)
    have hk := Kept.setCells3 w1 b (.int .i64 (F : Int)) (.pointer (some ⟨x'.mb, 0, none⟩)) (.pointer (some ⟨x'.rb, 0, none⟩))
    have q := fun k hk => Nat.le_trans hsz (g2 k hk)
    have q1 := q _ (.inr (.inl rfl))
    have q2 := q _ (.inr (.inr (.inl rfl)))
    have q3 := q _ (.inr (.inr (.inr (.inl rfl))))
    have q4 := q _ (.inr (.inr (.inr (.inr rfl))))
    have hbc := hb1.cell
    have hfz : ∀ i, w1.frozen? ⟨b, i, none⟩ = false := fun i => by have e := hb1.box; simp [World.frozen?, e]
    refine ⟨b', x'.mb, x'.rb, rfl, g1.cell, ⟨by rw [hbc.1, ← hF], fun v => by rw [World.cell?_setCell_other _ _ _ _ (by simp)]; exact hbc.2.1, fun v v2 => by rw [World.cell?_setCell_other _ _ _ _ (by simp), World.cell?_setCell_other _ _ _ _ (by simp)]; exact hbc.2.2⟩, ⟨hfz 0, hfz 1, hfz 2⟩, x', ⟨setCells3_heap w1 b 55 _ _ _ _ _ _ hb1.box, g1.mp.kept hk (by omega) (by omega), g1.rf.kept hk (by omega) (by omega), g1.fine, ⟨by omega, by omega, by omega, by omega⟩, g1.ne2, ⟨h.nt.1, g1.nt.2.1, g1.nt.2.2⟩⟩, ?_, ?_⟩
    · exact Kept.trans (b := w1) ⟨g4.os, g4.tape, g4.output, g4.size, fun k hk hf => g4.block k hk⟩ (hk.mono fun k _ e => .inl e)
    · rintro k (e | e | e | e | e)
      · exact .inl e
      · exact .inr (by omega)
      · exact .inr (by omega)
      · exact .inr (by omega)
      · exact .inr (by omega)
  clear h hT ha h64 hX hlt hl hR hs2 hN hF
  go_enter Tryd.func20, Tryd.ntmps20
  go_wp2_with fail
  go_loopw [11] (fun i wr => ∃ j : Nat, j ≤ n ∧ i = .int .i64 (j : Int) ∧ Hid (∀ x ∈ l.take j, (F : Int) ≤ x ∧ x < (N : Int)) ∧ w = wr) (fun i _ => n - (intOf i).toNat)
  case atStart => exact ⟨0, Nat.zero_le _, rfl, (fun x hx => by simp at hx), rfl⟩
  case round =>
    obtain ⟨j, hj, rfl, HA, rfl⟩ := hrel
    by_cases hjn : j < n
    · obtain ⟨y, hy⟩ : ∃ y, l[j]? = some y := ⟨_, List.getElem?_eq_getElem (by have := HL.out; omega)⟩
      obtain ⟨ab, off, rfl, hc⟩ := HI.out j y hy
      have hm : y ∈ l := List.mem_of_getElem? hy
      obtain ⟨y1, y2⟩ := H6.out y hm
      have HTK := hid_of (take_next l j y hy)
      have hno : ¬ ((F : Int) ≤ y ∧ y < (N : Int)) → Hid (R = false ∧ s2 = s) := fun hn => by
        have e : s.keepOk l = false := by
          cases e : s.keepOk l with
          | false => rfl
          | true =>
            have := Sd.keepOk_iff.1 e y hm
            have := HN.out; have := HF.out
            exact absurd ⟨by omega, by omega⟩ hn
        exact ⟨HR.out.trans e, by rw [HS.out]; unfold Sd.keepS; rw [e]; rfl⟩
      have HNO := hid_of hno
      clear hy hm hno
      rcases (by omega : y < (F : Int) ∨ ((F : Int) ≤ y ∧ (N : Int) ≤ y) ∨ ((F : Int) ≤ y ∧ y < (N : Int))) with h5 | ⟨h5, h6⟩ | ⟨h5, h6⟩
      · have hb1 : decide (y < (F : Int)) = true := decide_eq_true h5
        obtain ⟨rfl, rfl⟩ := (HNO.out (by omega)).out
        go_wp2_with fail
        go_ret
        exact ⟨rfl, x, H.out, Kept.refl _ _, fun k hk => .inl hk⟩
      · have hb1 : decide (y < (F : Int)) = false := decide_eq_false (by omega)
        have hb2 : decide ((N : Int) ≤ y) = true := decide_eq_true h6
        obtain ⟨rfl, rfl⟩ := (HNO.out (by omega)).out
        go_wp2_with fail
        refine HL0.out.mono ?_
        rintro e w1 ⟨rfl, rfl⟩
        go_wp2_with fail
        go_ret
        exact ⟨rfl, x, H.out, Kept.refl _ _, fun k hk => .inl hk⟩
      · have hb1 : decide (y < (F : Int)) = false := decide_eq_false (by omega)
        have hb2 : decide ((N : Int) ≤ y) = false := decide_eq_false (by omega)
        have HA2 : Hid (∀ x ∈ l.take (j + 1), (F : Int) ≤ x ∧ x < (N : Int)) := fun y hy => by
          rw [HTK.out] at hy
          rcases List.mem_append.1 hy with hy | hy
          · exact HA.out y hy
          · rw [List.mem_singleton.1 hy]; exact ⟨h5, h6⟩
        go_wp2_with fail
        refine HL0.out.mono ?_
        rintro e w1 ⟨rfl, rfl⟩
        go_wp2_with fail
        all_goals go_roundw
        case rel => exact ⟨j + 1, by omega, by go_num, HA2, by trivial⟩
        case measure => simp [intOf]; omega
    · obtain rfl : j = n := by omega
      have hall : ∀ x ∈ l, (F : Int) ≤ x ∧ x < (N : Int) := by
        have := HA.out
        rw [List.take_of_length_le (by have := HL.out; omega)] at this
        exact this
      have hyes : s.keepOk l = true := Sd.keepOk_iff.2 (by rw [← HN.out, ← HF.out]; exact hall)
      obtain rfl : R = true := HR.out.trans hyes
      obtain ⟨k1, k2, k3⟩ := H.out.fine.map_keep hyes
      rw [← HS.out, ← HN.out, ← HF.out] at k1
      rw [← HS.out, ← HN.out] at k2
      rw [← HN.out] at k3
      have K1 := hid_of k1
      have K2 := hid_of k2
      have K3 := hid_of k3
      have HSF : Hid (s2.fx = F ∧ s2.Fine) := by
        refine ⟨?_, by rw [HS.out]; exact H.out.fine.keptS l⟩
        rw [HS.out, HF.out]; unfold Sd.keepS; split <;> rfl
      clear hall hyes k1 k2 k3 HA hjn HR HS
      go_upto_region 7 with fail
      go_cut [] from 31 to 44 (fun wx => ∃ x' : SgB, Hid (SgIs wx b x' (newSd N F)) ∧ Hid (Kept (fun k => k = b ∨ w.heap.size ≤ k) w wx) ∧ Hid (∀ k, x'.In b k → k = b ∨ w.heap.size ≤ k))
      case first =>
        go_region_with (first
          | (go_at_call 29; refine (HLE.out _ (below_drewN (Below.refl _ _) 1)).mono ?_; rintro e w1 ⟨rfl, rfl⟩)
          | (go_at_call 26; refine (HFR.out _ (below_drewN (Below.refl _ _) 1)).mono ?_; rintro e w1 ⟨b', m', r', rfl, ⟨e0, e1, e2⟩, ⟨f0, f1, f2⟩, ⟨z0, z1, z2⟩, HQ⟩))
        all_goals (try go_wp2_with fail)
        all_goals go_meet
        all_goals
          obtain ⟨x', q1, q2, q3⟩ := HQ.out
          exact ⟨x', q1, q2, q3⟩
      case rest =>
        obtain ⟨x', q1, q2, q3⟩ := hcut
        have hmg := q3.out _ (.inr (.inr (.inl rfl)))
        have hrg := q3.out _ (.inr (.inr (.inr (.inr rfl))))
        have hnb := q1.out.ne1
        have hbl := H.out.lt b (.inl rfl)
        have HTC : Hid (Tab wc) := HT.out.kept q2.out (fun e => by
          rcases e with e | e
          · exact H.out.nt.1 e.symm
          · have := HT.out.lt; omega)
        have HIC : Hid (∀ w' : World, Kept (fun k => k = x'.mg) wc w' → IntsAt w' a l) := fun w' hk => by
          by_cases hne : l = []
          · rw [hne]; exact IntsAt.nil _ _
          · refine (HI.out.kept q2.out (fun y hy e => ?_)).kept hk (fun y hy e => ?_)
            · rcases e with e | e
              · exact HX.out hne y hy (.inl e)
              · have := HLT.out hne y hy; omega
            · have e2 := HLT.out hne y hy
              rcases hmg with e3 | e3
              · exact hnb.2.1 e3.symm
              · have e4 : y.block = x'.mg := e
                omega
        have HCB : Hid (∀ w' : World, Kept (fun k => k = x'.mg) wc w' → w'.cell? ⟨b, 1, none⟩ = some (.pointer (some ⟨x'.mb, 0, none⟩)) ∧ w'.cell? ⟨b, 2, none⟩ = some (.pointer (some ⟨x'.rb, 0, none⟩))) := fun w' hk => by
          have e := q1.out.cell.2
          have hb := q1.out.lt b (.inl rfl)
          exact ⟨by rw [hk.cell hb hnb.2.1]; exact e.1, by rw [hk.cell hb hnb.2.1]; exact e.2⟩
        have HAD : Hid (∀ w' : World, Kept (fun k => k = x'.mg) wc w' → Calls Tryd.prog 28 #[.pointer (some ⟨x'.rb, 0, none⟩), .slice a j cap] w' fun e w'' => e = .returned (.bool true) ∧ TaIs w'' x'.rb x'.rg x'.rc s2.C ∧ Kept (fun k => k = x'.rg) w' w'') := fun w' hk =>
          tadd_is w' x'.rb x'.rg x'.rc (List.replicate N 0) (q1.out.rf.kept hk (fun e => q1.out.ne2.2.2.1 e.symm) (fun e => q1.out.ne2.2.2.2 e.symm)) a j cap l (HIC.out w' hk) HL.out hn (fun y hy => H6.out y hy) (fun hne y hy e => by
            have e2 := HLT.out hne y hy
            rcases hrg with e3 | e3
            · exact hnb.2.2.2 e3.symm
            · omega) (by rw [sumC_nought]; omega) true K3.out.symm s2.C K2.out
        have HEND : Hid (∀ w1 w2 : World, Kept (fun k => k = x'.mg) wc w1 → MpIs w1 x'.mb x'.mg x'.mc (mOf s2) → Kept (fun k => k = x'.rg) w1 w2 → TaIs w2 x'.rb x'.rg x'.rc s2.C → SgIs w2 b x' s2 ∧ Kept (x.In b) w w2 ∧ ∀ k, x'.In b k → x.In b k ∨ w.heap.size ≤ k) := fun w1 w2 k1 m1 k2 t2 => by
          have hb := q1.out.lt b (.inl rfl)
          refine ⟨⟨?_, m1.r.kept k2 q1.out.ne2.2.1 q1.out.ne2.2.2.2, t2, HSF.out.2, q1.out.ne1, q1.out.ne2, q1.out.nt⟩, ?_, fun k hk => (q3.out k hk).imp (fun e => .inl e) id⟩
          · rw [k2.block b (Nat.lt_of_lt_of_le hb k1.size) hnb.2.2.2, k1.block b hb hnb.2.1, HSF.out.1]
            exact q1.out.box
          · refine ⟨k2.os.trans (k1.os.trans q2.out.os), k2.tape.trans (k1.tape.trans q2.out.tape), k2.output.trans (k1.output.trans q2.out.output), Nat.le_trans q2.out.size (Nat.le_trans k1.size k2.size), fun k hk hf => ?_⟩
            have a1 := q2.out.size
            have a2 := k1.size
            have hkb : k ≠ b := fun e => hf (.inl e)
            rw [k2.block k (by omega) (fun e => by rcases hrg with e3 | e3 <;> omega), k1.block k (by omega) (fun e => by rcases hmg with e3 | e3 <;> omega), q2.out.block k hk (fun e => by rcases e with e | e <;> omega)]
        clear hmg hrg hnb hbl
        go_wp2_with fail
        go_loopw [47] (fun i wr => ∃ k : Nat, k ≤ j ∧ i = .int .i64 (k : Int) ∧ Hid (MpIs wr x'.mb x'.mg x'.mc (turnM true (mOf (newSd N F)) (l.take k))) ∧ Hid (Kept (fun k => k = x'.mg) wc wr)) (fun i _ => j - (intOf i).toNat)
        case atStart => exact ⟨0, Nat.zero_le _, rfl, q1.out.mp.is HTC.out, Kept.refl _ _⟩
        case round =>
          obtain ⟨k, hk, rfl, hm, hkk⟩ := hrel
          obtain ⟨g1, g2⟩ := HCB.out wr hkk.out
          by_cases hkn : k < j
          · obtain ⟨y, hy⟩ : ∃ y, l[k]? = some y := ⟨_, List.getElem?_eq_getElem (by have := HL.out; omega)⟩
            obtain ⟨ab, off, rfl, hc⟩ := HIC.out wr hkk.out k y hy
            have HSE := hid_of (mset_is wr x'.mb x'.mg x'.mc _ hm.out y (H6.out y (List.mem_of_getElem? hy)) true _ rfl _ rfl)
            have HTK : Hid (setM (turnM true (mOf (newSd N F)) (l.take k)) y true = turnM true (mOf (newSd N F)) (l.take (k + 1))) := by
              show _ = _
              rw [take_next l k y hy, turnM_snoc]
            rw [HTK.out] at HSE
            obtain ⟨B, hB⟩ : ∃ B, B = setsB (turnM true (mOf (newSd N F)) (l.take k)) y true := ⟨_, rfl⟩
            rw [← hB] at HSE
            clear hy hB
            go_wp2_with fail
            refine HSE.out.mono ?_
            rintro e w3 ⟨rfl, h1, h2⟩
            have H2 := hid_of h1
            have HK2 : Hid (Kept (fun k => k = x'.mg) wc w3) := hkk.out.trans h2
            clear h1 h2
            go_wp2_with fail
            all_goals go_roundw
            case rel => exact ⟨k + 1, by omega, by go_num, H2, HK2⟩
            case measure => simp [intOf]; omega
          · obtain rfl : k = j := by omega
            have HM : Hid (MpIs wr x'.mb x'.mg x'.mc (mOf s2)) := by
              have e := hm.out
              rw [List.take_of_length_le (by have := HL.out; omega), K1.out] at e
              exact e
            have HA := hid_of (HAD.out wr hkk.out)
            go_wp2_with fail
            refine HA.out.mono ?_
            rintro e w4 ⟨rfl, h1, h2⟩
            have HE := hid_of (HEND.out wr w4 hkk.out HM.out h2 h1)
            clear h1 h2
            go_wp2_with fail
            go_ret
            exact ⟨rfl, x', HE.out.1, HE.out.2.1, HE.out.2.2⟩

end Go.Proofs.YthfeecgpgempdaaDoor

/- The program's map: Clone; Bytes; Level. -/
namespace Go.Proofs.YthfeecgpgempdaaDoor
set_option linter.unusedVariables false
set_option linter.unusedSimpArgs false
open Go.RowKit Dg

theorem oneC_w (l : List Nat) : ∀ u ∈ w64s l, u.oneCell' = true := by
  intro u hu
  obtain ⟨x, -, rfl⟩ := List.mem_map.1 hu
  rfl
set_option maxHeartbeats 1000000 in
set_option maxRecDepth 100000 in
/-- 'slices.Clone' of words. -/
theorem mcw_any (w : World) (g n c : Nat) (l : List Nat) (hn1 : 1 ≤ n) (hn2 : n ≤ 100000) (h : w.ownsRow 0 77 1 (.slice (some ⟨g, 0, none⟩) n c) n (w64s l)) :
    Calls Tryd.prog 53 #[.slice (some ⟨g, 0, none⟩) n c] w fun e w' => ∃ g2 c2, e = .returned (.slice (some ⟨g2, 0, none⟩) n c2) ∧ w'.ownsRow w.heap.size 77 1 (.slice (some ⟨g2, 0, none⟩) n c2) n (w64s l) ∧ Below w.heap.size w w' := by
  obtain ⟨i0, hi, hz0, hz1, hz2⟩ := info_parts Tryd.infoW64
  have qT : ∀ (w : World) (a : Option Addr) (n c n' c' : Nat), (binOp .eql 74 (.slice a n c) (.slice none n' c')).run Tryd.prog w = .ok (.bool a.isNone) w := fun w a n c n' c' => Lib.run_eql_slice_nil w _ _ a n c n' c' Tryd.underlying74
  have HB0 : Hid (Below w.heap.size w (w.alloc (.cells #[] 77))) := (Below.refl _ _).alloc (Nat.le_refl _) _
  have HO : Hid ((w.alloc (.cells #[] 77)).ownsRow w.heap.size 77 1 (.slice (some ⟨w.heap.size, 0, none⟩) 0 0) 0 []) := ws_new w w.heap.size #[] 0 [] rfl rfl (by decide) (Nat.le_refl _)
  have HS := hid_of h
  have hl : l.length = n := by have := h.1; simpa using this
  have HL := hid_of hl
  have HC : Hid (∀ j u, (w64s l)[j]? = some u → (w.alloc (.cells #[] 77)).cell? ((⟨g, 0, none⟩ : Addr).add j) = some u) := fun j u hu => by
    rw [w64s_get] at hu
    obtain ⟨x, hx, rfl⟩ := Option.map_eq_some_iff.1 hu
    have hadd : (⟨g, 0, none⟩ : Addr).add j = ⟨g, j, none⟩ := by simp [Addr.add]; omega
    rw [hadd, (Kept.alloc (fun _ => False) w _).cell (World.ownsRow.lt h g rfl).2 (fun h => h)]
    exact (ws_cell h hx).1
  clear h hl
  go_enter Tryd.func53, Tryd.ntmps53
  go_wp2_with (at_builtin; go_must (refine wpList_append_mine _ rfl (.tmp 5) (.tmp 6) 74 rfl w.heap.size 77 i0 (.int .u64 0) 1 8 Tryd.underlying74 hi hz0 hz1 hz2 rfl (by decide) _ 0 [] rfl HO.out ⟨g, 0, none⟩ n c (w64s l) rfl ?c1 HC.out (oneC_w l) (by omega) ?b1 ?b2 HB0.out.size ?_))
  case c1 => rw [length_w64s, HL.out]; omega
  case b1 => unfold maxLen; omega
  case b2 => omega
  intro g2 c2 w2 H1 H2 H3
  have HO2 : Hid (w2.ownsRow w.heap.size 77 1 (.slice (some ⟨g2, 0, none⟩) n c2) n (w64s l)) := by
    first
      | exact H1
      | (have e := H1.out; rw [Nat.zero_add] at e; exact e)
  have HB2 : Hid (Below w.heap.size w w2) := HB0.out.grown H2.out HB0.out.size (fun k e => by cases e; exact Nat.le_refl _)
  clear H1 H2 H3
  try rw [Nat.zero_add]
  go_wp2_with fail
  go_ret
  exact ⟨g2, c2, rfl, HO2.out, HB2.out⟩
/-- The bytes of the first i. -/
def bytesTo (m : List Bool) : Nat → List Nat
  | 0 => List.replicate ((m.length + 7) / 8) 0
  | i + 1 => if m[i]? = some true then (bytesTo m i).set (i / 8) ((bytesTo m i).getD (i / 8) 0 ||| 128 / 2 ^ (i % 8)) else bytesTo m i
theorem length_bytesTo (m : List Bool) : ∀ i, (bytesTo m i).length = (m.length + 7) / 8
  | 0 => by simp [bytesTo]
  | i + 1 => by
    unfold bytesTo
    split
    · rw [List.length_set, length_bytesTo m i]
    · exact length_bytesTo m i
theorem bytesTo_lt (m : List Bool) : ∀ i, ∀ x ∈ bytesTo m i, x < 256
  | 0, x, h => by have := (List.mem_replicate.1 h).2; omega
  | i + 1, x, h => by
    unfold bytesTo at h
    split at h
    · rcases List.mem_or_eq_of_mem_set h with h | h
      · exact bytesTo_lt m i x h
      · rw [h]
        refine Nat.or_lt_two_pow (n := 8) ?_ (Nat.lt_of_le_of_lt (Nat.div_le_self _ _) (by decide))
        rw [List.getD_eq_getElem?_getD]
        cases e : (bytesTo m i)[i / 8]? with
        | none => decide
        | some y => exact bytesTo_lt m i y (List.mem_of_getElem? e)
    · exact bytesTo_lt m i x h
theorem u8_or_nat (a b : Nat) (ha : a < 256) (hb : b < 256) : bits .or .u8 (a : Int) (b : Int) = ((a ||| b : Nat) : Int) := by
  have hx : a ||| b < 2 ^ 8 := Nat.or_lt_two_pow (by omega) (by omega)
  have h1 : (BitVec.ofInt 8 (a : Int)).toNat = a := by
    rw [BitVec.ofInt_natCast, BitVec.toNat_ofNat]; exact Nat.mod_eq_of_lt (by omega)
  have h2 : (BitVec.ofInt 8 (b : Int)).toNat = b := by
    rw [BitVec.ofInt_natCast, BitVec.toNat_ofNat]; exact Nat.mod_eq_of_lt (by omega)
  show IntKind.u8.wrap ((BitVec.ofInt 8 (a : Int) ||| BitVec.ofInt 8 (b : Int)).toNat : Int) = _
  rw [BitVec.toNat_or, h1, h2]
  show IntKind.u8.wrap (((a ||| b : Nat) : Nat) : Int) = _
  generalize a ||| b = y at hx
  simp [IntKind.wrap, IntKind.signed, IntKind.bits]
  omega

end Go.Proofs.YthfeecgpgempdaaDoor
