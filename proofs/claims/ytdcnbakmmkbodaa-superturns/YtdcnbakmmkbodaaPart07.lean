/- The texts SuRef5, SuO, SuEq, SuRow, SuChs, SameB, one behind the other. -/
import Derived.Test.YtdcnbakmmkbodaaPart06
import Derived.Test.YtdcnbakmmkbodaaPart03
import Derived.Test.YtdcnbakmmkbodaaPart05
import Derived.Laws.StructEq
import Derived.Test.YtdcnbakmmkbodaaPart02
import Derived.Deep.CutBlock

/- The document's superblocks: Choose. -/
namespace Go.Proofs.Ytdcnbakmmkbodaa
set_option linter.unusedVariables false
set_option linter.unusedSimpArgs false
open Go.RowKit Dg Cr

theorem choose_of {l1 l2 : List Nat} {s1 s2 : Su} {m1 m2 : Int} {o1 o2 : Bool} (h1 : unpSu l1 = (s1, m1, o1)) (h2 : unpSu l2 = (s2, m2, o2)) :
    chooseSu l1 l2 = if (o1 && (!o2 || decide (s2.gen ≤ s1.gen))) = true then (s1, m1, 0, true) else if o2 = true then (s2, m2, 1, true) else (⟨0, 0, 0, 0⟩, 0, 0, false) := by
  unfold unpSu at h1 h2
  unfold chooseSu
  by_cases i1 : isSu l1
  · rw [if_pos i1] at h1
    injection h1 with e1 e2
    injection e2 with e2 e3
    by_cases i2 : isSu l2
    · rw [if_pos i2] at h2
      injection h2 with f1 f2
      injection f2 with f2 f3
      subst e1 e2 e3 f1 f2 f3
      by_cases g : (readSu l2).gen ≤ (readSu l1).gen <;> simp [i1, i2, g]
    · rw [if_neg i2] at h2
      injection h2 with f1 f2
      injection f2 with f2 f3
      subst e1 e2 e3 f1 f2 f3
      simp [i1, i2]
  · rw [if_neg i1] at h1
    injection h1 with e1 e2
    injection e2 with e2 e3
    by_cases i2 : isSu l2
    · rw [if_pos i2] at h2
      injection h2 with f1 f2
      injection f2 with f2 f3
      subst e1 e2 e3 f1 f2 f3
      simp [i1, i2]
    · rw [if_neg i2] at h2
      injection h2 with f1 f2
      injection f2 with f2 f3
      subst e1 e2 e3 f1 f2 f3
      simp [i1, i2]
/-- A variable of four cells: its cells, and four stored one behind another. -/
theorem box4 {W : World} {r : Nat} {t : TypeId} {z0 z1 z2 z3 : Value} (h : W.heap[r]? = some (.cells #[z0, z1, z2, z3] t (0, 0))) :
    (W.cell? ⟨r, 0, none⟩ = some z0 ∧ W.cell? ⟨r, 1, none⟩ = some z1 ∧ W.cell? ⟨r, 2, none⟩ = some z2 ∧ W.cell? ⟨r, 3, none⟩ = some z3) ∧ (∀ j, W.frozen? ⟨r, j, none⟩ = false) ∧
    (∀ v, (W.setCell ⟨r, 0, none⟩ v).cell? ⟨r, 1, none⟩ = some z1) ∧ (∀ v v2, ((W.setCell ⟨r, 0, none⟩ v).setCell ⟨r, 1, none⟩ v2).cell? ⟨r, 2, none⟩ = some z2) ∧
    (∀ v v2 v3, (((W.setCell ⟨r, 0, none⟩ v).setCell ⟨r, 1, none⟩ v2).setCell ⟨r, 2, none⟩ v3).cell? ⟨r, 3, none⟩ = some z3) ∧
    Hid (∀ c0 c1 c2 c3 : Value, (((((W.setCell ⟨r, 0, none⟩ c0).setCell ⟨r, 1, none⟩ c1).setCell ⟨r, 2, none⟩ c2).setCell ⟨r, 3, none⟩ c3).heap[r]? = some (.cells #[c0, c1, c2, c3] t (0, 0))) ∧ Kept (fun k => k = r) W ((((W.setCell ⟨r, 0, none⟩ c0).setCell ⟨r, 1, none⟩ c1).setCell ⟨r, 2, none⟩ c2).setCell ⟨r, 3, none⟩ c3)) := by
  have hc : W.cell? ⟨r, 0, none⟩ = some z0 ∧ W.cell? ⟨r, 1, none⟩ = some z1 ∧ W.cell? ⟨r, 2, none⟩ = some z2 ∧ W.cell? ⟨r, 3, none⟩ = some z3 := by
    refine ⟨?_, ?_, ?_, ?_⟩ <;> (unfold World.cell?; rw [h]; rfl)
  refine ⟨hc, fun j => by simp [World.frozen?, h], fun v => ?_, fun v v2 => ?_, fun v v2 v3 => ?_, fun c0 c1 c2 c3 => ⟨?_, ?_⟩⟩
  · rw [World.cell?_setCell_other _ _ _ _ (by simp)]; exact hc.2.1
  · rw [World.cell?_setCell_other _ _ _ _ (by simp), World.cell?_setCell_other _ _ _ _ (by simp)]; exact hc.2.2.1
  · rw [World.cell?_setCell_other _ _ _ _ (by simp), World.cell?_setCell_other _ _ _ _ (by simp), World.cell?_setCell_other _ _ _ _ (by simp)]; exact hc.2.2.2
  · have q1 := heap_setCell_of (o := 0) h c0
    have q2 := heap_setCell_of (o := 1) q1 c1
    have q3 := heap_setCell_of (o := 2) q2 c2
    have q4 := heap_setCell_of (o := 3) q3 c3
    exact q4
  · exact (((Kept.setCell (F := fun k => k = r) _ ⟨r, 0, none⟩ c0 rfl).trans (Kept.setCell _ ⟨r, 1, none⟩ c1 rfl)).trans (Kept.setCell _ ⟨r, 2, none⟩ c2 rfl)).trans (Kept.setCell _ ⟨r, 3, none⟩ c3 rfl)

set_option maxRecDepth 100000 in
set_option maxHeartbeats 8000000 in
theorem rchoose_any (w : World) (a1 : Option Addr) (n1 c1 : Nat) (l1 : List Nat) (a2 : Option Addr) (n2 c2 : Nat) (l2 : List Nat) (hB1 : Bs w a1 c1 l1) (hl1 : l1.length = n1) (hn1 : n1 ≤ 100000) (h1 : ∀ x ∈ l1, x < 256) (hB2 : Bs w a2 c2 l2) (hl2 : l2.length = n2) (hn2 : n2 ≤ 100000) (h2 : ∀ x ∈ l2, x < 256) :
    Calls Try.prog 21 #[.slice a1 n1 c1, .slice a2 n2 c2] w fun e w' => e = .returned (.tuple #[suV (chooseSu l1 l2).1, .int .i64 (chooseSu l1 l2).2.1, .int .i64 (chooseSu l1 l2).2.2.1, .bool (chooseSu l1 l2).2.2.2]) ∧ Below w.heap.size w w' := by
  obtain ⟨⟨p1, p2, p3, p4⟩, m1, o1, hu1⟩ : ∃ s m o, unpSu l1 = (s, m, o) := ⟨_, _, _, rfl⟩
  obtain ⟨⟨q1, q2, q3, q4⟩, m2, o2, hu2⟩ : ∃ s m o, unpSu l2 = (s, m, o) := ⟨_, _, _, rfl⟩
  have hch := choose_of hu1 hu2
  have hc1 := hB1.le
  have hc2 := hB2.le
  have HU1 : Hid (∀ W : World, Below w.heap.size w W → Calls Try.prog 20 #[.slice a1 n1 c1] W fun e w' => e = .returned (.tuple #[.agg #[.int .i64 p1, .int .i64 p2, .int .i64 p3, .int .i64 p4], .int .i64 m1, .bool o1]) ∧ Below W.heap.size W w') := fun W hW => by
    have e := runp_any W a1 n1 c1 l1 (hB1.below hW) hl1 h1 hn1 (by omega)
    rw [hu1] at e
    exact e
  have HU2 : Hid (∀ W : World, Below w.heap.size w W → Calls Try.prog 20 #[.slice a2 n2 c2] W fun e w' => e = .returned (.tuple #[.agg #[.int .i64 q1, .int .i64 q2, .int .i64 q3, .int .i64 q4], .int .i64 m2, .bool o2]) ∧ Below W.heap.size W w') := fun W hW => by
    have e := runp_any W a2 n2 c2 l2 (hB2.below hW) hl2 h2 hn2 (by omega)
    rw [hu2] at e
    exact e
  obtain ⟨u, uc, us, uo, hu⟩ : ∃ u uc us uo, chooseSu l1 l2 = (u, uc, us, uo) := ⟨_, _, _, _, rfl⟩
  rw [hu] at hch ⊢
  have HO : Hid ((o1 = false → o2 = false → (u, uc, us, uo) = ((⟨0, 0, 0, 0⟩ : Su), (0 : Int), (0 : Int), false)) ∧ (o1 = false → o2 = true → (u, uc, us, uo) = ((⟨q1, q2, q3, q4⟩ : Su), m2, (1 : Int), true)) ∧ (o1 = true → o2 = false → (u, uc, us, uo) = ((⟨p1, p2, p3, p4⟩ : Su), m1, (0 : Int), true)) ∧ (o1 = true → o2 = true → q1 ≤ p1 → (u, uc, us, uo) = ((⟨p1, p2, p3, p4⟩ : Su), m1, (0 : Int), true)) ∧ (o1 = true → o2 = true → ¬ q1 ≤ p1 → (u, uc, us, uo) = ((⟨q1, q2, q3, q4⟩ : Su), m2, (1 : Int), true))) := by
    refine ⟨?_, ?_, ?_, ?_, ?_⟩
    · rintro rfl rfl; rw [hch]; simp
    · rintro rfl rfl; rw [hch]; simp
    · rintro rfl rfl; rw [hch]; simp
    · rintro rfl rfl h; rw [hch]; simp [h]
    · rintro rfl rfl h; rw [hch]; simp [h]
  clear hch hu hu1 hu2 hB1 hB2 h1 h2 hl1 hl2 hc1 hc2
  show Calls Try.prog _ _ w fun e w' => e = .returned (.tuple #[suV u, .int .i64 uc, .int .i64 us, .bool uo]) ∧ Below w.heap.size w w'
  obtain ⟨rx, hrx⟩ : ∃ rx, rx = w.heap.size := ⟨_, rfl⟩
  obtain ⟨w0, hw0⟩ : ∃ w0, w0 = w.alloc (.cells #[.int .i64 0, .int .i64 0, .int .i64 0, .int .i64 0] 23) := ⟨_, rfl⟩
  have hb0 : Below w.heap.size w w0 := by rw [hw0]; exact (Below.refl _ _).alloc (Nat.le_refl _) _
  have hr0 : w0.heap[rx]? = some (.cells #[.int .i64 0, .int .i64 0, .int .i64 0, .int .i64 0] 23 (0, 0)) := by rw [hw0, hrx]; exact heap_alloc_new w _
  have HB0 := hid_of hb0
  have HR0 := hid_of hr0
  have HRX := hid_of hrx
  have HC1 := hid_of (HU1.out w0 hb0)
  go_enter Try.func21, Try.ntmps21
  go_upto_region 1 with fail
  rw [← hw0, ← hrx]
  clear hw0 hrx hb0 hr0
  go_wp2_with fail
  refine HC1.out.mono ?_
  rintro e w1 ⟨rfl, hb1⟩
  obtain ⟨wA, hwA⟩ : ∃ wA, wA = w1.alloc (.cells #[.int .i64 p1, .int .i64 p2, .int .i64 p3, .int .i64 p4] 23) := ⟨_, rfl⟩
  obtain ⟨sx, hsx⟩ : ∃ sx, sx = w1.heap.size := ⟨_, rfl⟩
  have hbA : Below w0.heap.size w0 wA := by rw [hwA]; exact hb1.alloc hb1.size _
  have hsA : wA.heap[sx]? = some (.cells #[.int .i64 p1, .int .i64 p2, .int .i64 p3, .int .i64 p4] 23 (0, 0)) := by rw [hwA, hsx]; exact heap_alloc_new w1 _
  have HBA : Hid (Below w.heap.size w wA) := HB0.out.trans (hbA.mono HB0.out.size)
  have HRA : Hid (wA.heap[rx]? = some (.cells #[.int .i64 0, .int .i64 0, .int .i64 0, .int .i64 0] 23 (0, 0))) := (hbA.block rx (Array.getElem?_eq_some_iff.1 HR0.out).1).trans HR0.out
  have HSA := hid_of hsA
  have HC2 := hid_of (HU2.out wA HBA.out)
  go_upto_region 2 with fail
  rw [← hwA, ← hsx]
  clear hwA hsx hbA hsA hb1 HB0 HR0 HU1 HU2 HC1
  go_wp2_with fail
  refine HC2.out.mono ?_
  rintro e w2 ⟨rfl, hb2⟩
  obtain ⟨wB, hwB⟩ : ∃ wB, wB = w2.alloc (.cells #[.int .i64 q1, .int .i64 q2, .int .i64 q3, .int .i64 q4] 23) := ⟨_, rfl⟩
  obtain ⟨tx, htx⟩ : ∃ tx, tx = w2.heap.size := ⟨_, rfl⟩
  have hbB : Below wA.heap.size wA wB := by rw [hwB]; exact hb2.alloc hb2.size _
  have htB : wB.heap[tx]? = some (.cells #[.int .i64 q1, .int .i64 q2, .int .i64 q3, .int .i64 q4] 23 (0, 0)) := by rw [hwB, htx]; exact heap_alloc_new w2 _
  have HBB : Hid (Below w.heap.size w wB) := HBA.out.trans (hbB.mono HBA.out.size)
  have hrB : wB.heap[rx]? = some (.cells #[.int .i64 0, .int .i64 0, .int .i64 0, .int .i64 0] 23 (0, 0)) := (hbB.block rx (Array.getElem?_eq_some_iff.1 HRA.out).1).trans HRA.out
  have hsB : wB.heap[sx]? = some (.cells #[.int .i64 p1, .int .i64 p2, .int .i64 p3, .int .i64 p4] 23 (0, 0)) := (hbB.block sx (Array.getElem?_eq_some_iff.1 HSA.out).1).trans HSA.out
  obtain ⟨⟨k0, k1, k2, k3⟩, -⟩ := box4 hsB
  obtain ⟨⟨j0, j1, j2, j3⟩, -⟩ := box4 htB
  obtain ⟨⟨z0, z1, z2, z3⟩, mf, f1, f2, f3, HST⟩ := box4 hrB
  have HEND : Hid (∀ c0 c1 c2 c3 : Value, Below w.heap.size w ((((wB.setCell ⟨rx, 0, none⟩ c0).setCell ⟨rx, 1, none⟩ c1).setCell ⟨rx, 2, none⟩ c2).setCell ⟨rx, 3, none⟩ c3)) := fun c0 c1 c2 c3 => (HST.out c0 c1 c2 c3).2.below_of HBB.out (fun k e => by have := HRX.out; omega) HBB.out.size
  go_upto_region 3 with fail
  rw [← hwB, ← htx]
  clear hwB htx hbB htB hrB hsB hb2 HBA HRA HSA HC2 HBB
  cases o1
  · cases o2
    · have e := HO.out.1 rfl rfl
      simp only [Prod.mk.injEq] at e
      obtain ⟨rfl, rfl, rfl, rfl⟩ := e
      clear HO
      go_wp2_with fail
      try simp only [Exit.inBlock, Exit.then]
      refine bodyPost_ret (results_cell4 (p := 4) (ty := 23) rfl _ _ rx 23 #[.int .i64 0, .int .i64 0, .int .i64 0, .int .i64 0] (0, 0) _ rfl (HST.out _ _ _ _).1 Try.underlying23 rfl Try.infoSu) rfl ?_
      exact ⟨rfl, HEND.out _ _ _ _⟩
    · have e := HO.out.2.1 rfl rfl
      simp only [Prod.mk.injEq] at e
      obtain ⟨rfl, rfl, rfl, rfl⟩ := e
      clear HO
      go_wp2_with fail
      try simp only [Exit.inBlock, Exit.then]
      refine bodyPost_ret (results_cell4 (p := 4) (ty := 23) rfl _ _ rx 23 #[.int .i64 q1, .int .i64 q2, .int .i64 q3, .int .i64 q4] (0, 0) _ rfl (HST.out _ _ _ _).1 Try.underlying23 rfl Try.infoSu) rfl ?_
      exact ⟨rfl, HEND.out _ _ _ _⟩
  · cases o2
    · have e := HO.out.2.2.1 rfl rfl
      simp only [Prod.mk.injEq] at e
      obtain ⟨rfl, rfl, rfl, rfl⟩ := e
      clear HO
      go_wp2_with fail
      try simp only [Exit.inBlock, Exit.then]
      refine bodyPost_ret (results_cell4 (p := 4) (ty := 23) rfl _ _ rx 23 #[.int .i64 p1, .int .i64 p2, .int .i64 p3, .int .i64 p4] (0, 0) _ rfl (HST.out _ _ _ _).1 Try.underlying23 rfl Try.infoSu) rfl ?_
      exact ⟨rfl, HEND.out _ _ _ _⟩
    · by_cases hg : q1 ≤ p1
      · have e := HO.out.2.2.2.1 rfl rfl hg
        simp only [Prod.mk.injEq] at e
        obtain ⟨rfl, rfl, rfl, rfl⟩ := e
        clear HO
        have hd : decide (q1 ≤ p1) = true := decide_eq_true hg
        go_wp2_with fail
        try simp only [Exit.inBlock, Exit.then]
        refine bodyPost_ret (results_cell4 (p := 4) (ty := 23) rfl _ _ rx 23 #[.int .i64 p1, .int .i64 p2, .int .i64 p3, .int .i64 p4] (0, 0) _ rfl (HST.out _ _ _ _).1 Try.underlying23 rfl Try.infoSu) rfl ?_
        exact ⟨rfl, HEND.out _ _ _ _⟩
      · have e := HO.out.2.2.2.2 rfl rfl (by omega)
        simp only [Prod.mk.injEq] at e
        obtain ⟨rfl, rfl, rfl, rfl⟩ := e
        clear HO
        have hd : decide (q1 ≤ p1) = false := decide_eq_false hg
        go_wp2_with fail
        try simp only [Exit.inBlock, Exit.then]
        refine bodyPost_ret (results_cell4 (p := 4) (ty := 23) rfl _ _ rx 23 #[.int .i64 q1, .int .i64 q2, .int .i64 q3, .int .i64 q4] (0, 0) _ rfl (HST.out _ _ _ _).1 Try.underlying23 rfl Try.infoSu) rfl ?_
        exact ⟨rfl, HEND.out _ _ _ _⟩

end Go.Proofs.Ytdcnbakmmkbodaa

/- The example of layer 14. -/
namespace Go.Proofs.Ytdcnbakmmkbodaa
set_option linter.unusedVariables false
set_option linter.unusedSimpArgs false
open Go.RowKit Dg Cr

/-- Each row of cells stays, with its mark. -/
def Firm (w w' : World) : Prop := ∀ (b : Nat) (c : Array Value) (t : TypeId) (z : Nat × Nat), w.heap[b]? = some (.cells c t z) → w'.heap[b]? = some (.cells c t z)
theorem Firm.refl (w : World) : Firm w w := fun b c t z h => h
theorem Firm.stay {w w' : World} (h : Firm w w') : Stay w w' := fun b c t z e => ⟨z, h b c t z e⟩
theorem Firm.of_below {w w' : World} (h : Below w.heap.size w w') : Firm w w' := fun b c t z e => (h.block b (Array.getElem?_eq_some_iff.1 e).1).trans e
theorem Firm.alloc (w : World) (o : Obj) : Firm w (w.alloc o) := Firm.of_below ((Below.refl _ _).alloc (Nat.le_refl _) o)
def WkR (B : Nat) : Nat → Value → World → Prop
  | 0, v, w => RowV w 128 (List.replicate 128 0) v
  | 1, v, w => RowV w 128 (List.replicate 128 0) v
  | 2, v, w => v = .tuple #[.agg #[.int .i64 0, .int .i64 0, .int .i64 0, .int .i64 0], .int .i64 0, .int .i64 0, .bool false]
  | 3, v, w => v = .tuple #[.agg #[.int .i64 0, .int .i64 0, .int .i64 0, .int .i64 0], .int .i64 0, .int .i64 0, .bool false]
  | 4, v, w => v = .agg #[.int .i64 0, .int .i64 0, .int .i64 0, .int .i64 0]
  | 5, v, w => v = .int .i64 0
  | 6, v, w => v = .int .i64 0
  | 7, v, w => v = .bool false
  | 8, v, w => ∃ g, v = .pointer (some ⟨g, 0, none⟩) ∧ w.heap[g]? = some (.cells #[.int .i64 0, .int .i64 0, .int .i64 0, .int .i64 0] 23 (0, 0)) ∧ B ≤ g
  | 9, v, w => True
  | 10, v, w => v = .int .i64 0
  | 11, v, w => v = .int .i64 0
  | 12, v, w => v = .bool false
  | _, _, _ => True
theorem WkR.firm {B : Nat} : ∀ (i : Nat) (v : Value) (w w' : World), WkR B i v w → Firm w w' → WkR B i v w'
  | 0, v, w, w', h, k => RowV.stay k.stay h
  | 1, v, w, w', h, k => RowV.stay k.stay h
  | 2, v, w, w', h, k => h
  | 3, v, w, w', h, k => h
  | 4, v, w, w', h, k => h
  | 5, v, w, w', h, k => h
  | 6, v, w, w', h, k => h
  | 7, v, w, w', h, k => h
  | 8, v, w, w', h, k => by
    obtain ⟨g, e1, e2, e3⟩ := h
    exact ⟨g, e1, k g _ _ _ e2, e3⟩
  | 9, v, w, w', h, k => h
  | 10, v, w, w', h, k => h
  | 11, v, w, w', h, k => h
  | 12, v, w, w', h, k => h
  | n + 13, v, w, w', h, k => trivial
def WkA : (Nat → Value) → Act := fun vs => { tmps := #[.bool false, vs 8, vs 10, vs 11, vs 12, vs 3, vs 0, vs 1, vs 2, vs 4, vs 5, vs 6, vs 7, undef, undef, undef, undef, undef, undef, undef, undef], defers := [] }
set_option maxRecDepth 100000 in
set_option maxHeartbeats 8000000 in
theorem wakes14_any {Ok : World → Prop} (S : Sup Ok) (CH : SuChoose Ok) (w : World) (hok : Ok w) :
    Calls Try.prog 13 #[] w fun e w' => e = .returned (.bool true) ∧ Below w.heap.size w w' := by
  obtain ⟨i0, hi, hz0, hz1, hz2⟩ := info_parts Try.info5
  obtain ⟨Z, hZ⟩ : ∃ Z, Z = madeCells (Value.int .u8 0).cells (128 * i0.size) := ⟨_, rfl⟩
  have hmk : ∀ W : World, (Instr.makeSlice 26 (.int .i64 128) (.int .i64 128)).run Try.prog W = .ok (.slice (some ⟨W.heap.size, 0, none⟩) 128 128) (W.alloc (.cells Z 5)) := by
    intro W
    have h := run_make (P := Try.prog) W 26 5 i0 (.int .u8 0) Try.underlying26 hi hz0 .i64 .i64 128 128 (by omega) (by omega) (by rw [hz2]; omega) (by omega)
    rw [hZ]
    exact h
  have hZl : Z.toList = u8s (List.replicate 128 0) := by rw [hZ, hz1]; exact madeU 128
  have HZB : Hid (∀ W : World, Bs (W.alloc (.cells Z 5)) (some ⟨W.heap.size, 0, none⟩) 128 (List.replicate 128 0)) := fun W => by
    have e := own_new W W.heap.size Z 128 (List.replicate 128 0) hZl (by simp) (by decide) (Nat.le_refl _)
    exact Bs.ofo e
  obtain ⟨B, hB⟩ : ∃ B, B = w.heap.size := ⟨_, rfl⟩
  have HBS := hid_of hB
  have hko : ∀ W, Below B w W → Ok W := fun W hW => S.okK hok (by rw [hB] at hW; exact ⟨hW.os, hW.tape, hW.output, hW.size, fun k hk _ => hW.block k hk⟩)
  have HCH : Hid (∀ (W : World) (a1 : Option Addr) (c1 : Nat) (a2 : Option Addr) (c2 : Nat), Below B w W → Bs W a1 c1 (List.replicate 128 0) → Bs W a2 c2 (List.replicate 128 0) → Calls Try.prog 12 #[.slice a1 128 c1, .slice a2 128 c2] W fun e w' => e = .returned (.tuple #[.agg #[.int .i64 0, .int .i64 0, .int .i64 0, .int .i64 0], .int .i64 0, .int .i64 0, .bool false]) ∧ Below W.heap.size W w') := fun W a1 c1 a2 c2 hW h1 h2 => by
    have hz256 : ∀ x ∈ List.replicate 128 0, x < 256 := fun x hx => by have := List.eq_of_mem_replicate hx; omega
    have e := CH W a1 128 c1 _ a2 128 c2 _ (hko W hW) h1 (by simp) (by decide) hz256 h2 (by simp) (by decide) hz256
    rw [zero_choose] at e
    exact e
  have HPK : Hid (∀ W : World, Below B w W → Calls Try.prog 10 #[.agg #[.int .i64 1, .int .i64 1, .int .i64 0, .int .i64 0], .int .i64 4] W fun e w' => ∃ g k, e = .returned (.slice (some ⟨g, 0, none⟩) 128 k) ∧ Below W.heap.size W w') := fun W hW =>
    (S.packB W ⟨1, 1, 0, 0⟩ 4 (hko W hW) ⟨⟨by decide, by decide⟩, ⟨by decide, by decide⟩, ⟨by decide, by decide⟩, ⟨by decide, by decide⟩⟩ ⟨by decide, by decide⟩).mono fun e w' ⟨g, k, e1, e2, e3⟩ => ⟨g, k, e1, e3⟩
  have HB0 : Hid (Below B w w.drew) := (Below.refl _ _).drew
  clear hZ hZl hko hok
  go_enter Try.func13, Try.ntmps13
  go_upto_region 1 with fail
  clear hB
  refine wp_region_each WkA (fun _ => undef) (WkR B) Firm (fun W => Below B w W) (by kernel_rfl) rfl (by kernel_rfl) HB0.out WkR.firm ?_ ?_
  · refine ⟨?_, ?_, ?_, ?_, ?_, ?_, ?_, ?_, ?_, ?_, ?_, ?_, ?_, trivial⟩
    · -- 0
      intro vs w2 hS hd
      have hBw : B ≤ w2.heap.size := by have := hS.size; have := HBS.out; omega
      unfold WkA
      go_wp2_with fail
      exact ⟨rfl, _, rfl, ⟨_, 128, rfl, HZB.out w2⟩, Firm.alloc _ _, hS.alloc hBw _⟩
    · -- 1
      intro vs w2 hS hd
      have hBw : B ≤ w2.heap.size := by have := hS.size; have := HBS.out; omega
      unfold WkA
      go_wp2_with fail
      exact ⟨rfl, _, rfl, ⟨_, 128, rfl, HZB.out w2⟩, Firm.alloc _ _, hS.alloc hBw _⟩
    · -- 2
      intro vs w2 hS hd
      obtain ⟨a1, c1, e0, b1⟩ := hd.1 rfl
      obtain ⟨a2, c2, e1, b2⟩ := hd.2.1 rfl
      simp only [] at e0 e1
      have hBw : B ≤ w2.heap.size := by have := hS.size; have := HBS.out; omega
      have HC := hid_of (HCH.out w2 a1 c1 a2 c2 hS b1 b2)
      clear b1 b2
      unfold WkA
      go_wp2_with fail
      refine HC.out.mono ?_
      rintro e w3 ⟨rfl, hb⟩
      go_wp2_with fail
      exact ⟨rfl, _, (by simp [upd, e0, e1]), rfl, Firm.of_below hb, hS.trans (hb.mono hBw)⟩
    · -- 3
      intro vs w2 hS hd
      have e0 : vs 2 = _ := hd.1 rfl
      unfold WkA
      go_wp2_with fail
      exact ⟨rfl, _, (by simp [upd, e0]), rfl, Firm.refl _, hS⟩
    · -- 4
      intro vs w2 hS hd
      have e0 : vs 3 = _ := hd.1 rfl
      unfold WkA
      go_wp2_with fail
      exact ⟨rfl, _, (by simp [upd, e0]), rfl, Firm.refl _, hS⟩
    · -- 5
      intro vs w2 hS hd
      have e0 : vs 3 = _ := hd.1 rfl
      unfold WkA
      go_wp2_with fail
      exact ⟨rfl, _, (by simp [upd, e0]), rfl, Firm.refl _, hS⟩
    · -- 6
      intro vs w2 hS hd
      have e0 : vs 3 = _ := hd.1 rfl
      unfold WkA
      go_wp2_with fail
      exact ⟨rfl, _, (by simp [upd, e0]), rfl, Firm.refl _, hS⟩
    · -- 7
      intro vs w2 hS hd
      have e0 : vs 3 = _ := hd.1 rfl
      unfold WkA
      go_wp2_with fail
      exact ⟨rfl, _, (by simp [upd, e0]), rfl, Firm.refl _, hS⟩
    · -- 8
      intro vs w2 hS hd
      have hBw : B ≤ w2.heap.size := by have := hS.size; have := HBS.out; omega
      unfold WkA
      go_wp2_with fail
      exact ⟨rfl, _, rfl, ⟨w2.heap.size, rfl, heap_alloc_new w2 _, hBw⟩, Firm.alloc _ _, hS.alloc hBw _⟩
    · -- 9
      intro vs w2 hS hd
      have h8 : WkR B 8 (vs 8) w2 := by first | exact hd.1 rfl | exact hd.2.1 rfl | exact hd.2.2.1 rfl | exact hd.2.2.2.1 rfl | exact hd.2.2.2.2.1 rfl
      have e4 : WkR B 4 (vs 4) w2 := by first | exact hd.1 rfl | exact hd.2.1 rfl | exact hd.2.2.1 rfl | exact hd.2.2.2.1 rfl | exact hd.2.2.2.2.1 rfl
      change vs 4 = _ at e4
      obtain ⟨g, e8, hg, hgB⟩ := h8
      obtain ⟨⟨z0, z1, z2, z3⟩, mf, f1, f2, f3, HST⟩ := box4 hg
      unfold WkA
      go_wp2_with fail
      have hq := HST.out (.int .i64 0) (.int .i64 0) (.int .i64 0) (.int .i64 0)
      refine ⟨rfl, undef, (by simp [upd, e8, e4]), trivial, fun b c t z e => ?_, hq.2.below_of hS (fun k e => by subst e; exact hgB) (by have := hS.size; have := HBS.out; omega)⟩
      by_cases hb : b = g
      · subst hb
        rw [hg] at e
        rw [hq.1]
        exact e
      · rw [hq.2.block b (Array.getElem?_eq_some_iff.1 e).1 hb]
        exact e
    · -- 10
      intro vs w2 hS hd
      have e0 : WkR B 5 (vs 5) w2 := by first | exact hd.1 rfl | exact hd.2.1 rfl | exact hd.2.2.1 rfl | exact hd.2.2.2.1 rfl | exact hd.2.2.2.2.1 rfl
      change vs 5 = _ at e0
      unfold WkA
      go_wp2_with fail
      exact ⟨rfl, _, (by simp [upd, e0]), rfl, Firm.refl _, hS⟩
    · -- 11
      intro vs w2 hS hd
      have e0 : WkR B 6 (vs 6) w2 := by first | exact hd.1 rfl | exact hd.2.1 rfl | exact hd.2.2.1 rfl | exact hd.2.2.2.1 rfl | exact hd.2.2.2.2.1 rfl
      change vs 6 = _ at e0
      unfold WkA
      go_wp2_with fail
      exact ⟨rfl, _, (by simp [upd, e0]), rfl, Firm.refl _, hS⟩
    · -- 12
      intro vs w2 hS hd
      have e0 : WkR B 7 (vs 7) w2 := by first | exact hd.1 rfl | exact hd.2.1 rfl | exact hd.2.2.1 rfl | exact hd.2.2.2.1 rfl | exact hd.2.2.2.2.1 rfl
      change vs 7 = _ at e0
      unfold WkA
      go_wp2_with fail
      exact ⟨rfl, _, (by simp [upd, e0]), rfl, Firm.refl _, hS⟩
  · intro vs w2 hS hR
    have e4 : vs 12 = .bool false := hR 12 (by decide)
    have HP := hid_of (HPK.out w2 hS)
    have HBE := hid_of hS
    have HSZ : Hid (B ≤ w2.heap.size) := by show _ ≤ _; have := hS.size; have := HBS.out; omega
    clear hR hS
    unfold WkA
    simp only [e4]
    clear e4
    go_wp2_with fail
    refine HP.out.mono ?_
    rintro e w3 ⟨g, k, rfl, hb⟩
    go_wp2_with fail
    go_ret
    refine ⟨rfl, ?_⟩
    have e := HBE.out.trans (hb.mono HSZ.out)
    rw [HBS.out] at e
    exact e

end Go.Proofs.Ytdcnbakmmkbodaa

/- Superblocks compared; variables that hold them. -/
namespace Go.Proofs.Ytdcnbakmmkbodaa
set_option linter.unusedVariables false
set_option linter.unusedSimpArgs false
open Go.RowKit Dg Cr

theorem su_equal (a b c d x y z t : Int) (w : World) : (Op.equalIn 10000 23 (.agg #[.int .i64 a, .int .i64 b, .int .i64 c, .int .i64 d]) (.agg #[.int .i64 x, .int .i64 y, .int .i64 z, .int .i64 t])).run Try.prog w = .ok (a == x && (b == y && (c == z && d == t))) w := by
  have u3 := Try.underlying3
  have a3 := Try.isAgg3
  have z3 := Try.sizeOf3
  rw [show (10000 : Nat) = 9999 + 1 from rfl, run_equalIn_agg w 9999 23 _ _ (by kernel_rfl) (by kernel_rfl)]
  simp only [Program.fieldsOf, Try.underlying23]
  go_simp
  by_cases h1 : a = x <;> by_cases h2 : b = y <;> by_cases h3 : c = z <;> by_cases h4 : d = t <;> simp [h1, h2, h3, h4]

end Go.Proofs.Ytdcnbakmmkbodaa

/- A superblock that came in by value. -/
namespace Go.Proofs.Ytdcnbakmmkbodaa
set_option linter.unusedVariables false
set_option linter.unusedSimpArgs false
open Go.ChangeShapes Go.WideShapes Go.ChangeAt Go.RowKit Go.Deep

theorem Try.cellsSu : Try.prog.cellsOf 23 = 4 := by kernel_rfl
theorem Try.cellsSu3 : Try.prog.cellsOf 3 = 1 := by kernel_rfl
set_option maxRecDepth 100000 in
theorem open_su {H : Type} {enc : TypeId × Value → H} {W : World} {base : Nat} {v : Value} {d : DataW H} {p : List MemPlace}
    (hv : Value.okWide Try.prog W .any base 23 v) (h : DataW.Trod enc Try.prog W 0 (fun _ => true) true 23 v d p) : ∃ s : Su, v = suV s ∧ Su64 s := by
  obtain ⟨cs, rfl⟩ : ∃ cs, v = .agg cs := by
    unfold Value.okWide at hv
    rw [Try.underlying23] at hv
    obtain ⟨cs, e, -⟩ := hv
    exact ⟨cs, e⟩
  obtain ⟨fuel, hf⟩ := h
  obtain ⟨xs, n, _, _, hl, hxl, hff⟩ := DataW.trod_struct Try.underlying23 hf
  rw [Try.cellsSu] at hl
  have hl4 : cs.toList.length = 4 := hl
  obtain ⟨y0, y1, y2, y3, hy⟩ : ∃ y0 y1 y2 y3, cs.toList = [y0, y1, y2, y3] := by
    match h : cs.toList, hl4 with
    | [a, b, c, d], _ => exact ⟨a, b, c, d, rfl⟩
  have hcs : cs = #[y0, y1, y2, y3] := by rw [← Array.toArray_toList (xs := cs), hy]
  subst hcs
  have g0 : DataW.trod enc Try.prog W 0 (fun _ => true) true n 3 (List.take (Try.prog.cellsOf 3) (List.drop 0 [y0, y1, y2, y3])) = xs[0]? := hff 0 _ rfl
  have g1 : DataW.trod enc Try.prog W 0 (fun _ => true) true n 3 (List.take (Try.prog.cellsOf 3) (List.drop 1 [y0, y1, y2, y3])) = xs[1]? := hff 1 _ rfl
  have g2 : DataW.trod enc Try.prog W 0 (fun _ => true) true n 3 (List.take (Try.prog.cellsOf 3) (List.drop 2 [y0, y1, y2, y3])) = xs[2]? := hff 2 _ rfl
  have g3 : DataW.trod enc Try.prog W 0 (fun _ => true) true n 3 (List.take (Try.prog.cellsOf 3) (List.drop 3 [y0, y1, y2, y3])) = xs[3]? := hff 3 _ rfl
  have hx4 : xs.length = 4 := hxl
  match xs, hx4 with
  | [z0, z1, z2, z3], _ =>
    simp only [List.getElem?_cons_zero, List.getElem?_cons_succ] at g0 g1 g2 g3
    rw [Try.cellsSu3] at g0 g1 g2 g3
    obtain ⟨n0, e0, _, w0⟩ := DataW.trod_int Try.underlying3 g0
    obtain ⟨n1, e1, _, w1⟩ := DataW.trod_int Try.underlying3 g1
    obtain ⟨n2, e2, _, w2⟩ := DataW.trod_int Try.underlying3 g2
    obtain ⟨n3, e3, _, w3⟩ := DataW.trod_int Try.underlying3 g3
    simp at e0 e1 e2 e3
    subst e0 e1 e2 e3
    exact ⟨⟨n0, n1, n2, n3⟩, rfl, ⟨wf_i64 w0, wf_i64 w1, wf_i64 w2, wf_i64 w3⟩⟩

end Go.Proofs.Ytdcnbakmmkbodaa

/- SuperChooses: the walk of the law, over the bundle. -/
namespace Go.Proofs.Ytdcnbakmmkbodaa
set_option linter.unusedVariables false
set_option linter.unusedSimpArgs false
open Go.RowKit Dg Cr

/-- A row of bytes that may be handed on. -/
def RowG (w : World) (v : Value) (l : List Nat) : Prop := ∃ a c, v = .slice a l.length c ∧ Bs w a c l ∧ l.length ≤ 100000 ∧ ∀ x ∈ l, x < 256
theorem RowG.below {w w' : World} {v : Value} {l : List Nat} (h : RowG w v l) (hb : Below w.heap.size w w') : RowG w' v l := by
  obtain ⟨a, c, e, hB, h1, h2⟩ := h
  exact ⟨a, c, e, hB.below hb, h1, h2⟩
/-- Two answers that are one, beside each other. -/
theorem smallSu64 (s : Su) : Su64 (smallSu s) := by
  obtain ⟨h1, h2, h3, h4⟩ := smallSu_in s
  exact ⟨⟨by omega, by omega⟩, ⟨by omega, by omega⟩, ⟨by omega, by omega⟩, ⟨by omega, by omega⟩⟩
theorem cells_box (w : World) (c0 c1 c2 c3 : Value) (t : TypeId) : (w.alloc (.cells #[c0, c1, c2, c3] t)).heap[w.heap.size]? = some (.cells #[c0, c1, c2, c3] t (0, 0)) := heap_alloc_new w _

set_option maxRecDepth 100000 in
set_option maxHeartbeats 8000000 in
theorem suchs_any {Ok : World → Prop} (S : Sup Ok) (CH : SuChoose Ok) (W : World) (hok : Ok W) (s t : Su) (n0 m0 h0 : Int) (a : Option Addr) (len cap : Nat) (zs : List Int) (hs : Su64 s) (ht : Su64 t) (hn : I64 n0) (hm : I64 m0) (hh : I64 h0) (hr : IsRow .u8 W a len cap zs) :
    Calls Try.prog 5 #[suV s, suV t, .int .i64 n0, .int .i64 m0, .int .i64 h0, .slice a len cap] W fun e W' => e = .returned (.bool true) ∧ Below W.heap.size W W' := by
  obtain ⟨lb, hlb, hb256, hbB, hbc, hbm, hb0⟩ := Bs.of_row (n := 140) hr
  obtain ⟨k, hk⟩ : ∃ k : Nat, (k : Int) = h0 % 5 := ⟨(h0 % 5).toNat, by omega⟩
  obtain ⟨p, hp⟩ : ∃ p : Nat, (p : Int) = n0 % 9 := ⟨(n0 % 9).toNat, by omega⟩
  obtain ⟨q, hq⟩ : ∃ q : Nat, (q : Int) = m0 % 9 := ⟨(m0 % 9).toNat, by omega⟩
  have hk5 : k ≤ 4 := by omega
  have hp9 : p ≤ 8 := by omega
  have hq9 : q ≤ 8 := by omega
  have HWN : Hid (∀ w, Calls Try.prog 9 #[.int .i64 n0, .int .i64 9] w fun e w' => e = .returned (.int .i64 (p : Int)) ∧ w = w') := fun w => by rw [hp]; exact within_any n0 9 w hn.1 hn.2 (by decide) (by decide)
  have HWM : Hid (∀ w, Calls Try.prog 9 #[.int .i64 m0, .int .i64 9] w fun e w' => e = .returned (.int .i64 (q : Int)) ∧ w = w') := fun w => by rw [hq]; exact within_any m0 9 w hm.1 hm.2 (by decide) (by decide)
  have HWH : Hid (∀ w, Calls Try.prog 9 #[.int .i64 h0, .int .i64 5] w fun e w' => e = .returned (.int .i64 (k : Int)) ∧ w = w') := fun w => by rw [hk]; exact within_any h0 5 w hh.1 hh.2 (by decide) (by decide)
  have HSM : Hid (∀ w, Calls Try.prog 8 #[suV s] w fun e w' => e = .returned (suV (smallSu s)) ∧ Below w.heap.size w w') := fun w => small_any w s hs
  have HTM : Hid (∀ w, Calls Try.prog 8 #[suV t] w fun e w' => e = .returned (suV (smallSu t)) ∧ Below w.heap.size w w') := fun w => small_any w t ht
  have HPS : Hid (∀ w, Calls Try.prog 14 #[suV (smallSu s), .int .i64 (1 + (p : Int))] w fun e w' => ∃ g c, e = .returned (.slice (some ⟨g, 0, none⟩) 128 c) ∧ RowG w' (.slice (some ⟨g, 0, none⟩) 128 c) (packSu (smallSu s) (1 + (p : Int))) ∧ Below w.heap.size w w') := fun w => by
    have h64 := smallSu64 s
    refine (rpacksu_any w (smallSu s) (1 + (p : Int)) h64.g h64.l h64.d h64.r ⟨by omega, by omega⟩).mono ?_
    rintro e w' ⟨g, c, rfl, ho, hb⟩
    exact ⟨g, c, rfl, ⟨_, _, by rw [length_packSu], Bs.ofo ho, by rw [length_packSu]; decide, packSu_lt _ _⟩, hb⟩
  have HPT : Hid (∀ w, Calls Try.prog 14 #[suV (smallSu t), .int .i64 (1 + (q : Int))] w fun e w' => ∃ g c, e = .returned (.slice (some ⟨g, 0, none⟩) 128 c) ∧ RowG w' (.slice (some ⟨g, 0, none⟩) 128 c) (packSu (smallSu t) (1 + (q : Int))) ∧ Below w.heap.size w w') := fun w => by
    have h64 := smallSu64 t
    refine (rpacksu_any w (smallSu t) (1 + (q : Int)) h64.g h64.l h64.d h64.r ⟨by omega, by omega⟩).mono ?_
    rintro e w' ⟨g, c, rfl, ho, hb⟩
    exact ⟨g, c, rfl, ⟨_, _, by rw [length_packSu], Bs.ofo ho, by rw [length_packSu]; decide, packSu_lt _ _⟩, hb⟩
  have HCUT : Hid (∀ w, Below W.heap.size W w → Calls Try.prog 18 #[.slice a len cap, .int .i64 140] w fun e w' => e = .returned (.slice a lb.length cap) ∧ RowG w' (.slice a lb.length cap) lb ∧ w = w') := fun w hw => by
    rw [hlb]
    refine (cut_any w a len cap 140 (by decide) hbc hbm hb0).mono ?_
    rintro e w' ⟨rfl, rfl⟩
    exact ⟨rfl, ⟨a, cap, by rw [hlb], hbB.below hw, by omega, hb256⟩, rfl⟩
  have HOK : Hid (∀ w, Below W.heap.size W w → Ok w) := fun w hw => S.okK hok ⟨hw.os, hw.tape, hw.output, hw.size, fun k hk _ => hw.block k hk⟩
  have HWK : Hid (∀ w, Below W.heap.size W w → Calls Try.prog 13 #[] w fun e w' => e = .returned (.bool true) ∧ Below w.heap.size w w') := fun w hw => wakes14_any S CH w (HOK.out w hw)
  have HBO : Hid (∀ (w : World) (v1 v2 : Value) (l1 l2 : List Nat), Below W.heap.size W w → RowG w v1 l1 → RowG w v2 l2 → Calls Try.prog 12 #[v1, v2] w fun e w' => e = .returned (.tuple #[suV (chooseSu l1 l2).1, .int .i64 (chooseSu l1 l2).2.1, .int .i64 (chooseSu l1 l2).2.2.1, .bool (chooseSu l1 l2).2.2.2]) ∧ Below w.heap.size w w') := fun w v1 v2 l1 l2 hw ⟨a1, c1, e1, b1, n1, f1⟩ ⟨a2, c2, e2, b2, n2, f2⟩ => by
    subst e1 e2
    exact CH w a1 _ c1 l1 a2 _ c2 l2 (HOK.out w hw) b1 rfl n1 f1 b2 rfl n2 f2
  have HBR : Hid (∀ (w : World) (v1 v2 : Value) (l1 l2 : List Nat), RowG w v1 l1 → RowG w v2 l2 → Calls Try.prog 21 #[v1, v2] w fun e w' => e = .returned (.tuple #[suV (chooseSu l1 l2).1, .int .i64 (chooseSu l1 l2).2.1, .int .i64 (chooseSu l1 l2).2.2.1, .bool (chooseSu l1 l2).2.2.2]) ∧ Below w.heap.size w w') := fun w v1 v2 l1 l2 ⟨a1, c1, e1, b1, n1, f1⟩ ⟨a2, c2, e2, b2, n2, f2⟩ => by
    subst e1 e2
    exact rchoose_any w a1 _ c1 l1 a2 _ c2 l2 b1 rfl n1 f1 b2 rfl n2 f2
  obtain ⟨L1, hL1⟩ : ∃ L, L = packSu (smallSu s) (1 + (p : Int)) := ⟨_, rfl⟩
  obtain ⟨L2, hL2⟩ : ∃ L, L = packSu (smallSu t) (1 + (q : Int)) := ⟨_, rfl⟩
  rw [← hL1] at HPS
  rw [← hL2] at HPT
  obtain ⟨⟨y1, y2, y3, y4⟩, hy⟩ : ∃ y, y = smallSu s := ⟨_, rfl⟩
  obtain ⟨⟨x1, x2, x3, x4⟩, hx⟩ : ∃ y, y = smallSu t := ⟨_, rfl⟩
  rw [← hy] at HSM HPS
  rw [← hx] at HTM HPT
  obtain ⟨s1, s2, s3, s4⟩ := s
  obtain ⟨t1, t2, t3, t4⟩ := t
  clear hlb hb256 hbB hbc hbm hb0 hk hp hq hs ht hn hm hh hr hok hL1 hL2 hy hx
  have hwr1 : IntKind.i64.wrap (1 + (p : Int)) = 1 + (p : Int) := wrap_of (by omega) (by omega)
  have hwr2 : IntKind.i64.wrap (1 + (q : Int)) = 1 + (q : Int) := wrap_of (by omega) (by omega)
  unfold suV at HSM HTM HPS HPT ⊢
  simp only [] at HSM HTM HPS HPT ⊢
  obtain ⟨w0, hw0⟩ : ∃ w0, w0 = (W.alloc (.cells #[.int .i64 s1, .int .i64 s2, .int .i64 s3, .int .i64 s4] 23)).alloc (.cells #[.int .i64 t1, .int .i64 t2, .int .i64 t3, .int .i64 t4] 23) := ⟨_, rfl⟩
  go_enter Try.func5, Try.ntmps5
  go_upto_region 1 with fail
  obtain ⟨bx, hbx⟩ : ∃ bx, bx = W.heap.size := ⟨_, rfl⟩
  obtain ⟨tx, htx⟩ : ∃ tx, tx = W.heap.size + 1 := ⟨_, rfl⟩
  have hs1 : (W.alloc (.cells #[.int .i64 s1, .int .i64 s2, .int .i64 s3, .int .i64 s4] 23)).heap.size = W.heap.size + 1 := by simp
  have hb0 : Below W.heap.size W w0 := by rw [hw0]; exact ((Below.refl _ _).alloc (Nat.le_refl _) _).alloc (by simp) _
  have hbX : w0.heap[bx]? = some (.cells #[.int .i64 s1, .int .i64 s2, .int .i64 s3, .int .i64 s4] 23 (0, 0)) := by
    have e := heap_alloc_old (W.alloc (.cells #[.int .i64 s1, .int .i64 s2, .int .i64 s3, .int .i64 s4] 23)) (.cells #[.int .i64 t1, .int .i64 t2, .int .i64 t3, .int .i64 t4] 23) (r := W.heap.size) (by rw [hs1]; omega)
    rw [hw0, hbx, e]
    exact heap_alloc_new W _
  have htX : w0.heap[tx]? = some (.cells #[.int .i64 t1, .int .i64 t2, .int .i64 t3, .int .i64 t4] 23 (0, 0)) := by
    rw [hw0, htx, ← hs1]
    exact heap_alloc_new _ _
  have HCX : Hid (∀ w', Below w0.heap.size w0 w' → (w'.cell? ⟨bx, 0, none⟩ = some (.int .i64 s1) ∧ w'.cell? ⟨bx, 1, none⟩ = some (.int .i64 s2) ∧ w'.cell? ⟨bx, 2, none⟩ = some (.int .i64 s3) ∧ w'.cell? ⟨bx, 3, none⟩ = some (.int .i64 s4)) ∧ (w'.cell? ⟨tx, 0, none⟩ = some (.int .i64 t1) ∧ w'.cell? ⟨tx, 1, none⟩ = some (.int .i64 t2) ∧ w'.cell? ⟨tx, 2, none⟩ = some (.int .i64 t3) ∧ w'.cell? ⟨tx, 3, none⟩ = some (.int .i64 t4))) := fun w' hb =>
    ⟨(box4 ((hb.block bx (Array.getElem?_eq_some_iff.1 hbX).1).trans hbX)).1, (box4 ((hb.block tx (Array.getElem?_eq_some_iff.1 htX).1).trans htX)).1⟩
  have HB0 := hid_of hb0
  obtain ⟨⟨k0, k1, k2, k3⟩, -⟩ := HCX.out w0 (Below.refl _ _)
  rw [← hw0, ← htx, ← hbx]
  clear hw0 hbx htx hs1 hb0 hbX htX
  go_wp2_with fail
  refine (HSM.out _).mono ?_
  rintro e w1 ⟨rfl, hb1⟩
  have HB1 := hid_of hb1
  clear k0 k1 k2 k3 hb1
  go_wp2_with fail
  refine (HWN.out _).mono ?_
  rintro e w1' ⟨rfl, rfl⟩
  go_wp2_with fail
  refine (HPS.out _).mono ?_
  rintro e w2 ⟨g1, c1, rfl, hr1, hb2⟩
  have HB2 : Hid (Below w0.heap.size w0 w2) := HB1.out.trans (hb2.mono HB1.out.size)
  have HR1 := hid_of hr1
  obtain ⟨-, k0, k1, k2, k3⟩ := HCX.out w2 HB2.out
  clear hr1 hb2
  go_wp2_with fail
  refine (HTM.out _).mono ?_
  rintro e w3 ⟨rfl, hb3⟩
  have HB3 : Hid (Below w0.heap.size w0 w3) := HB2.out.trans (hb3.mono HB2.out.size)
  have HR2 : Hid (RowG w3 (.slice (some ⟨g1, 0, none⟩) 128 c1) L1) := HR1.out.below hb3
  clear k0 k1 k2 k3 hb3 HR1
  go_wp2_with fail
  refine (HWM.out _).mono ?_
  rintro e w3' ⟨rfl, rfl⟩
  go_wp2_with fail
  refine (HPT.out _).mono ?_
  rintro e w4 ⟨g2, c2, rfl, hr2, hb4⟩
  have HB4 : Hid (Below W.heap.size W w4) := HB0.out.trans ((HB3.out.trans (hb4.mono HB3.out.size)).mono HB0.out.size)
  have HR3 : Hid (RowG w4 (.slice (some ⟨g1, 0, none⟩) 128 c1) L1) := HR2.out.below hb4
  have HR4 := hid_of hr2
  clear hr2 hb4 HR2 HB1 HB2 HB3 HCX HB0 HPS HPT HSM HTM HWN HWM
  go_wp2_with fail
  refine (HWH.out _).mono ?_
  rintro e w4' ⟨rfl, rfl⟩
  have HTAIL : Hid (∀ (v1 v2 : Value) (l1 l2 : List Nat), RowG w4 v1 l1 → RowG w4 v2 l2 → ∃ u1 u2 u3 u4 uc us uo, Hid (Calls Try.prog 12 #[v1, v2] w4 fun e w' => e = .returned (.tuple #[.agg #[.int .i64 u1, .int .i64 u2, .int .i64 u3, .int .i64 u4], .int .i64 uc, .int .i64 us, .bool uo]) ∧ Below w4.heap.size w4 w') ∧ Hid (∀ w5, Below w4.heap.size w4 w5 → Calls Try.prog 21 #[v1, v2] w5 fun e w' => e = .returned (.tuple #[.agg #[.int .i64 u1, .int .i64 u2, .int .i64 u3, .int .i64 u4], .int .i64 uc, .int .i64 us, .bool uo]) ∧ Below w5.heap.size w5 w')) := fun v1 v2 l1 l2 h1 h2 => by
    have e1 := HBO.out w4 v1 v2 l1 l2 HB4.out h1 h2
    have e2 := fun w5 (hb : Below w4.heap.size w4 w5) => HBR.out w5 v1 v2 l1 l2 (h1.below hb) (h2.below hb)
    obtain ⟨⟨u1, u2, u3, u4⟩, uc, us, uo, hu⟩ : ∃ u uc us uo, chooseSu l1 l2 = (u, uc, us, uo) := ⟨_, _, _, _, rfl⟩
    rw [hu] at e1
    simp only [hu] at e2
    exact ⟨u1, u2, u3, u4, uc, us, uo, e1, e2⟩
  have kq := su_equal
  rcases (by omega : k = 1 ∨ k = 2 ∨ k = 3 ∨ (k ≠ 1 ∧ k ≠ 2 ∧ k ≠ 3)) with rfl | rfl | rfl | ⟨z1, z2, z3⟩
  go_wp2_with fail
  refine (HCUT.out _ HB4.out).mono ?_
  rintro e w5 ⟨rfl, hrc, rfl⟩
  obtain ⟨u1, u2, u3, u4, uc, us, uo, HD1, HD2⟩ := HTAIL.out _ _ _ _ hrc HR4.out
  clear hrc
  go_wp2_with fail
  refine HD1.out.mono ?_
  rotate_left
  go_wp2_with fail
  refine (HCUT.out _ HB4.out).mono ?_
  rintro e w5 ⟨rfl, hrc, rfl⟩
  obtain ⟨u1, u2, u3, u4, uc, us, uo, HD1, HD2⟩ := HTAIL.out _ _ _ _ HR3.out hrc
  clear hrc
  go_wp2_with fail
  refine HD1.out.mono ?_
  rotate_left
  obtain ⟨u1, u2, u3, u4, uc, us, uo, HD1, HD2⟩ := HTAIL.out _ _ _ _ HR3.out HR3.out
  go_wp2_with fail
  refine HD1.out.mono ?_
  rotate_left
  obtain ⟨u1, u2, u3, u4, uc, us, uo, HD1, HD2⟩ := HTAIL.out _ _ _ _ HR3.out HR4.out
  have y1' : ((k : Int) == 1) = false := beq_eq_false_iff_ne.2 (by omega)
  have y2' : ((k : Int) == 2) = false := beq_eq_false_iff_ne.2 (by omega)
  have y3' : ((k : Int) == 3) = false := beq_eq_false_iff_ne.2 (by omega)
  go_wp2_with fail
  refine HD1.out.mono ?_
  rotate_left
  all_goals
    rintro e w6 ⟨rfl, hb6⟩
    go_wp2_with fail
    obtain ⟨wA, hwA⟩ : ∃ wA, wA = w6.alloc (.cells #[.int .i64 u1, .int .i64 u2, .int .i64 u3, .int .i64 u4] 23) := ⟨_, rfl⟩
    obtain ⟨sx, hsx⟩ : ∃ sx, sx = w6.heap.size := ⟨_, rfl⟩
    have hbA : Below w4.heap.size w4 wA := by rw [hwA]; exact hb6.alloc hb6.size _
    have hsA : wA.heap[sx]? = some (.cells #[.int .i64 u1, .int .i64 u2, .int .i64 u3, .int .i64 u4] 23 (0, 0)) := by rw [hwA, hsx]; exact heap_alloc_new w6 _
    have HSA := hid_of hsA
    have HBA : Hid (Below W.heap.size W wA) := HB4.out.trans (hbA.mono HB4.out.size)
    have HC2 := hid_of (HD2.out wA hbA)
    rw [← hwA, ← hsx]
    clear hwA hsx hbA hsA hb6 HD1 HD2
    refine HC2.out.mono ?_
    rintro e w7 ⟨rfl, hb7⟩
    obtain ⟨wB, hwB⟩ : ∃ wB, wB = w7.alloc (.cells #[.int .i64 u1, .int .i64 u2, .int .i64 u3, .int .i64 u4] 23) := ⟨_, rfl⟩
    obtain ⟨tx2, htx⟩ : ∃ tx2, tx2 = w7.heap.size := ⟨_, rfl⟩
    have hbB : Below wA.heap.size wA wB := by rw [hwB]; exact hb7.alloc hb7.size _
    have htB : wB.heap[tx2]? = some (.cells #[.int .i64 u1, .int .i64 u2, .int .i64 u3, .int .i64 u4] 23 (0, 0)) := by rw [hwB, htx]; exact heap_alloc_new w7 _
    have hsB : wB.heap[sx]? = some (.cells #[.int .i64 u1, .int .i64 u2, .int .i64 u3, .int .i64 u4] 23 (0, 0)) := (hbB.block sx (Array.getElem?_eq_some_iff.1 HSA.out).1).trans HSA.out
    have HBB : Hid (Below W.heap.size W wB) := HBA.out.trans (hbB.mono HBA.out.size)
    have HWB := hid_of (HWK.out wB HBB.out)
    obtain ⟨⟨k0, k1, k2, k3⟩, -⟩ := box4 hsB
    obtain ⟨⟨j0, j1, j2, j3⟩, -⟩ := box4 htB
    go_upto_region 12 with fail
    rw [← hwB, ← htx]
    clear hwB htx hbB htB hsB hb7 HSA HBA HC2
    go_wp2_with fail
    refine HWB.out.mono ?_
    rintro e w8 ⟨rfl, hb8⟩
    have HB8 : Hid (Below W.heap.size W w8) := HBB.out.trans (hb8.mono HBB.out.size)
    clear hb8
    go_wp2_with fail
    go_ret
    exact ⟨rfl, HB8.out⟩

end Go.Proofs.Ytdcnbakmmkbodaa

/- Same of any two rows of bytes. -/
namespace Go.Proofs.Ytdcnbakmmkbodaa
set_option linter.unusedVariables false
set_option linter.unusedSimpArgs false
open Go.RowKit Dg

set_option maxHeartbeats 1000000 in
theorem sameB_short (w : World) (a1 a2 : Option Addr) (n1 n2 c1 c2 : Nat) (h : n1 ≠ n2) :
    Calls Try.prog 15 #[.slice a1 n1 c1, .slice a2 n2 c2] w fun e w' => e = .returned (.bool false) ∧ ∃ n, w' = w.drewN n := by
  have hb : ((n1 : Int) != (n2 : Int)) = true := by simp; omega
  go_enter Try.func15, Try.ntmps15
  go_wp2
  go_ret
  exact ⟨rfl, 0, rfl⟩
theorem sameB_all (w : World) (v1 v2 : Value) (l1 l2 : List Nat) (h1 : SlAt w v1 l1) (h2 : SlAt w v2 l2) (hl : l1.length ≤ 1000000) (t : Bool) (ht : t = decide (l1 = l2)) :
    Calls Try.prog 15 #[v1, v2] w fun e w' => e = .returned (.bool t) ∧ ∃ n, w' = w.drewN n := by
  by_cases e : l1 = l2
  · subst e
    rw [ht, decide_eq_true rfl]
    exact same_any w v1 v2 l1 h1 h2 (by omega)
  · rw [ht, decide_eq_false e]
    by_cases hlen : l2.length = l1.length
    · exact same_not w v1 v2 l1 l2 h1 h2 hlen hl e
    · obtain ⟨a1, c1, rfl, -⟩ := h1
      obtain ⟨a2, c2, rfl, -⟩ := h2
      exact sameB_short w a1 a2 _ _ c1 c2 (fun h => hlen h.symm)

end Go.Proofs.Ytdcnbakmmkbodaa
