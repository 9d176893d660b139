/- The texts SpRef3, SpRef4, SpRef5, SpCopy, one behind the other. -/
import Derived.Test.YthfeecgpgempdaaDoorPart09
import Derived.Deep.CutRange
import Derived.BigQuiet
import Derived.Test.YthfeecgpgempdaaDoorPart05

/- The document's space: New, Copy, Commit, Keep. -/
namespace Go.Proofs.YthfeecgpgempdaaDoor
set_option linter.unusedVariables false
set_option linter.unusedSimpArgs false
open Go.RowKit Dg

/-- A row of numbers that was just made. -/
theorem num_own_new (w : World) (base : Nat) (Z : Array Value) (N : Nat) (l : List Int) (hZ : Z.toList = i64s l) (hl : l.length = N) (hN : N ≤ 1000000) (hb : base ≤ w.heap.size) :
    (w.alloc (.cells Z 3)).ownsRow base 3 1 (.slice (some ⟨w.heap.size, 0, none⟩) N N) N (i64s l) := by
  have hs : Z.size = N := by have := congrArg List.length hZ; simpa [hl] using this
  refine ⟨by simp [hl], .inr ⟨w.heap.size, N, Z, rfl, hb, heap_alloc_new w _, Nat.le_refl _, by unfold maxLen; omega, by omega, ?_⟩⟩
  rw [hZ]; exact List.take_of_length_le (by simp [hl])
/-- Another row in the place of what waits, of the counts. -/
theorem RsIs.putV {w : World} {r gc gv cc cv : Nat} {s : Sd} (h : RsIs w r gc gv cc cv s) {base g c : Nat} {V : List Bool} (ho : w.ownsRow base 4 1 (.slice (some ⟨g, 0, none⟩) s.N c) s.N (bls V)) (h1 : g ≠ r) (h2 : g ≠ gc) :
    RsIs (w.setCell ⟨r, 3, none⟩ (.slice (some ⟨g, 0, none⟩) s.N c)) r gc g cc c { s with V := V } := by
  have hk : Kept (fun k => k = r) w (w.setCell ⟨r, 3, none⟩ (.slice (some ⟨g, 0, none⟩) s.N c)) := Kept.setCell _ _ _ rfl
  refine ⟨?_, ownsRow_other h.rowC hk (fun k e => by cases e; exact h.ne.1.symm), ownsRow_base (ownsRow_other ho hk (fun k e => by cases e; exact h1)) (Nat.zero_le _), ⟨h.ne.1, h1.symm, h2.symm⟩⟩
  rw [heap_setCell_of h.box]
  rfl
theorem RsIs.putC {w : World} {r gc gv cc cv : Nat} {s : Sd} (h : RsIs w r gc gv cc cv s) {base g c : Nat} {C : List Nat} (ho : w.ownsRow base 3 1 (.slice (some ⟨g, 0, none⟩) s.N c) s.N (i64s (kI C))) (h1 : g ≠ r) (h2 : g ≠ gv) :
    RsIs (w.setCell ⟨r, 2, none⟩ (.slice (some ⟨g, 0, none⟩) s.N c)) r g gv c cv { s with C := C } := by
  have hk : Kept (fun k => k = r) w (w.setCell ⟨r, 2, none⟩ (.slice (some ⟨g, 0, none⟩) s.N c)) := Kept.setCell _ _ _ rfl
  refine ⟨?_, ownsRow_base (ownsRow_other ho hk (fun k e => by cases e; exact h1)) (Nat.zero_le _), ownsRow_other h.rowV hk (fun k e => by cases e; exact h.ne.2.1.symm), ⟨h1.symm, h.ne.2.1, h2⟩⟩
  rw [heap_setCell_of h.box]
  rfl
theorem RsIs.froz {w : World} {r gc gv cc cv : Nat} {s : Sd} (h : RsIs w r gc gv cc cv s) (j : Nat) : w.frozen? ⟨r, j, none⟩ = false := by simp [World.frozen?, h.box]
/-- One that was just made, of two rows. -/
theorem rs_made {w : World} {gc gv cc cv : Nat} {s : Sd} {b1 b2 : Nat} (h1 : w.ownsRow b1 3 1 (.slice (some ⟨gc, 0, none⟩) s.N cc) s.N (i64s (kI s.C))) (h2 : w.ownsRow b2 4 1 (.slice (some ⟨gv, 0, none⟩) s.N cv) s.N (bls s.V)) (hne : gc ≠ gv) (hN : ¬ s.N = 0) :
    RsIs (w.alloc (.cells #[.int .i64 (s.N : Int), .int .i64 (s.fx : Int), .slice (some ⟨gc, 0, none⟩) s.N cc, .slice (some ⟨gv, 0, none⟩) s.N cv] 61)) w.heap.size gc gv cc cv s := by
  have a1 := (World.ownsRow.lt h1 gc rfl).2
  have a2 := (World.ownsRow.lt h2 gv rfl).2
  exact ⟨heap_alloc_new _ _, ownsRow_base (World.ownsRow.alloc h1 _) (Nat.zero_le _), ownsRow_base (World.ownsRow.alloc h2 _) (Nat.zero_le _), ⟨by omega, by omega, hne⟩⟩

theorem rs_two (w : World) (n f : Nat) (Z Y : Array Value) (hZ : Z.toList = i64s (kI (List.replicate n 0))) (hY : Y.toList = bls (List.replicate n false)) (h1 : 1 ≤ n) (h2 : n ≤ 4096) :
    RsIs (((w.alloc (.cells Z 3)).alloc (.cells Y 4)).alloc (.cells #[.int .i64 (n : Int), .int .i64 (f : Int), .slice (some ⟨w.heap.size, 0, none⟩) n n, .slice (some ⟨w.heap.size + 1, 0, none⟩) n n] 61)).drew (w.heap.size + 1 + 1) w.heap.size (w.heap.size + 1) n n (newSd n f) ∧
    RsIs (((w.alloc (.cells Y 4)).alloc (.cells Z 3)).alloc (.cells #[.int .i64 (n : Int), .int .i64 (f : Int), .slice (some ⟨w.heap.size + 1, 0, none⟩) n n, .slice (some ⟨w.heap.size, 0, none⟩) n n] 61)).drew (w.heap.size + 1 + 1) (w.heap.size + 1) w.heap.size n n (newSd n f) := by
  have hc : ∀ W : World, (W.alloc (.cells Z 3)).ownsRow 0 3 1 (.slice (some ⟨W.heap.size, 0, none⟩) n n) n (i64s (kI (newSd n f).C)) := fun W => num_own_new W 0 Z n _ hZ (by rw [length_kI]; exact List.length_replicate) (by omega) (Nat.zero_le _)
  have hv : ∀ W : World, (W.alloc (.cells Y 4)).ownsRow 0 4 1 (.slice (some ⟨W.heap.size, 0, none⟩) n n) n (bls (newSd n f).V) := fun W => bl_own_new W 0 Y n _ hY List.length_replicate (by omega) (Nat.zero_le _)
  constructor
  · have e := rs_made (s := newSd n f) (World.ownsRow.alloc (hc w) (.cells Y 4)) (hv (w.alloc (.cells Z 3))) (by simp) (show ¬ n = 0 by omega)
    have hsz : ∀ (W : World) (o : Obj), (W.alloc o).heap.size = W.heap.size + 1 := fun W o => by simp
    simp only [hsz] at e
    exact e.kept (X := fun _ => False) (Kept.refl _ _).drew (fun h => h) (fun h => h) (fun h => h)
  · have e := rs_made (s := newSd n f) (hc (w.alloc (.cells Y 4))) (World.ownsRow.alloc (hv w) (.cells Z 3)) (by simp) (show ¬ n = 0 by omega)
    have hsz : ∀ (W : World) (o : Obj), (W.alloc o).heap.size = W.heap.size + 1 := fun W o => by simp
    simp only [hsz] at e
    exact e.kept (X := fun _ => False) (Kept.refl _ _).drew (fun h => h) (fun h => h) (fun h => h)
set_option maxRecDepth 100000 in
set_option maxHeartbeats 4000000 in
theorem rsnew_any (w : World) (n f : Nat) (h1 : 1 ≤ n) (h2 : n ≤ 4096) (h3 : f ≤ n) :
    Calls Tryd.prog 22 #[.int .i64 (n : Int), .int .i64 (f : Int)] w fun e w' => ∃ r gc gv, e = .returned (.tuple #[.pointer (some ⟨r, 0, none⟩), .bool true]) ∧ RsIs w' r gc gv n n (newSd n f) ∧ w.heap.size ≤ r ∧ w.heap.size ≤ gc ∧ w.heap.size ≤ gv ∧ Below w.heap.size w w' := by
  obtain ⟨i0, hi, hz0, hz1, hz2⟩ := info_parts Tryd.info3
  obtain ⟨i1, hj, hy0, hy1, hy2⟩ := info_parts Tryd.infoBl
  obtain ⟨Z, hZ⟩ : ∃ Z, Z = madeCells (Value.int .i64 0).cells (n * i0.size) := ⟨_, rfl⟩
  obtain ⟨Y, hY⟩ : ∃ Y, Y = madeCells (Value.bool false).cells (n * i1.size) := ⟨_, rfl⟩
  have hmk : ∀ W : World, (Instr.makeSlice 30 (.int .i64 (n : Int)) (.int .i64 (n : Int))).run Tryd.prog W = .ok (.slice (some ⟨W.heap.size, 0, none⟩) n n) (W.alloc (.cells Z 3)) := by
    intro W
    have h := run_make (P := Tryd.prog) W 30 3 i0 (.int .i64 0) Tryd.underlying30 hi hz0 .i64 .i64 n n (by omega) (by omega) (by rw [hz2]; omega) (by omega)
    simp only [Int.toNat_natCast] at h
    rw [hZ]
    exact h
  have hmv : ∀ W : World, (Instr.makeSlice 59 (.int .i64 (n : Int)) (.int .i64 (n : Int))).run Tryd.prog W = .ok (.slice (some ⟨W.heap.size, 0, none⟩) n n) (W.alloc (.cells Y 4)) := by
    intro W
    have h := run_make (P := Tryd.prog) W 59 4 i1 (.bool false) Tryd.underlying59 hj hy0 .i64 .i64 n n (by omega) (by omega) (by rw [hy2]; omega) (by omega)
    simp only [Int.toNat_natCast] at h
    rw [hY]
    exact h
  have HZ : Hid (Z.toList = i64s (kI (List.replicate n 0))) := by show _ = _; rw [hZ, hz1, kI_nought]; exact madeI n
  have HY : Hid (Y.toList = bls (List.replicate n false)) := by show _ = _; rw [hY, hy1]; exact made_bls n
  have HN : Hid (1 ≤ n ∧ n ≤ 4096 ∧ f ≤ n) := ⟨h1, h2, h3⟩
  have hb1 : decide ((n : Int) < 1) = false := decide_eq_false (by omega)
  have hb2 : decide (4096 < (n : Int)) = false := decide_eq_false (by omega)
  have hb3 : decide ((f : Int) < 0) = false := decide_eq_false (by omega)
  have hb4 : decide ((n : Int) < (f : Int)) = false := decide_eq_false (by omega)
  have hb5 : decide (n < f) = false := decide_eq_false (by omega)
  have H2 := hid_of (rs_two w n f Z Y HZ.out HY.out h1 h2)
  have HB : Hid (∀ o1 o2 o3, Below w.heap.size w (((w.alloc o1).alloc o2).alloc o3).drew) := fun o1 o2 o3 =>
    ((((Below.refl w.heap.size w).alloc (Nat.le_refl _) o1).alloc (by simp) o2).alloc (by simp; omega) o3).drew
  clear hZ hY
  go_enter Tryd.func22, Tryd.ntmps22
  go_wp2_with fail
  go_region
  all_goals
    go_wp2_with fail
    go_ret2
  · exact ⟨_, _, _, rfl, H2.out.1, by omega, by omega, by omega, HB.out _ _ _⟩
  · exact ⟨_, _, _, rfl, H2.out.2, by omega, by omega, by omega, HB.out _ _ _⟩

end Go.Proofs.YthfeecgpgempdaaDoor

/- The document's space: Copy, Commit, Keep; all of them over its blocks. -/
namespace Go.Proofs.YthfeecgpgempdaaDoor
set_option linter.unusedVariables false
set_option linter.unusedSimpArgs false
open Go.RowKit Dg

set_option maxRecDepth 100000 in
set_option maxHeartbeats 4000000 in
theorem rsnew_no (w : World) (n f : Int) (hn : I64 n) (hf : I64 f) (h : n < 1 ∨ 4096 < n ∨ f < 0 ∨ n < f) :
    Calls Tryd.prog 22 #[.int .i64 n, .int .i64 f] w fun e w' => e = .returned (.tuple #[.pointer none, .bool false]) ∧ w = w' := by
  obtain ⟨hn1, hn2⟩ := hn
  obtain ⟨hf1, hf2⟩ := hf
  rcases (by omega : n < 1 ∨ (1 ≤ n ∧ 4096 < n) ∨ (1 ≤ n ∧ n ≤ 4096 ∧ f < 0) ∨ (1 ≤ n ∧ n ≤ 4096 ∧ 0 ≤ f ∧ n < f)) with h | ⟨h0, h⟩ | ⟨h0, h1, h⟩ | ⟨h0, h1, h2, h⟩
  · have hb1 : decide (n < 1) = true := decide_eq_true h
    go_enter Tryd.func22, Tryd.ntmps22
    go_wp2_with fail
    go_ret2
    exact ⟨rfl, rfl⟩
  · have hb1 : decide (n < 1) = false := decide_eq_false (by omega)
    have hb2 : decide (4096 < n) = true := decide_eq_true h
    go_enter Tryd.func22, Tryd.ntmps22
    go_wp2_with fail
    go_ret2
    exact ⟨rfl, rfl⟩
  · have hb1 : decide (n < 1) = false := decide_eq_false (by omega)
    have hb2 : decide (4096 < n) = false := decide_eq_false (by omega)
    have hb3 : decide (f < 0) = true := decide_eq_true h
    go_enter Tryd.func22, Tryd.ntmps22
    go_wp2_with fail
    go_ret2
    exact ⟨rfl, rfl⟩
  · have hb1 : decide (n < 1) = false := decide_eq_false (by omega)
    have hb2 : decide (4096 < n) = false := decide_eq_false (by omega)
    have hb3 : decide (f < 0) = false := decide_eq_false (by omega)
    have hb4 : decide (n < f) = true := decide_eq_true h
    go_enter Tryd.func22, Tryd.ntmps22
    go_wp2_with fail
    go_ret2
    exact ⟨rfl, rfl⟩
theorem one_nums (l : List Int) : ∀ u ∈ i64s l, u.oneCell' = true := by
  intro u hu
  obtain ⟨x, -, rfl⟩ := List.mem_map.1 hu
  rfl
theorem one_bls (m : List Bool) : ∀ u ∈ bls m, u.oneCell' = true := by
  intro u hu
  obtain ⟨x, -, rfl⟩ := List.mem_map.1 hu
  rfl
theorem RsIs.cellsC {w : World} {r gc gv cc cv : Nat} {s : Sd} (h : RsIs w r gc gv cc cv s) : ∀ j u, (i64s (kI s.C))[j]? = some u → w.cell? ((⟨gc, 0, none⟩ : Addr).add j) = some u := by
  intro j u hu
  rw [i64s_get] at hu
  obtain ⟨x, hx, rfl⟩ := Option.map_eq_some_iff.1 hu
  have hadd : (⟨gc, 0, none⟩ : Addr).add j = ⟨gc, j, none⟩ := by simp [Addr.add]; omega
  rw [hadd]
  exact (own_num h.rowC hx).1
theorem RsIs.cellsV {w : World} {r gc gv cc cv : Nat} {s : Sd} (h : RsIs w r gc gv cc cv s) : ∀ j u, (bls s.V)[j]? = some u → w.cell? ((⟨gv, 0, none⟩ : Addr).add j) = some u := by
  intro j u hu
  rw [bls_get] at hu
  obtain ⟨x, hx, rfl⟩ := Option.map_eq_some_iff.1 hu
  have hadd : (⟨gv, 0, none⟩ : Addr).add j = ⟨gv, j, none⟩ := by simp [Addr.add]; omega
  rw [hadd]
  exact (bl_own_cell h.rowV hx).1

end Go.Proofs.YthfeecgpgempdaaDoor

/- The document's space: Commit, Keep. -/
namespace Go.Proofs.YthfeecgpgempdaaDoor
set_option linter.unusedVariables false
set_option linter.unusedSimpArgs false
open Go.RowKit Dg

set_option maxRecDepth 100000 in
set_option maxHeartbeats 4000000 in
theorem rscommit_any (w : World) (r gc gv cc cv : Nat) (s : Sd) (h : RsIs w r gc gv cc cv s) (hf : s.Fine) (x : Nat) (hx : x = s.waits.length) (s2 : Sd) (hs : s2 = s.commitS) :
    Calls Tryd.prog 37 #[.pointer (some ⟨r, 0, none⟩)] w fun e w' => e = .returned (.int .i64 (x : Int)) ∧ (∃ g, RsIs w' r gc g cc s.N s2 ∧ w.heap.size ≤ g) ∧ Kept (fun k => k = r) w w' := by
  obtain ⟨i1, hj, hy0, hy1, hy2⟩ := info_parts Tryd.infoBl
  have HW := hid_of (rswait_any w r gc gv cc cv s h hf)
  obtain ⟨n, hn⟩ : ∃ n, n = s.N := ⟨_, rfl⟩
  have h1 : 1 ≤ n := by have := hf.pos; omega
  have h2 : n ≤ 4096 := by have := hf.le; omega
  obtain ⟨Y, hY⟩ : ∃ Y, Y = madeCells (Value.bool false).cells (n * i1.size) := ⟨_, rfl⟩
  have hmv : ∀ W : World, (Instr.makeSlice 59 (.int .i64 (n : Int)) (.int .i64 (n : Int))).run Tryd.prog W = .ok (.slice (some ⟨W.heap.size, 0, none⟩) n n) (W.alloc (.cells Y 4)) := by
    intro W
    have h := run_make (P := Tryd.prog) W 59 4 i1 (.bool false) Tryd.underlying59 hj hy0 .i64 .i64 n n (by omega) (by omega) (by rw [hy2]; omega) (by omega)
    simp only [Int.toNat_natCast] at h
    rw [hY]
    exact h
  have HY : Hid (Y.toList = bls (List.replicate n false)) := by show _ = _; rw [hY, hy1]; exact made_bls n
  have hxb : x ≤ 4096 := by rw [hx]; have := length_waitTo s.V s.N; have e : s.waits.length ≤ s.N := this; omega
  have HEND : Hid (∀ w1 : World, Below w.heap.size w w1 → RsIs ((w1.alloc (.cells Y 4)).setCell ⟨r, 3, none⟩ (.slice (some ⟨w1.heap.size, 0, none⟩) n n)) r gc w1.heap.size cc s.N s2 ∧ w1.cell? ⟨r, 0, none⟩ = some (.int .i64 (n : Int)) ∧ (w1.alloc (.cells Y 4)).cell? ⟨r, 3, none⟩ = some (.slice (some ⟨gv, 0, none⟩) n cv) ∧ (w1.alloc (.cells Y 4)).frozen? ⟨r, 3, none⟩ = false ∧ Kept (fun k => k = r) w ((w1.alloc (.cells Y 4)).setCell ⟨r, 3, none⟩ (.slice (some ⟨w1.heap.size, 0, none⟩) n n))) := fun w1 hb => by
    have e1 := h.newer hb
    have hbe : Below w1.heap.size w1 (w1.alloc (.cells Y 4)) := (Below.refl _ _).alloc (Nat.le_refl _) _
    have e2 := e1.newer hbe
    have hs1 := hb.size
    have hlt := h.lt
    have e3 := e2.putV (base := 0) (g := w1.heap.size) (c := n) (V := List.replicate n false) (by rw [← hn]; exact bl_own_new w1 0 Y n _ HY.out List.length_replicate (by omega) (Nat.zero_le _)) (by omega) (by omega)
    have c1 := e1.cell.1
    have c2 := e2.cell.2.2.2
    rw [← hn] at c1 c2
    rw [← hn] at e3
    refine ⟨?_, c1, c2, e2.froz 3, ?_⟩
    · rw [hs, ← hn]
      unfold Sd.commitS
      rw [← hn]
      exact e3
    · have k1 : Kept (fun k => k = r) w w1 := ⟨hb.os, hb.tape, hb.output, hb.size, fun k hk _ => hb.block k hk⟩
      exact (k1.trans (Kept.alloc _ _ _)).trans (Kept.setCell _ _ _ rfl)
  have HX := hid_of hx
  have HN := hid_of hn
  clear h hn hf hx hs hY
  go_enter Tryd.func37, Tryd.ntmps37
  go_wp2_with fail
  refine HW.out.mono ?_
  rintro e w1 ⟨v, rfl, ho, hb⟩
  obtain ⟨a, c, rfl, -, -⟩ := ho.slice
  obtain ⟨d1, d2, d3, d4, d5⟩ := HEND.out w1 hb
  have HD := hid_of d1
  have HK := hid_of d5
  have HSZ := hid_of hb.size
  rw [← HX.out]
  clear ho hb d1 d5 HEND HW
  go_wp2_with fail
  go_ret
  exact ⟨rfl, ⟨_, HD.out, HSZ.out⟩, HK.out⟩
theorem rs_fresh {w W : World} {r gc gv cc cv : Nat} {s : Sd} (h : RsIs w r gc gv cc cv s) (hb : Below w.heap.size w W) (hsz : W.heap.size = w.heap.size) (Z Y : Array Value) (N F : Nat) (hN : N = s.N) (hF : F = s.fx) (hZ : Z.toList = i64s (kI (List.replicate N 0))) (hY : Y.toList = bls (List.replicate N false)) (h2 : N ≤ 4096) :
    (RsIs ((((W.alloc (.cells Z 3)).setCell ⟨r, 2, none⟩ (.slice (some ⟨w.heap.size, 0, none⟩) N N)).setCell ⟨r, 3, none⟩ (.slice (some ⟨w.heap.size + 1, 0, none⟩) N N)).alloc (.cells Y 4)) r w.heap.size (w.heap.size + 1) N N (newSd N F) ∧
      Kept (fun k => k = r) w ((((W.alloc (.cells Z 3)).setCell ⟨r, 2, none⟩ (.slice (some ⟨w.heap.size, 0, none⟩) N N)).setCell ⟨r, 3, none⟩ (.slice (some ⟨w.heap.size + 1, 0, none⟩) N N)).alloc (.cells Y 4))) ∧
    (RsIs ((((W.alloc (.cells Y 4)).setCell ⟨r, 2, none⟩ (.slice (some ⟨w.heap.size + 1, 0, none⟩) N N)).setCell ⟨r, 3, none⟩ (.slice (some ⟨w.heap.size, 0, none⟩) N N)).alloc (.cells Z 3)) r (w.heap.size + 1) w.heap.size N N (newSd N F) ∧
      Kept (fun k => k = r) w ((((W.alloc (.cells Y 4)).setCell ⟨r, 2, none⟩ (.slice (some ⟨w.heap.size + 1, 0, none⟩) N N)).setCell ⟨r, 3, none⟩ (.slice (some ⟨w.heap.size, 0, none⟩) N N)).alloc (.cells Z 3))) := by
  subst hN hF
  have hal : ∀ (W : World) (o : Obj), (W.alloc o).heap.size = W.heap.size + 1 := fun W o => by simp
  have hst : ∀ (W : World) (a : Addr) (v : Value), (W.setCell a v).heap.size = W.heap.size := fun W a v => by simp [World.setCell]
  have hlt := h.lt
  have hk0 : Kept (fun k => k = r) w W := ⟨hb.os, hb.tape, hb.output, hb.size, fun k hk _ => hb.block k hk⟩
  have hbel : ∀ (o1 o2 : Obj), Below w.heap.size w ((W.alloc o1).alloc o2) := fun o1 o2 => (hb.alloc hb.size o1).alloc (by rw [hal]; omega) o2
  have hkk : ∀ (o1 o2 : Obj) (v2 v3 : Value), Kept (fun k => k = r) w ((((W.alloc o1).alloc o2).setCell ⟨r, 2, none⟩ v2).setCell ⟨r, 3, none⟩ v3) := fun o1 o2 v2 v3 => (((hk0.trans (Kept.alloc _ _ _)).trans (Kept.alloc _ _ _)).trans (Kept.setCell _ _ _ rfl)).trans (Kept.setCell _ _ _ rfl)
  have hsw : ∀ (o1 o2 : Obj) (v2 v3 : Value), (((W.alloc o1).setCell ⟨r, 2, none⟩ v2).setCell ⟨r, 3, none⟩ v3).alloc o2 = (((W.alloc o1).alloc o2).setCell ⟨r, 2, none⟩ v2).setCell ⟨r, 3, none⟩ v3 := fun o1 o2 v2 v3 => by
    rw [World.setCell_alloc_past (w := W.alloc o1) o2 r 2 v2 (by rw [hal]; omega), World.setCell_alloc_past o2 r 3 v3 (by rw [hst, hal]; omega)]
  have hc : ∀ U : World, (U.alloc (.cells Z 3)).ownsRow 0 3 1 (.slice (some ⟨U.heap.size, 0, none⟩) s.N s.N) s.N (i64s (kI (List.replicate s.N 0))) := fun U => num_own_new U 0 Z s.N _ hZ (by rw [length_kI]; exact List.length_replicate) (by omega) (Nat.zero_le _)
  have hv : ∀ U : World, (U.alloc (.cells Y 4)).ownsRow 0 4 1 (.slice (some ⟨U.heap.size, 0, none⟩) s.N s.N) s.N (bls (List.replicate s.N false)) := fun U => bl_own_new U 0 Y s.N _ hY List.length_replicate (by omega) (Nat.zero_le _)
  refine ⟨⟨?_, ?_⟩, ⟨?_, ?_⟩⟩
  · rw [hsw]
    have e1 := (h.newer (hbel (.cells Z 3) (.cells Y 4))).putC (World.ownsRow.alloc (hc W) (.cells Y 4)) (by omega) (by omega)
    have e2 := e1.putV (ownsRow_other (hv (W.alloc (.cells Z 3))) (Kept.setCell (F := fun k => k = r) _ ⟨r, 2, none⟩ _ rfl) (fun k e f => by cases e; have f2 : (W.alloc (.cells Z 3)).heap.size = r := f; rw [hal] at f2; omega)) (by rw [hal]; omega) (by rw [hal]; omega)
    rw [hal, hsz] at e2
    exact e2
  · rw [hsw]; exact hkk _ _ _ _
  · rw [hsw]
    have e1 := (h.newer (hbel (.cells Y 4) (.cells Z 3))).putC (hc (W.alloc (.cells Y 4))) (by rw [hal]; omega) (by rw [hal]; omega)
    have e2 := e1.putV (ownsRow_other (World.ownsRow.alloc (hv W) (.cells Z 3)) (Kept.setCell (F := fun k => k = r) _ ⟨r, 2, none⟩ _ rfl) (fun k e f => by cases e; have f2 : W.heap.size = r := f; omega)) (by omega) (by rw [hal]; omega)
    rw [hal, hsz] at e2
    exact e2
  · rw [hsw]; exact hkk _ _ _ _
set_option maxRecDepth 100000 in
set_option maxHeartbeats 8000000 in
theorem rskeep_any (w : World) (r gc gv cc cv : Nat) (s : Sd) (h : RsIs w r gc gv cc cv s) (hf : s.Fine) (a : Option Addr) (n cap : Nat) (l : List Int) (ha : IntsAt w a l) (hl : l.length = n) (hn : n ≤ 100000) (h64 : ∀ x ∈ l, I64 x) (hX : l ≠ [] → ∀ y, a = some y → y.block ≠ r) (R : Bool) (hR : R = s.keepOk l) (s2 : Sd) (hs : s2 = s.keepS l) :
    Calls Tryd.prog 39 #[.pointer (some ⟨r, 0, none⟩), .slice a n cap] w fun e w' => e = .returned (.bool R) ∧ (∃ gc2 gv2 cc2 cv2, RsIs w' r gc2 gv2 cc2 cv2 s2 ∧ (gc2 = gc ∨ w.heap.size ≤ gc2) ∧ (gv2 = gv ∨ w.heap.size ≤ gv2)) ∧ Kept (fun k => k = r) w w' := by
  obtain ⟨i0, hi, hz0, hz1, hz2⟩ := info_parts Tryd.info3
  obtain ⟨i1, hj, hy0, hy1, hy2⟩ := info_parts Tryd.infoBl
  have H := hid_of h
  have HI := hid_of ha
  have HL := hid_of hl
  have H6 := hid_of h64
  have HX := hid_of hX
  have HR := hid_of hR
  have HS := hid_of hs
  obtain ⟨N, hN⟩ : ∃ N, N = s.N := ⟨_, rfl⟩
  obtain ⟨F, hF⟩ : ∃ F, F = s.fx := ⟨_, rfl⟩
  have HN := hid_of hN
  have HF := hid_of hF
  have h1 : 1 ≤ N := by have := hf.pos; omega
  have h2 : N ≤ 4096 := by have := hf.le; omega
  have h3 : F ≤ N := by have := hf.fx; omega
  obtain ⟨Z, hZ⟩ : ∃ Z, Z = madeCells (Value.int .i64 0).cells (N * i0.size) := ⟨_, rfl⟩
  obtain ⟨Y, hY⟩ : ∃ Y, Y = madeCells (Value.bool false).cells (N * i1.size) := ⟨_, rfl⟩
  have hmk : ∀ W : World, (Instr.makeSlice 30 (.int .i64 (N : Int)) (.int .i64 (N : Int))).run Tryd.prog W = .ok (.slice (some ⟨W.heap.size, 0, none⟩) N N) (W.alloc (.cells Z 3)) := by
    intro W
    have h := run_make (P := Tryd.prog) W 30 3 i0 (.int .i64 0) Tryd.underlying30 hi hz0 .i64 .i64 N N (by omega) (by omega) (by rw [hz2]; omega) (by omega)
    simp only [Int.toNat_natCast] at h
    rw [hZ]
    exact h
  have hmv : ∀ W : World, (Instr.makeSlice 59 (.int .i64 (N : Int)) (.int .i64 (N : Int))).run Tryd.prog W = .ok (.slice (some ⟨W.heap.size, 0, none⟩) N N) (W.alloc (.cells Y 4)) := by
    intro W
    have h := run_make (P := Tryd.prog) W 59 4 i1 (.bool false) Tryd.underlying59 hj hy0 .i64 .i64 N N (by omega) (by omega) (by rw [hy2]; omega) (by omega)
    simp only [Int.toNat_natCast] at h
    rw [hY]
    exact h
  have HZ : Hid (Z.toList = i64s (kI (List.replicate N 0))) := by show _ = _; rw [hZ, hz1, kI_nought]; exact madeI N
  have HY : Hid (Y.toList = bls (List.replicate N false)) := by show _ = _; rw [hY, hy1]; exact made_bls N
  obtain ⟨c0, c1, c2, c3⟩ := h.cell
  rw [← hN] at c0 c2 c3
  rw [← hF] at c1
  have hrl : r < w.heap.size := h.lt.1
  have hf2 : w.frozen? ⟨r, 2, none⟩ = false := h.froz 2
  have hf3 : w.frozen? ⟨r, 3, none⟩ = false := h.froz 3
  clear h ha hl h64 hX hR hs hN hF hf hZ hY
  go_enter Tryd.func39, Tryd.ntmps39
  go_wp2_with fail
  go_loopw [9] (fun i wr => ∃ j m : Nat, j ≤ n ∧ i = .int .i64 (j : Int) ∧ Hid (∀ x ∈ l.take j, (F : Int) ≤ x ∧ x < (N : Int)) ∧ wr = w.drewN m) (fun i _ => n - (intOf i).toNat)
  case atStart => exact ⟨0, 0, Nat.zero_le _, rfl, (fun x hx => by simp at hx), rfl⟩
  case round =>
    obtain ⟨j, m, hj, rfl, HA, rfl⟩ := hrel
    by_cases hjn : j < n
    · obtain ⟨x, hx⟩ : ∃ x, l[j]? = some x := ⟨_, List.getElem?_eq_getElem (by have := HL.out; omega)⟩
      obtain ⟨ab, off, rfl, hc⟩ := HI.out j x hx
      have hm : x ∈ l := List.mem_of_getElem? hx
      obtain ⟨x1, x2⟩ := H6.out x hm
      have HT := hid_of (take_next l j x hx)
      have hno : ¬ ((F : Int) ≤ x ∧ x < (N : Int)) → Hid (R = false ∧ s2 = s) := fun hn => by
        have e : s.keepOk l = false := by
          cases e : s.keepOk l with
          | false => rfl
          | true =>
            have := Sd.keepOk_iff.1 e x hm
            have := HN.out; have := HF.out
            exact absurd ⟨by omega, by omega⟩ hn
        exact ⟨HR.out.trans e, by rw [HS.out]; unfold Sd.keepS; rw [e]; rfl⟩
      have HNO := hid_of hno
      have HMX := hid_of hm
      clear hx hm hno
      rcases (by omega : x < (F : Int) ∨ ((F : Int) ≤ x ∧ (N : Int) ≤ x) ∨ ((F : Int) ≤ x ∧ x < (N : Int))) with h5 | ⟨h5, h6⟩ | ⟨h5, h6⟩
      · have hb1 : decide (x < (F : Int)) = true := decide_eq_true h5
        obtain ⟨rfl, rfl⟩ := (HNO.out (by omega)).out
        go_wp2_with fail
        go_quiet (fail)
        go_wp2_with fail
        go_ret
        exact ⟨rfl, ⟨gc, gv, cc, cv, (H.out.draws m).draws _, .inl rfl, .inl rfl⟩, ⟨rfl, rfl, rfl, Nat.le_refl _, fun _ _ _ => rfl⟩⟩
      · have hb1 : decide (x < (F : Int)) = false := decide_eq_false (by omega)
        have hb2 : decide ((N : Int) ≤ x) = true := decide_eq_true h6
        obtain ⟨rfl, rfl⟩ := (HNO.out (by omega)).out
        go_wp2_with fail
        go_quiet (fail)
        go_wp2_with fail
        go_ret
        exact ⟨rfl, ⟨gc, gv, cc, cv, (H.out.draws m).draws _, .inl rfl, .inl rfl⟩, ⟨rfl, rfl, rfl, Nat.le_refl _, fun _ _ _ => rfl⟩⟩
      · have hb1 : decide (x < (F : Int)) = false := decide_eq_false (by omega)
        have hb2 : decide ((N : Int) ≤ x) = false := decide_eq_false (by omega)
        have HA2 : Hid (∀ x ∈ l.take (j + 1), (F : Int) ≤ x ∧ x < (N : Int)) := fun y hy => by
          rw [HT.out] at hy
          rcases List.mem_append.1 hy with hy | hy
          · exact HA.out y hy
          · rw [List.mem_singleton.1 hy]; exact ⟨h5, h6⟩
        go_wp2_with fail
        go_quiet (fail)
        go_wp2_with fail
        all_goals go_roundw
        case rel => exact ⟨j + 1, _, by omega, by go_num, HA2, rfl⟩
        case measure => simp [intOf]; omega
    · obtain rfl : j = n := by omega
      have hall : ∀ x ∈ l, (F : Int) ≤ x ∧ x < (N : Int) := by
        have := HA.out
        rw [List.take_of_length_le (by have := HL.out; omega)] at this
        exact this
      have hyes : s.keepOk l = true := Sd.keepOk_iff.2 (by rw [← HN.out, ← HF.out]; exact hall)
      obtain rfl : R = true := HR.out.trans hyes
      have hs2 : s2 = ⟨N, F, addZ (List.replicate N 0) l, List.replicate N false⟩ := by
        rw [HS.out]
        unfold Sd.keepS
        rw [if_pos hyes, ← HN.out, ← HF.out]
      have HS2 := hid_of hs2
      have HSS := hid_of hall
      clear hall hyes hs2 HA hjn HR HS
      go_upto_region 7 with fail
      go_cut [] from 33 to 48 (fun wx => ∃ gc' gv', Hid (RsIs wx r gc' gv' N N (newSd N F)) ∧ Hid (Kept (fun k => k = r) w wx) ∧ w.heap.size ≤ gc' ∧ w.heap.size ≤ gv')
      case first =>
        have hal : ∀ (W1 : World) (o : Obj), Below w.heap.size w W1 → Below w.heap.size w (W1.alloc o) := fun W1 o hb => hb.alloc hb.size o
        have hd1 : Below w.heap.size w (w.drewN (m + 1)) := below_drewN (Below.refl _ _) _
        have HBL : ∀ W1 : World, Below w.heap.size w W1 → W1.cell? ⟨r, 0, none⟩ = some (.int .i64 (N : Int)) ∧ W1.cell? ⟨r, 2, none⟩ = some (.slice (some ⟨gc, 0, none⟩) N cc) ∧ W1.cell? ⟨r, 3, none⟩ = some (.slice (some ⟨gv, 0, none⟩) N cv) ∧ W1.frozen? ⟨r, 2, none⟩ = false ∧ W1.frozen? ⟨r, 3, none⟩ = false := fun W1 hb => by
          have e := (H.out.newer hb).cell
          rw [← HN.out] at e
          exact ⟨e.1, e.2.2.1, e.2.2.2, (H.out.newer hb).froz 2, (H.out.newer hb).froz 3⟩
        have p0 : ∀ o, ((w.drewN (m + 1)).alloc o).cell? ⟨r, 0, none⟩ = some (.int .i64 (N : Int)) := fun o => (HBL _ (hal _ o hd1)).1
        have p2 : ∀ o1 o2, (((w.drewN (m + 1)).alloc o1).alloc o2).cell? ⟨r, 2, none⟩ = some (.slice (some ⟨gc, 0, none⟩) N cc) := fun o1 o2 => (HBL _ (hal _ o2 (hal _ o1 hd1))).2.1
        have p3 : ∀ o1 o2 v, ((((w.drewN (m + 1)).alloc o1).alloc o2).setCell ⟨r, 2, none⟩ v).cell? ⟨r, 3, none⟩ = some (.slice (some ⟨gv, 0, none⟩) N cv) := fun o1 o2 v => by
          rw [World.cell?_setCell_other _ _ _ _ (by simp)]
          exact (HBL _ (hal _ o2 (hal _ o1 hd1))).2.2.1
        have f2 : ∀ o1 o2, (((w.drewN (m + 1)).alloc o1).alloc o2).frozen? ⟨r, 2, none⟩ = false := fun o1 o2 => (HBL _ (hal _ o2 (hal _ o1 hd1))).2.2.2.1
        have f3 : ∀ o1 o2 v, ((((w.drewN (m + 1)).alloc o1).alloc o2).setCell ⟨r, 2, none⟩ v).frozen? ⟨r, 3, none⟩ = false := fun o1 o2 v => by
          have e := (HBL _ (hal _ o2 (hal _ o1 hd1))).2.2.2.2
          simpa using e
        have p2' : ∀ o, ((w.drewN (m + 1)).alloc o).cell? ⟨r, 2, none⟩ = some (.slice (some ⟨gc, 0, none⟩) N cc) := fun o => (HBL _ (hal _ o hd1)).2.1
        have p3' : ∀ o, ((w.drewN (m + 1)).alloc o).cell? ⟨r, 3, none⟩ = some (.slice (some ⟨gv, 0, none⟩) N cv) := fun o => (HBL _ (hal _ o hd1)).2.2.1
        have f2' : ∀ o, ((w.drewN (m + 1)).alloc o).frozen? ⟨r, 2, none⟩ = false := fun o => (HBL _ (hal _ o hd1)).2.2.2.1
        have f3' : ∀ o, ((w.drewN (m + 1)).alloc o).frozen? ⟨r, 3, none⟩ = false := fun o => (HBL _ (hal _ o hd1)).2.2.2.2
        clear HBL hal hd1
        obtain ⟨⟨g1, g2⟩, g3, g4⟩ := rs_fresh H.out (W := w.drewN (m + 1)) (below_drewN (Below.refl _ _) _) rfl Z Y N F HN.out HF.out HZ.out HY.out h2
        have HG1 := hid_of g1
        have HG2 := hid_of g2
        have HG3 := hid_of g3
        have HG4 := hid_of g4
        clear g1 g2 g3 g4
        go_region
        all_goals go_wp2_with fail
        all_goals go_meet
        · exact ⟨_, _, HG1, HG2, Nat.le_refl _, Nat.le_succ _⟩
        · exact ⟨_, _, HG3, HG4, Nat.le_succ _, Nat.le_refl _⟩
      case rest =>
        obtain ⟨g1, g2, HT, HK, hg1, hg2⟩ := hcut
        have HSZ := hid_of (And.intro hg1 hg2)
        clear hg1 hg2
        go_wp2_with fail
        go_loopw [51] (fun i wr => ∃ k : Nat, k ≤ j ∧ i = .int .i64 (k : Int) ∧ Hid (RsIs wr r g1 g2 N N { newSd N F with C := addZ (List.replicate N 0) (l.take k) }) ∧ Hid (Kept (fun k => k = r) w wr)) (fun i _ => j - (intOf i).toNat)
        case atStart => exact ⟨0, Nat.zero_le _, rfl, HT, HK⟩
        case round =>
          obtain ⟨k, hk, rfl, HT1, HK1⟩ := hrel
          by_cases hkn : k < j
          · obtain ⟨x, hx⟩ : ∃ x, l[k]? = some x := ⟨_, List.getElem?_eq_getElem (by have := HL.out; omega)⟩
            have hm : x ∈ l := List.mem_of_getElem? hx
            obtain ⟨x1, x2⟩ := HSS.out x hm
            obtain ⟨p, rfl⟩ : ∃ p : Nat, x = (p : Int) := ⟨x.toNat, by omega⟩
            obtain ⟨ab, off, rfl, hc⟩ := HI.out.kept HK1.out (fun y hy e => HX.out (fun e2 => by rw [e2] at hx; simp at hx) y hy e) k _ hx
            have hp : p < N := by omega
            obtain ⟨D, hD⟩ : ∃ D, D = addZ (List.replicate N 0) (l.take k) := ⟨_, rfl⟩
            have hDl : D.length = N := by rw [hD, length_addZ, List.length_replicate]
            have hsec : ∀ x ∈ l.take k, isSec (List.replicate N 0) x := fun y hy => by
              have := HSS.out y (List.mem_of_mem_take hy)
              unfold isSec
              rw [List.length_replicate]
              omega
            have hDs : sumC D ≤ 100000 := by
              rw [hD, sumC_add _ _ hsec, List.length_take, sumC_nought]
              omega
            obtain ⟨y, hy⟩ : ∃ y, D[p]? = some y := ⟨_, List.getElem?_eq_getElem (by omega)⟩
            have hg : D.getD p 0 = y := by rw [List.getD_eq_getElem?_getD, hy]; rfl
            have hy2 : y ≤ 100000 := by rw [← hg]; exact Nat.le_trans (getD_le_sumC p) hDs
            have HNX : Hid (addZ (List.replicate N 0) (l.take (k + 1)) = D.set p (y + 1)) := by
              show _ = _
              rw [take_next l k _ hx, addZ_snoc, ← hD, Int.toNat_natCast, hg]
            rw [← hD] at HT1
            obtain ⟨d1, d2⟩ := HT1.out.getC hy
            have d3 := HT1.out.cell.2.2.1
            have hrg : ab ≠ g1 ∨ True := .inr trivial
            have HT2 : Hid (RsIs (wr.drew.setCell ⟨g1, p, none⟩ (.int .i64 ((y + 1 : Nat) : Int))) r g1 g2 N N { newSd N F with C := addZ (List.replicate N 0) (l.take (k + 1)) }) := by
              rw [HNX.out]
              exact (HT1.out.kept (X := fun _ => False) (Kept.refl _ _).drew (fun h => h) (fun h => h) (fun h => h)).setC hp (y + 1)
            have HK2 : Hid (Kept (fun k => k = r) w (wr.drew.setCell ⟨g1, p, none⟩ (.int .i64 ((y + 1 : Nat) : Int)))) := by
              have hgs := HSZ.out.1
              exact HK1.out.drew.trans' (Kept.setCell (F := fun k => k = g1) _ _ _ rfl) (fun i hi e => by omega)
            have d3' : wr.cell? ⟨r, 2, none⟩ = some (.slice (some ⟨g1, 0, none⟩) N N) := d3
            clear hx hm hsec hD hDl hDs hy hg d3
            go_wp2_with fail
            go_region
            all_goals go_wp2_with fail
            all_goals go_roundw
            case rel => exact ⟨k + 1, by omega, by go_num, HT2, HK2⟩
            case measure => simp [intOf]; omega
          · obtain rfl : k = j := by omega
            have e : l.take k = l := List.take_of_length_le (by have := HL.out; omega)
            rw [e] at HT1
            obtain rfl := HS2.out
            clear e
            go_wp2_with fail
            go_ret
            first
              | exact ⟨rfl, ⟨g1, g2, N, N, HT1.out, .inr HSZ.out.1, .inr HSZ.out.2⟩, HK1.out⟩
              | exact ⟨rfl, ⟨g1, g2, ⟨N, N, HT1.out⟩, .inr HSZ.out.1, .inr HSZ.out.2⟩, HK1.out⟩

end Go.Proofs.YthfeecgpgempdaaDoor

/- The document's space: Copy. -/
namespace Go.Proofs.YthfeecgpgempdaaDoor
set_option linter.unusedVariables false
set_option linter.unusedSimpArgs false
open Go.RowKit Dg

theorem rs_copied {w w2 w3 : World} {s : Sd} {N F g2 k2 g3 k3 : Nat} (hN : N = s.N) (hF : F = s.fx) (hn1 : 1 ≤ N) (h21 : w2.ownsRow w.heap.size 3 1 (.slice (some ⟨g2, 0, none⟩) N k2) N (i64s (kI s.C))) (HB2 : Below w.heap.size w w2) (h31 : w3.ownsRow w2.heap.size 4 1 (.slice (some ⟨g3, 0, none⟩) N k3) N (bls s.V)) (h32 : Below w2.heap.size w2 w3) (HB3 : Below w.heap.size w w3) :
    RsIs (w3.alloc (.cells #[.int .i64 (N : Int), .int .i64 (F : Int), .slice (some ⟨g2, 0, none⟩) N k2, .slice (some ⟨g3, 0, none⟩) N k3] 61)) w3.heap.size g2 g3 k2 k3 s ∧ w.heap.size ≤ w3.heap.size ∧ w.heap.size ≤ g2 ∧ w.heap.size ≤ g3 ∧ Below w.heap.size w (w3.alloc (.cells #[.int .i64 (N : Int), .int .i64 (F : Int), .slice (some ⟨g2, 0, none⟩) N k2, .slice (some ⟨g3, 0, none⟩) N k3] 61)) := by
  subst hN hF
  have a1 := World.ownsRow.lt h21 g2 rfl
  have a2 := World.ownsRow.lt h31 g3 rfl
  have a3 := HB2.size
  have h21' : w3.ownsRow w.heap.size 3 1 (.slice (some ⟨g2, 0, none⟩) s.N k2) s.N (i64s (kI s.C)) := ownsRow_other h21 (F := fun k => w2.heap.size ≤ k) ⟨h32.os, h32.tape, h32.output, h32.size, fun k hk hf => h32.block k hk⟩ (fun k e => by cases e; show ¬ w2.heap.size ≤ g2; omega)
  exact ⟨rs_made h21' h31 (by omega) (by omega), HB3.size, a1.1, by omega, HB3.alloc HB3.size _⟩
set_option maxRecDepth 100000 in
set_option maxHeartbeats 8000000 in
theorem rscopy_any (w : World) (r gc gv cc cv : Nat) (s : Sd) (h : RsIs w r gc gv cc cv s) (hf : s.Fine) :
    Calls Tryd.prog 25 #[.pointer (some ⟨r, 0, none⟩)] w fun e w' => ∃ r2 gc2 gv2 cc2 cv2, e = .returned (.pointer (some ⟨r2, 0, none⟩)) ∧ RsIs w' r2 gc2 gv2 cc2 cv2 s ∧ w.heap.size ≤ r2 ∧ w.heap.size ≤ gc2 ∧ w.heap.size ≤ gv2 ∧ Below w.heap.size w w' := by
  obtain ⟨i0, hi, hz0, hz1, hz2⟩ := info_parts Tryd.info3
  obtain ⟨i1, hj, hy0, hy1, hy2⟩ := info_parts Tryd.infoBl
  have H := hid_of h
  obtain ⟨N, hN⟩ : ∃ N, N = s.N := ⟨_, rfl⟩
  obtain ⟨F, hF⟩ : ∃ F, F = s.fx := ⟨_, rfl⟩
  have HN := hid_of hN
  have HF := hid_of hF
  have hn1 : 1 ≤ N := by have := hf.pos; omega
  have hn2 : N ≤ 100000 := by have := hf.le; omega
  have hd : Below w.heap.size w w.drew := (Below.refl _ _).drew
  have HC : Hid (∀ W : World, Below w.heap.size w W → W.cell? ⟨r, 0, none⟩ = some (.int .i64 (N : Int)) ∧ W.cell? ⟨r, 1, none⟩ = some (.int .i64 (F : Int)) ∧ W.cell? ⟨r, 2, none⟩ = some (.slice (some ⟨gc, 0, none⟩) N cc) ∧ W.cell? ⟨r, 3, none⟩ = some (.slice (some ⟨gv, 0, none⟩) N cv)) := fun W hW => by
    have e := (h.newer hW).cell
    rw [← hN, ← hF] at e
    exact e
  obtain ⟨c0, c1, c2, c3⟩ := HC.out w (Below.refl _ _)
  have hlc : (i64s (kI s.C)).length = N := by rw [length_i64s, length_kI, h.lenC, hN]
  have hlv : (bls s.V).length = N := by rw [length_bls, h.lenV, hN]
  have HLC := hid_of hlc
  have HLV := hid_of hlv
  clear h hN hF hf hlc hlv
  go_enter Tryd.func25, Tryd.ntmps25
  go_upto_region 1 with fail
  go_region_law first
    | (refine step_append_whole _ rfl (.tmp 14) 30 rfl 3 i0 (.int .i64 0) 8 Tryd.underlying30 hi hz0 hz1 hz2 rfl gc N cc (i64s (kI s.C)) (by rfl) HLC.out hn1 hn2 (by decide) (H.out.newer hd).cellsC (one_nums _) ?_; intro g2 k2 w2 h21 h22; have HB2 : Hid (Below w.heap.size w w2) := hd.trans h22.out; obtain ⟨x0, x1, x2, x3⟩ := HC.out w2 HB2.out)
    | (refine step_append_whole _ rfl (.tmp 19) 59 rfl 4 i1 (.bool false) 1 Tryd.underlying59 hj hy0 hy1 hy2 rfl gv N cv (bls s.V) (by rfl) HLV.out hn1 hn2 (by decide) (H.out.newer HB2.out).cellsV (one_bls _) ?_; intro g3 k3 w3 h31 h32; have HB3 : Hid (Below w.heap.size w w3) := HB2.out.trans (h32.out.mono HB2.out.size); obtain ⟨z0, z1, z2, z3⟩ := HC.out w3 HB3.out)
  all_goals
    go_wp2_with fail
    go_ret
    obtain ⟨q1, q2, q3, q4, q5⟩ := rs_copied (w := w) (w2 := w2) (w3 := w3) HN.out HF.out hn1 h21.out HB2.out h31.out h32.out HB3.out
    exact ⟨w3.heap.size, g2, g3, k2, k3, rfl, q1, q2, q3, q4, q5⟩

end Go.Proofs.YthfeecgpgempdaaDoor
