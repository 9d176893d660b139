/- The texts DwP3, DwP4, DwP5, DwP6, DwP7, DwP8, one behind the other. -/
import Derived.Test.YtjmeneddhalodaaPart06
import Derived.Great.Ranges

/- The program's disk: a write by value; keep. -/
namespace Go.Proofs.Ytjmeneddhalodaa
set_option linter.unusedVariables false
set_option linter.unusedSimpArgs false
open Go.RowKit Dg

theorem oneC_u8 (l : List Nat) : ∀ u ∈ u8s l, u.oneCell' = true := by
  intro u hu
  obtain ⟨x, -, rfl⟩ := List.mem_map.1 hu
  rfl
def zeroCW : Array Value := (cellsP (0, List.replicate 128 0)).toArray
set_option maxRecDepth 100000 in
theorem Try.infoDw : (Try.prog.info? 75).map (fun i => (i.zero, i.size, i.bytes)) = some (some (.agg zeroCW), 129, 136) := by kernel_rfl
theorem zeroDw (w : World) : (zeroValue 75).run Try.prog w = .ok (.agg zeroCW) w := by
  obtain ⟨i0, hi, hz0, hz1, hz2⟩ := info_parts Try.infoDw
  simp [zeroValue, typeInfo, hi, hz0]
theorem sizeDw : (Try.prog.info? 75).map (·.size) = some 129 := by
  obtain ⟨i0, hi, hz0, hz1, hz2⟩ := info_parts Try.infoDw
  simp [hi, hz1]
theorem size_zeroCW : zeroCW.size = 129 := by simp [zeroCW, length_cellsP]
/-- 'var w write'. -/
theorem wpList_alloc_dw {ops : Array Oper} {rest : List Oper} {o : Oper} {a : Act} {w : World} {Q : Exit → Act → World → Prop} (hg : o.guard = none) (ho : o.op = .alloc 75)
    (h : wpList Try.prog ops Q rest (a.put o.dst (.pointer (some ⟨w.heap.size, 0, none⟩))) (w.alloc (.cells zeroCW 75))) : wpList Try.prog ops Q (o :: rest) a w := by
  refine wpList_plain hg fun K hK => ?_
  unfold Oper.wp execOp
  simp only [ho, Sem.run_bind, Instr.alloc, zeroDw, newVar, newRow, run_newObj_alloc, Sem.run_pure, Result.andThen_ok]
  exact hK _ _ h
/-- A write laid into the variable that was made last. -/
theorem wpList_store_dw {ops : Array Oper} {rest : List Oper} {o : Oper} {a : Act} {w : World} {Q : Exit → Act → World → Prop} (hg : o.guard = none) (x y : Operand) (ho : o.op = .store 75 x y) (hx : a.eval x = .pointer (some ⟨w.heap.size, 0, none⟩))
    (C C0 : Array Value) (hy : a.eval y = .agg C) (hC : C.size = 129) (hC0 : C0.size = 129) (h1 : C.all (·.oneCell') = true)
    (h : wpList Try.prog ops Q rest (a.put o.dst undef) (w.alloc (.cells C 75))) : wpList Try.prog ops Q (o :: rest) a (w.alloc (.cells C0 75)) := by
  refine wpList_plain hg fun K hK => ?_
  unfold Oper.wp execOp
  rw [ho]
  simp only [hx, hy]
  rw [Sem.run_bind, run_storeAt_new w 75 C0 C (by rw [sizeDw, hC]) (by rw [hC, hC0]) h1]
  exact hK _ _ h
/-- The cells of a write in the list. -/
theorem DwIs.range {w : World} {b : Nat} {x : DwB} {L : List Int} {s : Sk} (h : DwIs w b x L s) {j : Nat} {p : Nat × List Nat} (hp : s.W[j]? = some p) : ∃ g c, x.vW = .slice (some ⟨g, 0, none⟩) s.W.length c ∧ w.rangeAt g (j * 129) (cellsP p) ∧ g < w.heap.size ∧ g ≠ b ∧ g ≠ x.gK ∧ g ≠ x.gL ∧ s.W.length ≤ c := by
  have hjl : j < s.W.length := (List.getElem?_eq_some_iff.1 hp).1
  obtain ⟨a, c, hv, h0⟩ := h.form
  obtain ⟨g, rfl⟩ : ∃ g, a = some ⟨g, 0, none⟩ := by
    rcases h0 with h0 | h0
    · omega
    · exact h0
  have hws := h.ws
  rw [hv] at hws
  have hne := h.ne2
  rw [hv] at hne
  have h128 : ∀ p ∈ s.W, p.2.length = 128 := fun p hp => (h.fine.w p hp).2.1
  refine ⟨g, c, hv, fun i v hi => ?_, (World.ownsRow.lt hws g rfl).2, fun e => hne.1 (by rw [← e]; rfl), fun e => hne.2.1 (by rw [← e]; rfl), fun e => hne.2.2 (by rw [← e]; rfl), ?_⟩
  · have hil : i < 129 := by
      have := (List.getElem?_eq_some_iff.1 hi).1
      rw [length_cellsP (h128 p (List.mem_of_getElem? hp))] at this
      exact this
    exact (row_cell hws (by rw [cellsV_get h128 j p hp i hil]; exact hi)).1
  · rcases hws.2 with ⟨e, _⟩ | ⟨g', cap, cur, e, _, _, hn, -⟩
    · cases e
    · cases e; exact hn
/-- What is kept is other bytes. -/
theorem DwIs.putB {w w' : World} {b : Nat} {x : DwB} {L : List Int} {s : Sk} (h : DwIs w b x L s) (hk : Kept (fun k => k = x.gK) w w') (B' : List Nat) (hl : B'.length = s.B.length) (h256 : ∀ y ∈ B', y < 256) (ho : w'.ownsRow 0 5 1 (.slice (some ⟨x.gK, 0, none⟩) s.B.length x.cK) s.B.length (u8s B')) :
    DwIs w' b x L { s with B := B' } where
  box := by
    rw [hk.block b (Array.getElem?_eq_some_iff.1 h.box).1 (fun e => h.ne1.1 e)]
    show _ = some (Obj.cells #[.slice _ B'.length _, _, .slice _ (B'.length / 128) _, _, _, _, _, _, _] _ _)
    rw [hl]
    exact h.box
  bs := by unfold OwnBytes; show World.ownsRow _ _ _ _ (.slice _ B'.length _) B'.length _; rw [hl]; exact ho
  ls := by show OwnInts _ _ (.slice _ (B'.length / 128) _) _; rw [hl]; exact ownsRow_other h.ls hk (fun k e => by cases e; exact fun e => h.ne1.2.2 e.symm)
  ws := ownsRow_other h.ws hk (fun k e e2 => h.ne2.2.1 (by rw [e, e2]))
  at1 := h.at1
  at2 := h.at2
  fine := ⟨by obtain ⟨n, h1, h2, h3⟩ := h.fine.n; exact ⟨n, h1, h2, hl.trans h3⟩, h256, fun p hp => by obtain ⟨h1, h2⟩ := h.fine.w p hp; exact ⟨by show _ ≤ B'.length; rw [hl]; exact h1, h2⟩⟩
  ne1 := h.ne1
  ne2 := h.ne2
set_option maxRecDepth 100000 in
theorem slice_arr (g o : Nat) (W : World) : (Instr.sliceAt 73 (.pointer (some ⟨g, o, none⟩)) none none none).run Try.prog W = .ok (.slice (some ⟨g, o, none⟩) 128 128) W := by
  obtain ⟨i0, hi, hz0, hz1, hz2⟩ := info_parts Try.info5
  simp [Instr.sliceAt, Instr.slice, Instr.sliceBounds, Instr.sliceBound, asIntOf, run_underlying Try.underlying73, sizeOf, typeInfo, hi, hz1, Addr.add, Instr.sureAddr]

end Go.Proofs.Ytjmeneddhalodaa

/- The program's disk: keep. -/
namespace Go.Proofs.Ytjmeneddhalodaa
set_option linter.unusedVariables false
set_option linter.unusedSimpArgs false
open Go.RowKit Dg

set_option maxRecDepth 100000 in
set_option maxHeartbeats 4000000 in
theorem dwkeep_is (w : World) (b : Nat) (x : DwB) (L : List Int) (s : Sk) (h : DwIs w b x L s) (p : Nat × List Nat) (hp : p ∈ s.W) (C : Array Value) (hC : C = (cellsP p).toArray) (B' : List Nat) (hB' : B' = keepB s.B p) :
    Calls Try.prog 41 #[.pointer (some ⟨b, 0, none⟩), .agg C] w fun e w' => e = .returned (.tuple #[]) ∧ DwIs w' b x L { s with B := B' } ∧ Kept (fun k => k = x.gK) w w' := by
  obtain ⟨i0, hi, hz0, hz1, hz2⟩ := info_parts Try.info5
  obtain ⟨hf1, hf2, hf3⟩ := h.fine.w p hp
  obtain ⟨q, hq⟩ : ∃ q, q = p.1 := ⟨_, rfl⟩
  obtain ⟨bb, hbb⟩ : ∃ bb, bb = p.2 := ⟨_, rfl⟩
  obtain ⟨lo, hlo⟩ : ∃ lo, lo = q * 128 := ⟨_, rfl⟩
  obtain ⟨N, hN⟩ : ∃ N, N = s.B.length := ⟨_, rfl⟩
  obtain ⟨cc, hcc⟩ : ∃ cc, cc = x.cK - lo := ⟨_, rfl⟩
  rw [← hq] at hf1
  rw [← hbb] at hf2 hf3
  obtain ⟨w0, hw0⟩ : ∃ w0, w0 = w.alloc (.cells C 75) := ⟨_, rfl⟩
  have hk0 : Kept (fun _ => False) w w0 := by rw [hw0]; exact Kept.alloc _ _ _
  obtain ⟨bx, hbx⟩ : ∃ bx, bx = w.heap.size := ⟨_, rfl⟩
  have hx0 : w0.heap[bx]? = some (.cells C 75 (0, 0)) := by rw [hw0, hbx]; exact heap_alloc_new w _
  have hCg : ∀ i v, (cellsP p)[i]? = some v → w0.cell? ⟨bx, i, none⟩ = some v := fun i v e => by
    simp [World.cell?, hx0, hC]
    simpa using e
  have hc0 : w0.cell? ⟨bx, 0, none⟩ = some (.int .i64 (q : Int)) := hCg 0 _ (by rw [hq]; rfl)
  have hsl0 : SlAt w0 (.slice (some ⟨bx, 1, none⟩) 128 128) bb := ⟨some ⟨bx, 1, none⟩, 128, by rw [hf2], fun j y hy => ⟨bx, 1, rfl, hCg (1 + j) _ (by unfold cellsP; rw [Nat.add_comm, List.getElem?_cons_succ, u8s_get, ← hbb, hy]; rfl)⟩⟩
  have HD0 := hid_of (h.kept hk0 (fun _ _ h => h))
  have HO0 : Hid (w0.ownsRow 0 5 1 (.slice (some ⟨x.gK, 0, none⟩) N x.cK) N (u8s s.B)) := by
    have e := HD0.out.bs
    unfold OwnBytes at e
    rw [← hN] at e
    exact e
  have HSC : Hid (Calls Try.prog 40 #[.pointer (some ⟨b, 0, none⟩), .int .i64 (q : Int)] w0.drew fun e w' => e = .returned (.slice (some ⟨x.gK, lo, none⟩) 128 cc) ∧ w0.drew = w') := dwsector_is w0.drew b x L s (HD0.out.kept (X := fun _ => False) (Kept.refl _ _).drew (fun _ _ h => h)) q hf1 lo cc hlo hcc
  obtain ⟨w5, hcp, ho5, hk5⟩ := run_copy_into (P := Try.prog) (w := w0.drew) 30 30 3 Try.underlying30 (by simp [hi, hz1]) 0 x.gK x.cK N lo 128 cc s.B hN.symm (World.ownsRow.drew HO0.out) bx 1 128 bb hf2 (by omega) hsl0
  have hsl := slice_arr bx 1
  have HEND : Hid (DwIs w5 b x L { s with B := B' } ∧ Kept (fun k => k = x.gK) w w5) := by
    have hk : Kept (fun k => k = x.gK) w0 w5 := (Kept.refl _ _).drew.trans hk5
    have eB : B' = into s.B lo bb := by rw [hB', hlo, hq, hbb]; rfl
    refine ⟨HD0.out.putB hk B' ?_ ?_ ?_, (hk0.mono (fun _ _ h => h.elim)).trans hk⟩
    · rw [eB]; exact length_into (by rw [hf2]; omega)
    · rw [hB']; exact keepB_lt h.fine.b256 (by rw [← hbb]; exact hf3)
    · rw [eB, ← hN]; exact ho5
  clear h hp hC hB' hf1 hf2 hf3 hq hbb hlo hcc hk0 hx0 hCg hsl0 ho5 hk5 hN hi hz0 hz1 hz2
  go_enter Try.func41, Try.ntmps41
  go_wp2_with (refine Go.Great.wpList_boxTo rfl 75 (.tmp 1) rfl (some 3) rfl bx hbx.symm C rfl ?_)
  rw [← hw0]
  clear hw0 hbx
  change Code.wp _ _ _ ⟨#[.pointer (some ⟨b, 0, none⟩), .agg C, undef, .pointer (some ⟨bx, 0, none⟩), undef, undef, undef, undef, undef, undef, undef], []⟩ _
  go_region_with (go_at_call 40; refine HSC.out.mono ?_; rintro e w2 ⟨rfl, rfl⟩)
  all_goals
    go_wp2_with fail
    go_end0
    exact ⟨rfl, HEND.out⟩

end Go.Proofs.Ytjmeneddhalodaa

/- The program's disk: forget. -/
namespace Go.Proofs.Ytjmeneddhalodaa
set_option linter.unusedVariables false
set_option linter.unusedSimpArgs false
open Go.RowKit Dg

theorem dwi_cell {w : World} {base g n c : Nat} {l : List Int} {j : Nat} {x : Int} (h : OwnInts w base (.slice (some ⟨g, 0, none⟩) n c) l) (hx : l[j]? = some x) :
    w.cell? ⟨g, j, none⟩ = some (.int .i64 x) ∧ w.frozen? ⟨g, j, none⟩ = false := row_cell (n := n) (c := c) (by
      have h' : w.ownsRow base 3 1 (.slice (some ⟨g, 0, none⟩) n c) l.length (i64s l) := h
      rcases h'.2 with ⟨e1, _⟩ | ⟨g', cap', cur, hv, _⟩
      · cases e1
      · simp only [Value.slice.injEq] at hv
        rw [← hv.2.1] at h'
        exact h') (by rw [i64s_get, hx]; rfl)
theorem dwi_len {w : World} {base g n c : Nat} {l : List Int} (h : OwnInts w base (.slice (some ⟨g, 0, none⟩) n c) l) : n = l.length := by
  rcases h.2 with ⟨e1, _⟩ | ⟨g', cap', cur, hv, _⟩
  · cases e1
  · simp only [Value.slice.injEq] at hv
    exact hv.2.1
theorem dwi_set {w : World} {base g n c : Nat} {l : List Int} (h : OwnInts w base (.slice (some ⟨g, 0, none⟩) n c) l) (j : Nat) (y : Int) (hj : j < n) :
    OwnInts (w.setCell ⟨g, j, none⟩ (.int .i64 y)) base (.slice (some ⟨g, 0, none⟩) n c) (l.set j y) := by
  have e := dwi_len h
  subst e
  show World.ownsRow _ _ _ _ _ _ _
  have e2 : i64s (l.set j y) = (i64s l).set j (.int .i64 y) := by simp [i64s]
  rw [e2, List.length_set]
  exact ownsRow_set h j hj _
/-- 'L' alone turned. -/
theorem DwIs.putL {w w' : World} {b : Nat} {x : DwB} {L L' : List Int} {s : Sk} (h : DwIs w b x L s) (hk : Kept (fun k => k = x.gL) w w') (ho : OwnInts w' 0 (.slice (some ⟨x.gL, 0, none⟩) (s.B.length / 128) x.cL) L') : DwIs w' b x L' s :=
  { h with
    box := by rw [hk.block b (Array.getElem?_eq_some_iff.1 h.box).1 (fun e => h.ne1.2.1 e)]; exact h.box
    bs := ownsRow_other h.bs hk (fun k e => by cases e; exact h.ne1.2.2)
    ls := ho
    ws := ownsRow_other h.ws hk (fun k e e2 => h.ne2.2.2 (by rw [e, e2])) }
/-- None waits any more. -/
theorem DwIs.clear {w : World} {b : Nat} {x : DwB} {L : List Int} {s : Sk} (h : DwIs w b x L s) : DwIs (w.setCell ⟨b, 1, none⟩ (.slice none 0 0)) b { x with vW := .slice none 0 0 } L { s with W := [] } := by
  have hk : Kept (fun k => k = b) w (w.setCell ⟨b, 1, none⟩ (.slice none 0 0)) := Kept.setCell _ _ _ rfl
  refine ⟨?_, ownsRow_other h.bs hk (fun k e => by cases e; exact fun e => h.ne1.1 e.symm), ownsRow_other h.ls hk (fun k e => by cases e; exact fun e => h.ne1.2.1 e.symm), World.ownsRow_nil _ _ _ _, h.at1, h.at2, ⟨h.fine.n, h.fine.b256, fun p hp => by simp at hp⟩, h.ne1, ⟨by simp [Value.ownBlock], by simp [Value.ownBlock], by simp [Value.ownBlock]⟩⟩
  rw [heap_setCell_of h.box]
  rfl
/-- A write is read by value. -/
theorem wpList_load_dw {ops : Array Oper} {rest : List Oper} {o : Oper} {a : Act} {w : World} {Q : Exit → Act → World → Prop} (hg : o.guard = none) (x : Operand) (ho : o.op = .load 75 x) (g off : Nat) (hx : a.eval x = .pointer (some ⟨g, off, none⟩))
    (p : Nat × List Nat) (hr : w.rangeAt g off (cellsP p)) (hp : p.2.length = 128) (C : Array Value) (hC : C = (cellsP p).toArray) (h : wpList Try.prog ops Q rest (a.put o.dst (.agg C)) w) : wpList Try.prog ops Q (o :: rest) a w := by
  subst hC
  exact wpList_load_mid hg 75 x ho g off hx (cellsP p) _ hr Try.underlying75 rfl (by rw [sizeDw, length_cellsP hp]) h
theorem cellsP_arr {p : Nat × List Nat} (hp : p.2.length = 128) {C : Array Value} (hC : C = (cellsP p).toArray) : C.size = 129 ∧ C.all (·.oneCell') = true := by
  subst hC
  exact ⟨by simp [length_cellsP hp], all_oneCell_toArray (cellsP_one p)⟩
set_option maxRecDepth 100000 in
set_option maxHeartbeats 4000000 in
theorem dwforget_is (w : World) (b : Nat) (x : DwB) (L : List Int) (s : Sk) (h : DwIs w b x L s) (hWl : s.W.length ≤ 100000) :
    Calls Try.prog 42 #[.pointer (some ⟨b, 0, none⟩)] w fun e w' => e = .returned (.tuple #[]) ∧ DwIs w' b { x with vW := .slice none 0 0 } (zeroTo s.W L s.W.length) { s with W := [] } ∧ Kept (fun k => k = b ∨ k = x.gL) w w' := by
  have H0 := hid_of h
  obtain ⟨-, c1, -⟩ := h.cell
  obtain ⟨wa, wc, hv, hwa⟩ := h.form
  obtain ⟨M, hM⟩ : ∃ M, M = s.W.length := ⟨_, rfl⟩
  rw [hv, ← hM] at c1
  rw [← hM] at hWl
  have HM := hid_of hM
  have HV := hid_of hv
  clear h hM hv hwa
  go_enter Try.func42, Try.ntmps42
  go_wp2_with fail
  go_loopw [9] (fun v ws => ∃ j : Nat, j ≤ M ∧ v = .int .i64 (j : Int) ∧ Hid (DwIs ws b x (zeroTo s.W L j) s) ∧ Hid (Kept (fun k => k = x.gL) w ws)) (fun v _ => M - (intOf v).toNat)
  case atStart => exact ⟨0, Nat.zero_le _, rfl, H0.out, Kept.refl _ _⟩
  case round =>
    obtain ⟨j, hj, rfl, hr, hk⟩ := hrel
    by_cases hjM : j < M
    · obtain ⟨p, hp⟩ : ∃ p, s.W[j]? = some p := ⟨s.W[j]'(by rw [← HM.out]; exact hjM), List.getElem?_eq_getElem _⟩
      obtain ⟨g, c, e1, hrg, hgl, n1, n2, n3, hcl⟩ := hr.out.range hp
      obtain ⟨rfl, rfl⟩ : wa = some ⟨g, 0, none⟩ ∧ wc = c := by
        rw [HV.out] at e1
        simp only [Value.slice.injEq] at e1
        exact ⟨e1.1, e1.2.2⟩
      have hpf := hr.out.fine.w p (List.mem_of_getElem? hp)
      obtain ⟨C, hC⟩ : ∃ C, C = (cellsP p).toArray := ⟨_, rfl⟩
      obtain ⟨hCs, hC1⟩ := cellsP_arr hpf.2.1 hC
      obtain ⟨w1, hw1⟩ : ∃ w1, w1 = wr.alloc (.cells C 75) := ⟨_, rfl⟩
      have hk1 : Kept (fun _ => False) wr w1 := by rw [hw1]; exact Kept.alloc _ _ _
      obtain ⟨bx, hbx⟩ : ∃ bx, bx = wr.heap.size := ⟨_, rfl⟩
      obtain ⟨q, hq⟩ : ∃ q, q = p.1 := ⟨_, rfl⟩
      have hx0 : w1.heap[bx]? = some (.cells C 75 (0, 0)) := by rw [hw1, hbx]; exact heap_alloc_new wr _
      have hc0 : w1.cell? ⟨bx, 0, none⟩ = some (.int .i64 (q : Int)) := by simp [World.cell?, hx0, hC, cellsP, hq]
      have HD1 := hid_of (hr.out.kept hk1 (fun _ _ h => h))
      have hd2 := HD1.out.cell.2.2.1
      obtain ⟨n, hn⟩ : ∃ n, n = s.B.length / 128 := ⟨_, rfl⟩
      have hq1 : q < n := by have := hpf.1; omega
      have hnl : n ≤ 4096 := by have := hr.out.fine.le; omega
      rw [← hn] at hd2
      obtain ⟨y, hy⟩ : ∃ y, (zeroTo s.W L j)[q]? = some y := ⟨_, List.getElem?_eq_getElem (by rw [length_zeroTo, H0.out.cap.2.2, ← hn]; exact hq1)⟩
      obtain ⟨hg1, hg2⟩ := dwi_cell HD1.out.ls hy
      have HEND : Hid (DwIs (w1.drew.setCell ⟨x.gL, q, none⟩ (.int .i64 0)) b x (zeroTo s.W L (j + 1)) s ∧ Kept (fun k => k = x.gL) w (w1.drew.setCell ⟨x.gL, q, none⟩ (.int .i64 0))) := by
        have hd : Kept (fun _ => False) w1 w1.drew := (Kept.refl _ _).drew
        have hks : Kept (fun k => k = x.gL) w1.drew (w1.drew.setCell ⟨x.gL, q, none⟩ (.int .i64 0)) := Kept.setCell _ _ _ rfl
        refine ⟨?_, (hk.out.trans ((hk1.trans hd).mono (fun _ _ h => h.elim))).trans hks⟩
        have e : zeroTo s.W L (j + 1) = (zeroTo s.W L j).set q 0 := by
          conv => lhs; unfold zeroTo
          rw [List.getD_eq_getElem?_getD, hp, hq]; rfl
        rw [e]
        exact (HD1.out.kept hd (fun _ _ h => h)).putL hks (dwi_set (HD1.out.kept hd (fun _ _ h => h)).ls q 0 (by rw [← hn]; exact hq1))
      have HPL := hid_of hpf.2.1
      have HRG := hid_of hrg
      have HC := hid_of hC
      clear hpf e1 hrg hC hx0 hk1 hn hy hp hq n1 n2 n3
      go_wp2_with (first
        | (refine wpList_load_dw rfl (.tmp 11) rfl g (j * 129) rfl p HRG.out HPL.out C HC.out ?_)
        | (refine wpList_alloc_dw rfl rfl ?_)
        | (refine wpList_store_dw rfl (.tmp 3) (.tmp 12) rfl rfl C zeroCW rfl hCs size_zeroCW hC1 ?_))
      change Code.wp _ _ _ ⟨#[_, _, _, _, _, _, _, _, _, _, _, _, _, _, _, _, _, _, _, _, _, _, _, _], []⟩ (wr.alloc _)
      rw [← hw1, ← hbx]
      clear hw1 hbx
      go_region
      all_goals
        go_wp2_with fail
        refine ⟨⟨j + 1, by omega, by go_num, HEND.out.1, HEND.out.2⟩, by (simp [intOf]) <;> omega⟩
    · obtain rfl : j = M := by omega
      rw [HM.out] at hr
      have HE := hid_of hr.out.clear
      have d1 := hr.out.cell.2.1
      have f1 := hr.out.froz 1
      have HKF : Hid (Kept (fun k => k = b ∨ k = x.gL) w (wr.setCell ⟨b, 1, none⟩ (.slice none 0 0))) := (hk.out.mono (fun i _ e => .inr e)).trans (Kept.setCell _ _ _ (.inl rfl))
      rw [HV.out] at d1
      clear hr
      go_wp2_with fail
      go_end0
      exact ⟨rfl, HE.out, HKF.out⟩

end Go.Proofs.Ytjmeneddhalodaa

/- The program's disk: Flush. -/
namespace Go.Proofs.Ytjmeneddhalodaa
set_option linter.unusedVariables false
set_option linter.unusedSimpArgs false
open Go.RowKit Dg

/-- A call's end. -/
theorem Moved.of {w w' : World} {b : Nat} {F G : Nat → Prop} {s2 : Sk} {x x' : DwB} {L : List Int} (hF : ∀ k, x.own b k → F k) (hFG : ∀ k, F k → G k) (hG : ∀ k, G k → k < w.heap.size)
    (h' : DwIs w' b x' L s2) (hL : L = lastI s2.W (s2.B.length / 128)) (hx' : ∀ k, x'.own b k → x.own b k ∨ (w.heap.size ≤ k ∧ k < w'.heap.size)) (hk : Kept (x.own b) w w') : Moved DwAt w w' b F G s2 := by
  refine ⟨fun k => F k ∨ (w.heap.size ≤ k ∧ k < w'.heap.size), fun k => G k ∨ (w.heap.size ≤ k ∧ k < w'.heap.size), ⟨x', by rw [← hL]; exact h', fun k e => ?_, fun k e => ?_, fun k e => ?_⟩, hk.mono (fun k _ e => hF k e), fun k e => ?_, fun k e => ?_⟩
  · rcases hx' k e with e | e
    · exact .inl (hF k e)
    · exact .inr e
  · rcases e with e | e
    · exact .inl (hFG k e)
    · exact .inr e
  · rcases e with e | e
    · exact Nat.lt_of_lt_of_le (hG k e) hk.size
    · exact e.2
  · rcases e with e | e
    · exact .inl e
    · exact .inr e.1
  · rcases e with e | e
    · exact .inl e
    · exact .inr e.1
theorem own_nil {x : DwB} {b k : Nat} (h : ({ x with vW := .slice none 0 0 } : DwB).own b k) : x.own b k := by
  rcases h with h | h | h | h
  · exact .inl h
  · exact .inr (.inl h)
  · exact .inr (.inr (.inl h))
  · cases h
theorem Kept.own {w w' : World} {b : Nat} {x : DwB} {X : Nat → Prop} (h : Kept X w w') (hX : ∀ k, X k → k = b ∨ k = x.gK ∨ k = x.gL) : Kept (x.own b) w w' := h.mono fun k _ e => by
  rcases hX k e with e | e | e
  · exact .inl e
  · exact .inr (.inl e)
  · exact .inr (.inr (.inl e))
theorem lastI_B {W : List (Nat × List Nat)} {B B' : List Nat} (h : B'.length = B.length) : lastI W (B'.length / 128) = lastI W (B.length / 128) := by rw [h]
set_option maxRecDepth 100000 in
set_option maxHeartbeats 4000000 in
theorem dwflush_any (w : World) (b : Nat) (F G : Nat → Prop) (s : Sk) (h : DwAt w b F G s) (hc : s.flushes ≤ 1000000) (hWl : s.W.length ≤ 100000) (R : Int) (hR : R = s.flushR) (s2 : Sk) (hs2 : s2 = s.flushS) :
    Calls Try.prog 16 #[.pointer (some ⟨b, 0, none⟩)] w fun e w' => e = .returned (.int .i64 R) ∧ Moved DwAt w w' b F G s2 := by
  obtain ⟨x, h0, h1, h2, h3⟩ := h
  obtain ⟨t, ht⟩ : ∃ t, t = s.arm := ⟨_, rfl⟩
  obtain ⟨L, hL⟩ : ∃ L, L = lastI s.W (s.B.length / 128) := ⟨_, rfl⟩
  rw [← hL] at h0
  have HS := hid_of (dwstops_is w b x L s h0)
  have hLt : L = lastI t.W (t.B.length / 128) := by rw [hL, ht, s.arm_W, s.arm_B]
  have hs2' : s2 = if t.dead then t else { t with B := keepTo t.B t.W (fun _ => true) t.W.length, W := [], flushes := t.flushes + 1 } := by
    rw [hs2]; unfold Sk.flushS
    rw [ht, s.arm_B, s.arm_W, s.arm_counts.2.2]
  have hR' : R = if t.dead then 9 else 0 := by rw [hR]; unfold Sk.flushR; rw [ht]
  have htW : t.W.length ≤ 100000 := by rw [ht, s.arm_W]; exact hWl
  have htc : t.flushes ≤ 1000000 := by rw [ht, s.arm_counts.2.2]; exact hc
  rw [← ht] at HS
  have HR : Hid ((∀ k, x.own b k → F k) ∧ (∀ k, F k → G k) ∧ ∀ k, G k → k < w.heap.size) := ⟨h1, h2, h3⟩
  have HLT := hid_of hLt
  clear hs2 hR ht h0 h1 h2 h3 hc hWl hL hLt
  rcases hd : t.dead with _ | _
  · rw [if_neg (by rw [hd]; decide)] at hs2' hR'
    rw [hd] at HS
    subst hR'
    go_enter Try.func16, Try.ntmps16
    go_wp2_with fail
    refine HS.out.mono ?_
    rintro e w1 ⟨rfl, h0, hk1⟩
    have HK1 := hid_of hk1
    have H0 := hid_of h0
    obtain ⟨-, c1, -⟩ := h0.cell
    obtain ⟨wa, wc, hv, -⟩ := h0.form
    obtain ⟨M, hM⟩ : ∃ M, M = t.W.length := ⟨_, rfl⟩
    rw [hv, ← hM] at c1
    rw [← hM] at htW
    have HM := hid_of hM
    have HV := hid_of hv
    have HS2 := hid_of hs2'
    clear h0 hk1 HS hM hd hv hs2'
    go_wp2_with fail
    go_loopw [12] (fun v ws => ∃ j : Nat, j ≤ M ∧ v = .int .i64 (j : Int) ∧ Hid (DwIs ws b x L { t with B := keepTo t.B t.W (fun _ => true) j }) ∧ Hid (Kept (fun k => k = x.gK) w1 ws)) (fun v _ => M - (intOf v).toNat)
    case atStart => exact ⟨0, Nat.zero_le _, rfl, H0.out, Kept.refl _ _⟩
    case round =>
      obtain ⟨j, hj, rfl, hr, hk⟩ := hrel
      by_cases hjM : j < M
      · obtain ⟨p, hp⟩ : ∃ p, t.W[j]? = some p := ⟨t.W[j]'(by rw [← HM.out]; exact hjM), List.getElem?_eq_getElem _⟩
        obtain ⟨g, c, e1, hrg, hgl, n1, n2, n3, hcl⟩ := hr.out.range hp
        obtain ⟨rfl, rfl⟩ : wa = some ⟨g, 0, none⟩ ∧ wc = c := by
          rw [HV.out] at e1
          simp only [Value.slice.injEq] at e1
          exact ⟨e1.1, e1.2.2⟩
        have hpf := hr.out.fine.w p (List.mem_of_getElem? hp)
        obtain ⟨C, hC⟩ : ∃ C, C = (cellsP p).toArray := ⟨_, rfl⟩
        obtain ⟨hCs, hC1⟩ := cellsP_arr hpf.2.1 hC
        obtain ⟨w2, hw2⟩ : ∃ w2, w2 = wr.alloc (.cells C 75) := ⟨_, rfl⟩
        have hk2 : Kept (fun _ => False) wr w2 := by rw [hw2]; exact Kept.alloc _ _ _
        obtain ⟨bx, hbx⟩ : ∃ bx, bx = wr.heap.size := ⟨_, rfl⟩
        have hx0 : w2.heap[bx]? = some (.cells C 75 (0, 0)) := by rw [hw2, hbx]; exact heap_alloc_new wr _
        have HRG2 : Hid (w2.rangeAt bx 0 (cellsP p)) := fun i v e => by
          simp [World.cell?, hx0, hC]
          simpa using e
        have HKP := hid_of (dwkeep_is w2 b x L _ (hr.out.kept hk2 (fun _ _ h => h)) p (List.mem_of_getElem? hp) C hC _ rfl)
        have HKT : Hid (keepTo t.B t.W (fun _ => true) (j + 1) = keepB (keepTo t.B t.W (fun _ => true) j) p) := keepTo_succ _ _ _ _ _ hp rfl
        have HPL := hid_of hpf.2.1
        have HRG := hid_of hrg
        have HC := hid_of hC
        have HK2 := hid_of hk2
        clear hpf e1 hrg hC hx0 hk2 hp n1 n2 n3 hcl
        go_wp2_with (first
          | (refine wpList_load_dw rfl (.tmp 14) rfl g (j * 129) rfl p HRG.out HPL.out C HC.out ?_)
          | (refine wpList_alloc_dw rfl rfl ?_)
          | (refine wpList_store_dw rfl (.tmp 4) (.tmp 15) rfl rfl C zeroCW rfl hCs size_zeroCW hC1 ?_; rw [← hw2, ← hbx]; clear hw2 hbx)
          | (refine wpList_load_dw rfl (.tmp 4) rfl bx 0 rfl p HRG2.out HPL.out C HC.out ?_))
        refine HKP.out.mono ?_
        rintro e w5 ⟨rfl, hr5, hk5⟩
        have HR5 : Hid (DwIs w5 b x L { t with B := keepTo t.B t.W (fun _ => true) (j + 1) }) := by rw [HKT.out]; exact hr5
        have HK5 : Hid (Kept (fun k => k = x.gK) w1 w5) := (hk.out.trans (HK2.out.mono (fun _ _ h => h.elim))).trans hk5
        clear hr5 hk5 HKP
        go_wp2_with fail
        exact ⟨⟨j + 1, by omega, by go_num, HR5, HK5⟩, by (simp [intOf]) <;> omega⟩
      · obtain rfl : j = M := by omega
        rw [HM.out] at hr
        have HFO := hid_of (dwforget_is wr b x L _ hr.out (by rw [← HM.out]; exact htW))
        go_wp2_with fail
        refine HFO.out.mono ?_
        rintro e w5 ⟨rfl, hr5, hk5⟩
        obtain ⟨-, -, -, -, -, -, -, -, d8⟩ := hr5.cell
        change _ = some (Value.int .i64 (t.flushes : Int)) at d8
        have f8 := hr5.froz 8
        have HAD := hid_of (aadd_any ⟨b, 8, none⟩ (t.flushes : Int) 1 w5 d8 f8 (by omega) (by omega) (by decide) (by decide))
        have HR5 := hid_of hr5
        have HK5 := hid_of hk5
        clear hr5 hk5 HFO d8 f8
        go_wp2_with fail
        refine HAD.out.mono ?_
        rintro e w6 ⟨rfl, hw6⟩
        have HM6 : Hid (Moved DwAt w w6 b F G s2) := by
          have hke : Kept (fun k => k = b) w5 w6 := by rw [hw6]; exact Kept.setCell _ _ _ rfl
          have hfin := keepTo_fine (s := t) ⟨H0.out.fine.n, H0.out.fine.b256, H0.out.fine.w⟩ (fun _ => true) t.W.length (Nat.le_refl _)
          have hfin2 : (keepTo t.B t.W (fun _ => true) t.W.length).length = t.B.length := hfin.1
          have hb2 : s2.B.length / 128 = t.B.length / 128 := by rw [HS2.out]; show (keepTo t.B t.W (fun _ => true) t.W.length).length / 128 = _; rw [hfin2]
          have hfin3 : DwIs w6 b { x with vW := .slice none 0 0 } (zeroTo t.W L t.W.length) s2 := by
            refine HR5.out.put (s' := s2) (x' := { x with vW := .slice none 0 0 }) hke (by rw [HS2.out]) (by rw [HS2.out]) rfl ?_ (by rw [HS2.out]; exact HR5.out.at1) (HR5.out.at2)
            rw [hw6, heap_setCell_of HR5.out.box, HS2.out]
            rfl
          refine Moved.of (x := x) HR.out.1 HR.out.2.1 HR.out.2.2 hfin3 ?_ (fun k e => .inl (own_nil e)) ?_
          · rw [HLT.out, zeroTo_end, hb2, HS2.out]
          · exact ((((HK1.out.own (fun k e => .inl e)).trans (hk.out.own (fun k e => .inr (.inl e)))).trans (HK5.out.own (fun k e => by rcases e with e | e; exact .inl e; exact .inr (.inr e)))).trans (hke.own (fun k e => .inl e)))
        clear hw6
        go_wp2_with fail
        go_ret
        exact ⟨rfl, HM6.out⟩
  · rw [if_pos (by rw [hd])] at hs2' hR'
    rw [hd] at HS
    subst hR'
    have HS2 := hid_of hs2'
    clear hd hs2'
    go_enter Try.func16, Try.ntmps16
    go_wp2_with fail
    refine HS.out.mono ?_
    rintro e w1 ⟨rfl, h0, hk1⟩
    have HM6 : Hid (Moved DwAt w w1 b F G s2) := by
      rw [HS2.out]
      exact Moved.of (x := x) HR.out.1 HR.out.2.1 HR.out.2.2 h0 HLT.out (fun k e => .inl e) (hk1.own (fun k e => .inl e))
    clear h0 hk1
    go_wp2_with fail
    go_ret
    exact ⟨rfl, HM6.out⟩

end Go.Proofs.Ytjmeneddhalodaa

/- The program's disk: Crash. -/
namespace Go.Proofs.Ytjmeneddhalodaa
set_option linter.unusedVariables false
set_option linter.unusedSimpArgs false
open Go.RowKit Dg

theorem keepTo_past {B : List Nat} {W : List (Nat × List Nat)} {f : Nat → Bool} {m : Nat} (hf : ∀ j, m ≤ j → f j = false) : ∀ j, m ≤ j → keepTo B W f j = keepTo B W f m := by
  intro j hj
  induction j with
  | zero => rw [Nat.le_zero.1 hj]
  | succ j ih =>
    rcases Nat.lt_or_ge j m with h | h
    · rw [show j + 1 = m by omega]
    · rw [keepTo_skip _ _ _ _ (hf j h), ih h]
set_option maxRecDepth 100000 in
set_option maxHeartbeats 4000000 in
theorem dwcrash_any (w : World) (b : Nat) (F G : Nat → Prop) (s : Sk) (h : DwAt w b F G s) (hWl : s.W.length ≤ 100000) (a : Option Addr) (n cap : Nat) (l : List Bool) (hn : l.length = n) (hl : BlAt w a l) (hnl : n ≤ 1000000) (hf : l ≠ [] → ∀ y, a = some y → ¬ F y.block) (s2 : Sk) (hs2 : s2 = s.crashS l) :
    Calls Try.prog 18 #[.pointer (some ⟨b, 0, none⟩), .slice a n cap] w fun e w' => e = .returned (.tuple #[]) ∧ Moved DwAt w w' b F G s2 := by
  obtain ⟨x, h0, h1, h2, h3⟩ := h
  obtain ⟨L, hL⟩ : ∃ L, L = lastI s.W (s.B.length / 128) := ⟨_, rfl⟩
  rw [← hL] at h0
  have HR : Hid ((∀ k, x.own b k → F k) ∧ (∀ k, F k → G k) ∧ ∀ k, G k → k < w.heap.size) := ⟨h1, h2, h3⟩
  have H0 := hid_of h0
  obtain ⟨-, c1, -⟩ := h0.cell
  obtain ⟨wa, wc, hv, -⟩ := h0.form
  obtain ⟨M, hM⟩ : ∃ M, M = s.W.length := ⟨_, rfl⟩
  rw [hv, ← hM] at c1
  rw [← hM] at hWl
  have HM := hid_of hM
  have HV := hid_of hv
  have HLI := hid_of hL
  have HBL := hid_of hl
  have HN := hid_of hn
  have HF : Hid (l ≠ [] → ∀ y, a = some y → ¬ F y.block) := hf
  obtain ⟨f, hff⟩ : ∃ f : Nat → Bool, f = fun j => l.getD j false := ⟨_, rfl⟩
  have hs2' : s2 = { s with B := keepTo s.B s.W f s.W.length, W := [], dead := false, stop := none } := by rw [hs2, hff]; rfl
  have HS2 := hid_of hs2'
  have HFF := hid_of hff
  obtain ⟨m, hm⟩ : ∃ m, (n ≤ M ∧ m = n) ∨ (M < n ∧ m = M) := ⟨min n M, by omega⟩
  have HKE : Hid (m ≤ M ∧ m ≤ n ∧ keepTo s.B s.W f s.W.length = keepTo s.B s.W f m) := by
    refine ⟨by omega, by omega, ?_⟩
    rcases hm with ⟨e1, e2⟩ | ⟨e1, e2⟩
    · refine keepTo_past (fun j hj => ?_) _ (by omega)
      rw [hff]
      simp [List.getD, List.getElem?_eq_none (by omega : l.length ≤ j)]
    · rw [e2, hM]
  clear h0 h1 h2 h3 hL hM hv hl hn hf hs2 hs2' hff
  have hnm : n ≤ 1000000 ∧ M ≤ 100000 := ⟨hnl, hWl⟩
  rcases hm with ⟨e1, rfl⟩ | ⟨e1, rfl⟩
  all_goals
    go_enter Try.func18, Try.ntmps18
    go_wp2_with fail
    go_loopw [13] (fun v ws => ∃ j : Nat, j ≤ m ∧ v = .int .i64 (j : Int) ∧ Hid (DwIs ws b x L { s with B := keepTo s.B s.W f j }) ∧ Hid (Kept (fun k => k = x.gK) w ws)) (fun v _ => m - (intOf v).toNat)
    case atStart => exact ⟨0, Nat.zero_le _, rfl, H0.out, Kept.refl _ _⟩
    case round =>
      obtain ⟨j, hj, rfl, hr, hk⟩ := hrel
      by_cases hjm : j < m
      · have hjM := Nat.lt_of_lt_of_le hjm HKE.out.1
        have hjn := Nat.lt_of_lt_of_le hjm HKE.out.2.1
        obtain ⟨u, hu⟩ : ∃ u, l[j]? = some u := ⟨_, List.getElem?_eq_getElem (by rw [HN.out]; exact hjn)⟩
        have hne : l ≠ [] := fun e => by rw [e] at hu; simp at hu
        obtain ⟨kb, ko, rfl, hkc⟩ := (HBL.out.kept hk.out (fun _ y hy e => HF.out hne y hy (HR.out.1 _ (.inr (.inl e))))) j u hu
        have hfx : f j = u := by rw [HFF.out]; simp [List.getD, hu]
        cases u with
        | true =>
          obtain ⟨p, hp⟩ : ∃ p, s.W[j]? = some p := ⟨s.W[j]'(by rw [← HM.out]; exact hjM), List.getElem?_eq_getElem _⟩
          obtain ⟨g, c, e1', hrg, hgl, n1, n2, n3, hcl⟩ := hr.out.range hp
          obtain ⟨rfl, rfl⟩ : wa = some ⟨g, 0, none⟩ ∧ wc = c := by
            rw [HV.out] at e1'
            simp only [Value.slice.injEq] at e1'
            exact ⟨e1'.1, e1'.2.2⟩
          have d1 := hr.out.cell.2.1
          rw [HV.out, ← HM.out] at d1
          have hpf := hr.out.fine.w p (List.mem_of_getElem? hp)
          obtain ⟨C, hC⟩ : ∃ C, C = (cellsP p).toArray := ⟨_, rfl⟩
          have HKP := hid_of (dwkeep_is wr b x L _ hr.out p (List.mem_of_getElem? hp) C hC _ rfl)
          have HKT : Hid (keepTo s.B s.W f (j + 1) = keepB (keepTo s.B s.W f j) p) := keepTo_succ _ _ _ _ _ hp hfx
          have HPL := hid_of hpf.2.1
          have HRG := hid_of hrg
          have HC := hid_of hC
          clear hpf e1' hrg hC hp n1 n2 n3 hcl hu hfx hne
          go_wp2_with (refine wpList_load_dw rfl (.tmp 26) rfl g (j * 129) rfl p HRG.out HPL.out C HC.out ?_)
          refine HKP.out.mono ?_
          rintro e w5 ⟨rfl, hr5, hk5⟩
          have HR5 : Hid (DwIs w5 b x L { s with B := keepTo s.B s.W f (j + 1) }) := by rw [HKT.out]; exact hr5
          have HK5 : Hid (Kept (fun k => k = x.gK) w w5) := hk.out.trans hk5
          clear hr5 hk5 HKP
          go_wp2_with fail
          exact ⟨⟨j + 1, by omega, by go_num, HR5, HK5⟩, by (simp [intOf]) <;> omega⟩
        | false =>
          have HR5 : Hid (DwIs wr b x L { s with B := keepTo s.B s.W f (j + 1) }) := by rw [keepTo_skip _ _ _ _ hfx]; exact hr.out
          clear hu hfx hne
          go_wp2_with fail
          exact ⟨⟨j + 1, by omega, by go_num, HR5, hk⟩, by (simp [intOf]) <;> omega⟩
      · obtain rfl : j = m := by omega
        have HFO := hid_of (dwforget_is wr b x L _ hr.out (by rw [← HM.out]; exact hnm.2))
        go_wp2_with fail
        refine HFO.out.mono ?_
        rintro e w5 ⟨rfl, hr5, hk5⟩
        obtain ⟨-, -, -, d3, d4, d5, -⟩ := hr5.cell
        have f3 := hr5.froz 3
        have f4 := hr5.froz 4
        have f5 := hr5.froz 5
        have HM6 : Hid (Moved DwAt w (((w5.setCell ⟨b, 3, none⟩ (.bool false)).setCell ⟨b, 4, none⟩ (.int .i64 0)).setCell ⟨b, 5, none⟩ (.bool false)) b F G s2) := by
          obtain ⟨w6, hw6⟩ : ∃ w6, w6 = ((w5.setCell ⟨b, 3, none⟩ (.bool false)).setCell ⟨b, 4, none⟩ (.int .i64 0)).setCell ⟨b, 5, none⟩ (.bool false) := ⟨_, rfl⟩
          rw [← hw6]
          have hke : Kept (fun k => k = b) w5 w6 := by rw [hw6]; exact ((Kept.setCell (F := fun k => k = b) _ _ _ rfl).trans (Kept.setCell _ _ _ rfl)).trans (Kept.setCell _ _ _ rfl)
          have hfin := (keepTo_fine (s := s) ⟨H0.out.fine.n, H0.out.fine.b256, H0.out.fine.w⟩ f s.W.length (Nat.le_refl _)).1
          have hb2 : s2.B.length / 128 = s.B.length / 128 := by rw [HS2.out]; show (keepTo s.B s.W f s.W.length).length / 128 = _; rw [hfin]
          have hsB : s2.B = keepTo s.B s.W f j := by rw [HS2.out]; exact HKE.out.2.2
          have hfin3 : DwIs w6 b { { x with vW := .slice none 0 0 } with left := 0 } (zeroTo s.W L s.W.length) s2 := by
            refine hr5.put (s' := s2) (x' := { { x with vW := .slice none 0 0 } with left := 0 }) hke hsB (by rw [HS2.out]) rfl ?_ (by rw [HS2.out]; intro k e; cases e) ⟨by show (0 : Int) ≤ 0; decide, by show (0 : Int) ≤ 9223372036854775807; decide⟩
            rw [hw6, heap_setCell_of (heap_setCell_of (heap_setCell_of hr5.box _) _) _, HS2.out]
            rfl
          refine Moved.of (x := x) HR.out.1 HR.out.2.1 HR.out.2.2 hfin3 ?_ (fun k e => .inl (own_nil e)) ?_
          · rw [HLI.out, zeroTo_end, hb2, HS2.out]
          · exact ((hk.out.own (fun k e => .inr (.inl e))).trans (hk5.own (fun k e => by rcases e with e | e; exact .inl e; exact .inr (.inr e)))).trans (hke.own (fun k e => .inl e))
        clear hr5 hk5 HFO
        go_wp2_with fail
        go_end0
        exact ⟨rfl, HM6.out⟩

end Go.Proofs.Ytjmeneddhalodaa

/- The program's disk: Poke. -/
namespace Go.Proofs.Ytjmeneddhalodaa
set_option linter.unusedVariables false
set_option linter.unusedSimpArgs false
open Go.RowKit Dg

theorem cellsV_set : ∀ {W : List (Nat × List Nat)}, (∀ p ∈ W, p.2.length = 128) → ∀ (j : Nat) (p : Nat × List Nat), W[j]? = some p → ∀ (i y : Nat), i < 128 → cellsV (W.set j (p.1, p.2.set i y)) = (cellsV W).set (j * 129 + 1 + i) (.int .u8 (y : Int))
  | [], _, j, p, h, _, _, _ => by simp at h
  | q :: W, hW, 0, p, h, i, y, hi => by
    simp at h
    subst h
    have h2 := length_cellsP (hW _ (List.mem_cons_self ..))
    unfold cellsV
    rw [List.set_cons_zero, List.flatMap_cons, List.flatMap_cons, Nat.zero_mul, Nat.zero_add, List.set_append_left _ _ (by rw [h2]; omega)]
    congr 1
    unfold cellsP
    rw [Nat.add_comm, List.set_cons_succ]
    simp [u8s]
  | q :: W, hW, j + 1, p, h, i, y, hi => by
    have h1 := cellsV_set (W := W) (fun q hq => hW q (List.mem_cons_of_mem _ hq)) j p (by simpa using h) i y hi
    have h2 := length_cellsP (hW q (List.mem_cons_self ..))
    unfold cellsV at h1 ⊢
    rw [List.set_cons_succ, List.flatMap_cons, List.flatMap_cons, h1, List.set_append_right _ _ (by rw [h2]; omega), h2, show (j + 1) * 129 + 1 + i - 129 = j * 129 + 1 + i by omega]
/-- A byte of a write that waits is turned. -/
theorem DwIs.setW {w : World} {b : Nat} {x : DwB} {L : List Int} {s : Sk} (h : DwIs w b x L s) {j : Nat} {p : Nat × List Nat} (hp : s.W[j]? = some p) (g c : Nat) (hv : x.vW = .slice (some ⟨g, 0, none⟩) s.W.length c) (i y : Nat) (hi : i < 128) (hy : y < 256) :
    DwIs (w.setCell ⟨g, j * 129 + 1 + i, none⟩ (.int .u8 (y : Int))) b x L { s with W := s.W.set j (p.1, p.2.set i y) } := by
  have hne := h.ne2
  rw [hv] at hne
  have n1 : g ≠ b := fun e => hne.1 (by rw [← e]; rfl)
  have n2 : g ≠ x.gK := fun e => hne.2.1 (by rw [← e]; rfl)
  have n3 : g ≠ x.gL := fun e => hne.2.2 (by rw [← e]; rfl)
  have hk : Kept (fun k => k = g) w (w.setCell ⟨g, j * 129 + 1 + i, none⟩ (.int .u8 (y : Int))) := Kept.setCell _ _ _ rfl
  have h128 : ∀ p ∈ s.W, p.2.length = 128 := fun p hp => (h.fine.w p hp).2.1
  have hws := h.ws
  refine ⟨?_, ownsRow_other h.bs hk (fun k e => by cases e; exact fun e => n2 e.symm), ownsRow_other h.ls hk (fun k e => by cases e; exact fun e => n3 e.symm), ?_, h.at1, h.at2, ⟨h.fine.n, h.fine.b256, fun q hq => ?_⟩, h.ne1, h.ne2⟩
  · rw [hk.block b (Array.getElem?_eq_some_iff.1 h.box).1 (fun e => n1 e.symm)]
    exact h.box
  · show World.ownsRow _ _ _ _ _ (s.W.set j _).length _
    rw [List.length_set, cellsV_set h128 j p hp i y hi, hv]
    rw [hv] at hws
    exact ownsRow_setk hws _ _
  · obtain ⟨f1, f2, f3⟩ := h.fine.w p (List.mem_of_getElem? hp)
    rcases List.mem_or_eq_of_mem_set hq with e | e
    · exact h.fine.w q e
    · rw [e]
      refine ⟨f1, by show (p.2.set i y).length = 128; rw [List.length_set]; exact f2, fun z hz => ?_⟩
      rcases List.mem_or_eq_of_mem_set hz with e2 | e2
      · exact f3 z e2
      · rw [e2]; exact hy
set_option maxRecDepth 100000 in
set_option maxHeartbeats 4000000 in
theorem dwturn_any (w : World) (g o c D0 dq mk x y : Nat) (hdq : dq = D0 / 8) (hD : D0 < 1024) (hmk : mk = maskOf D0) (hc : w.cell? ⟨g, o + dq, none⟩ = some (.int .u8 (x : Int))) (hfz : w.frozen? ⟨g, o + dq, none⟩ = false) (hx : x < 256) (hy : y = x ^^^ mk) :
    Calls Try.prog 43 #[.slice (some ⟨g, o, none⟩) 128 c, .int .i64 (D0 : Int)] w fun e w' => e = .returned (.tuple #[]) ∧ w' = w.drew.setCell ⟨g, o + dq, none⟩ (.int .u8 (y : Int)) := by
  have hdq' : (D0 : Int) / 8 = (dq : Int) := by omega
  have hdq8 : dq < 128 := by omega
  have hmk' : (128 : Int) / 2 ^ (D0 % 8) = (mk : Int) := by rw [hmk]; unfold maskOf; push_cast; rfl
  have hmkl : mk < 256 := by rw [hmk]; exact maskOf_lt _
  have hxy : bits BinOp.xor IntKind.u8 (x : Int) (mk : Int) = (y : Int) := by rw [hy]; exact u8_xor_nat _ _ hx hmkl
  clear hdq hmk hy
  go_enter Try.func43, Try.ntmps43
  go_region
  all_goals
    go_wp2_with fail
    go_end0
    exact ⟨rfl, rfl⟩
set_option maxRecDepth 100000 in
set_option maxHeartbeats 4000000 in
theorem dwpoke_any (w : World) (b : Nat) (F G : Nat → Prop) (s : Sk) (h : DwAt w b F G s) (i dg : Int) (hi : I64 i) (hdg : I64 dg) (hWl : s.W.length ≤ 100000) (R : Bool) (hR : R = decide (s.pokes i dg)) (s2 : Sk) (hs2 : s2 = s.pokeS i dg) :
    Calls Try.prog 22 #[.pointer (some ⟨b, 0, none⟩), .int .i64 i, .int .i64 dg] w fun e w' => e = .returned (.bool R) ∧ Moved DwAt w w' b F G s2 := by
  obtain ⟨x, h0, h1, h2, h3⟩ := h
  obtain ⟨L, hL⟩ : ∃ L, L = lastI s.W (s.B.length / 128) := ⟨_, rfl⟩
  rw [← hL] at h0
  have HR : Hid ((∀ k, x.own b k → F k) ∧ (∀ k, F k → G k) ∧ ∀ k, G k → k < w.heap.size) := ⟨h1, h2, h3⟩
  have H0 := hid_of h0
  have HLI := hid_of hL
  have HH := hid_of (dwhas_is w b x L s h0 i hi _ rfl)
  obtain ⟨hd1, hd2⟩ := hdg
  by_cases hpk : s.pokes i dg
  · obtain ⟨hfit, hdg0, hdg1⟩ := hpk
    obtain ⟨k, rfl, hk⟩ := hfit.nat
    have hroom := hfit.room
    obtain ⟨D0, rfl⟩ : ∃ D0 : Nat, dg = (D0 : Int) := ⟨dg.toNat, by omega⟩
    have hs2' : s2 = { s with B := flipB s.B (k * 128 + D0 / 8) (maskOf D0), W := s.W.map (pokeW k D0) } := by
      rw [hs2]; unfold Sk.pokeS; rw [if_pos ⟨hfit, hdg0, hdg1⟩]; rfl
    have hR' : R = true := by rw [hR]; exact decide_eq_true ⟨hfit, hdg0, hdg1⟩
    subst hR'
    rw [decide_eq_true hfit] at HH
    obtain ⟨lo, hlo⟩ : ∃ lo, lo = k * 128 := ⟨_, rfl⟩
    obtain ⟨cc, hcc⟩ : ∃ cc, cc = x.cK - lo := ⟨_, rfl⟩
    have HSE := hid_of (dwsector_is w b x L s h0 k hroom lo cc hlo hcc)
    obtain ⟨dq, hdq⟩ : ∃ dq, dq = D0 / 8 := ⟨_, rfl⟩
    have hdq8 : dq < 128 := by omega
    obtain ⟨mk, hmk⟩ : ∃ mk, mk = maskOf D0 := ⟨_, rfl⟩
    have hmkl : mk < 256 := by rw [hmk]; exact maskOf_lt _
    have heN : lo + dq < s.B.length := by omega
    obtain ⟨z, hz⟩ : ∃ z, s.B[lo + dq]? = some z := ⟨_, List.getElem?_eq_getElem heN⟩
    have hz256 : z < 256 := h0.fine.b256 z (List.mem_of_getElem? hz)
    obtain ⟨hg1, hg2⟩ := own_cell h0.bs hz
    obtain ⟨y, hy⟩ : ∃ y, y = z ^^^ mk := ⟨_, rfl⟩
    have HT := hid_of (dwturn_any w x.gK lo cc D0 dq mk z y hdq (by omega) hmk hg1 hg2 hz256 hy)
    obtain ⟨t, ht⟩ : ∃ t, t = { s with B := flipB s.B (k * 128 + D0 / 8) (maskOf D0) } := ⟨_, rfl⟩
    have hB2 : flipB s.B (k * 128 + D0 / 8) (maskOf D0) = s.B.set (lo + dq) y := by rw [hy, hlo, hdq, hmk]; unfold flipB; rw [← hlo, ← hdq, List.getD_eq_getElem?_getD, hz]; rfl
    have HD1 : Hid (DwIs (w.drew.setCell ⟨x.gK, lo + dq, none⟩ (.int .u8 (y : Int))) b x L t) := by
      have hks : Kept (fun k => k = x.gK) w.drew (w.drew.setCell ⟨x.gK, lo + dq, none⟩ (.int .u8 (y : Int))) := Kept.setCell _ _ _ rfl
      have hkd : Kept (fun _ => False) w w.drew := (Kept.refl _ _).drew
      rw [ht]
      refine (h0.kept hkd (fun _ _ h => h)).putB hks _ (length_flipB _ _ _) (flipB_lt h0.fine.b256 _ _ (maskOf_lt _)) ?_
      rw [hB2]
      exact own_set (h0.kept hkd (fun _ _ h => h)).bs (lo + dq) y heN
    have HKT : Hid (Kept (x.own b) w (w.drew.setCell ⟨x.gK, lo + dq, none⟩ (.int .u8 (y : Int)))) := ((Kept.refl _ _).drew.trans (Kept.setCell (F := fun k => k = x.gK) _ _ _ rfl)).own (fun k e => .inr (.inl e))
    obtain ⟨w1, hw1⟩ : ∃ w1, w1 = w.drew.setCell ⟨x.gK, lo + dq, none⟩ (.int .u8 (y : Int)) := ⟨_, rfl⟩
    rw [← hw1] at HT HD1 HKT
    have htW : t.W = s.W := by rw [ht]
    have hs3 : s2 = { t with W := t.W.map (pokeW k D0) } := by rw [hs2', ht]
    obtain ⟨wa, wc, hv, -⟩ := h0.form
    obtain ⟨M, hM⟩ : ∃ M, M = s.W.length := ⟨_, rfl⟩
    have HM : Hid (M = t.W.length) := by show _ = _; rw [htW, hM]
    have HV : Hid (x.vW = .slice wa M wc) := by show _ = _; rw [hv, hM]
    have c1 := HD1.out.cell.2.1
    rw [HV.out] at c1
    have HMK := hid_of hmk
    have HDQ := hid_of hdq
    have HS3 := hid_of hs3
    have HTB : Hid (t.B.length = s.B.length ∧ t.W = s.W) := by show _ ∧ _; rw [ht]; exact ⟨length_flipB _ _ _, rfl⟩
    have hkl : k ≤ 4096 := by have := h0.fine.le; omega
    rw [← hM] at hWl
    have hd0 : decide ((D0 : Int) < 0) = false := decide_eq_false (by omega)
    have hd8 : decide ((1024 : Int) ≤ (D0 : Int)) = false := decide_eq_false (by omega)
    clear hR hs2 hfit h0 h1 h2 h3 hs2' hlo hcc hdq hmk hz hy hg1 hg2 hB2 ht hM hv hL hs3 htW hk hroom heN hz256
    go_enter Try.func22, Try.ntmps22
    go_wp2_with fail
    refine HH.out.mono ?_
    rintro e w0 ⟨rfl, rfl⟩
    go_wp2_with fail
    refine HSE.out.mono ?_
    rintro e w0 ⟨rfl, rfl⟩
    go_wp2_with fail
    refine HT.out.mono ?_
    rintro e w0 ⟨rfl, rfl⟩
    clear hw1 HH HSE HT
    go_wp2_with fail
    go_loopw [30] (fun v ws => ∃ j : Nat, j ≤ M ∧ v = .int .i64 (j : Int) ∧ Hid (DwIs ws b x L { t with W := pokeTo t.W k D0 j }) ∧ Hid (Kept (x.own b) w ws)) (fun v _ => M - (intOf v).toNat)
    case atStart => exact ⟨0, Nat.zero_le _, rfl, by show DwIs _ _ _ _ _; rw [pokeTo_zero]; exact HD1.out, HKT⟩
    case round =>
      obtain ⟨j, hj, rfl, hr, hkp⟩ := hrel
      by_cases hjM : j < M
      · obtain ⟨p, hp⟩ : ∃ p, t.W[j]? = some p := ⟨t.W[j]'(by rw [← HM.out]; exact hjM), List.getElem?_eq_getElem _⟩
        have hp' : (pokeTo t.W k D0 j)[j]? = some p := by rw [pokeTo_get (by rw [← HM.out]; exact hjM)]; exact hp
        obtain ⟨g, c, e1, hrg, hgl, n1, n2, n3, hcl⟩ := hr.out.range hp'
        have hml : (pokeTo t.W k D0 j).length = M := by rw [length_pokeTo, ← HM.out]
        change x.vW = .slice (some ⟨g, 0, none⟩) (pokeTo t.W k D0 j).length c at e1
        rw [hml] at e1
        obtain ⟨rfl, rfl⟩ : wa = some ⟨g, 0, none⟩ ∧ wc = c := by
          rw [HV.out] at e1
          simp only [Value.slice.injEq] at e1
          exact ⟨e1.1, e1.2.2⟩
        have hpf := hr.out.fine.w p (List.mem_of_getElem? hp')
        have hp2 := hpf.2.1
        have hp3 := hpf.2.2
        have d1 := hr.out.cell.2.1
        rw [HV.out] at d1
        obtain ⟨q, hq⟩ : ∃ q, q = p.1 := ⟨_, rfl⟩
        have hq0 : wr.cell? ⟨g, j * 129, none⟩ = some (.int .i64 (q : Int)) := by
          have e := hrg 0 _ (show (cellsP p)[0]? = some (.int .i64 (p.1 : Int)) from rfl)
          rw [hq]; exact e
        have hq1 : q ≤ 10000 := by have e2 := hpf.1; have e3 := hr.out.fine.le; omega
        have HSU : Hid (pokeTo t.W k D0 (j + 1) = (pokeTo t.W k D0 j).set j (pokeW k D0 p)) := pokeTo_succ hp
        by_cases hqk : q = k
        · obtain ⟨x2, hx2⟩ : ∃ x, p.2[dq]? = some x := ⟨_, List.getElem?_eq_getElem (by rw [hp2]; exact hdq8)⟩
          have hx2l : x2 < 256 := hp3 x2 (List.mem_of_getElem? hx2)
          obtain ⟨y2, hy2⟩ : ∃ y, y = x2 ^^^ mk := ⟨_, rfl⟩
          have hy2l : y2 < 256 := by rw [hy2]; exact xor_lt256 hx2l hmkl
          have hpw : pokeW k D0 p = (p.1, p.2.set dq y2) := by
            unfold pokeW
            rw [if_pos (by rw [← hq]; exact hqk), ← HDQ.out, ← HMK.out]
            unfold flipB
            rw [List.getD_eq_getElem?_getD, hx2, hy2]; rfl
          have hcx : wr.cell? ⟨g, j * 129 + 1 + dq, none⟩ = some (.int .u8 (x2 : Int)) := by
            have e := hrg (1 + dq) (.int .u8 (x2 : Int)) (by unfold cellsP; rw [Nat.add_comm, List.getElem?_cons_succ, u8s_get, hx2]; rfl)
            rw [show j * 129 + 1 + dq = j * 129 + (1 + dq) by omega]; exact e
          have hfz : wr.frozen? ⟨g, j * 129 + 1 + dq, none⟩ = false := by
            have hws := hr.out.ws
            rw [HV.out] at hws
            rcases hws.2 with ⟨e, _⟩ | ⟨g', cap, cur, e, _, hh, -⟩
            · cases e
            · cases e; simp [World.frozen?, hh]
          have HT := hid_of (dwturn_any wr g (j * 129 + 1) 128 D0 dq mk x2 y2 HDQ.out (by omega) HMK.out hcx hfz hx2l hy2)
          have HEND : Hid (DwIs (wr.drew.setCell ⟨g, j * 129 + 1 + dq, none⟩ (.int .u8 (y2 : Int))) b x L { t with W := pokeTo t.W k D0 (j + 1) } ∧ Kept (x.own b) w (wr.drew.setCell ⟨g, j * 129 + 1 + dq, none⟩ (.int .u8 (y2 : Int)))) := by
            refine ⟨?_, hkp.out.trans ((Kept.refl _ _).drew.trans (Kept.setCell _ _ _ (.inr (.inr (.inr (by rw [HV.out]; rfl))))))⟩
            rw [HSU.out, hpw]
            exact (hr.out.kept (X := fun _ => False) (Kept.refl _ _).drew (fun _ _ h => h)).setW hp' g wc (by rw [HV.out]; show _ = Value.slice _ (pokeTo t.W k D0 j).length _; rw [hml]) dq y2 hdq8 hy2l
          have hsl := slice_arr g (j * 129 + 1)
          clear hp hp' e1 hrg hgl n1 n2 n3 hcl hml hpf hp2 hp3 hq hx2 hx2l hy2 hy2l hpw hcx hfz
          subst hqk
          go_wp2_with fail
          refine HT.out.mono ?_
          rintro e w5 ⟨rfl, hw5⟩
          rw [← hw5] at HEND
          clear hw5 HT
          go_wp2_with fail
          exact ⟨⟨j + 1, by omega, by go_num, HEND.out.1, HEND.out.2⟩, by (simp [intOf]) <;> omega⟩
        · have hpw : pokeW k D0 p = p := by unfold pokeW; rw [if_neg (by rw [← hq]; exact hqk)]
          have HRK : Hid (DwIs wr b x L { t with W := pokeTo t.W k D0 (j + 1) }) := by
            have e : (pokeTo t.W k D0 j).set j p = pokeTo t.W k D0 j := by
              rw [List.getElem?_eq_some_iff] at hp'
              obtain ⟨h5, h6⟩ := hp'
              rw [← h6]
              exact List.set_getElem_self h5
            rw [HSU.out, hpw, e]
            exact hr.out
          have hne : ((q : Int) == (k : Int)) = false := beq_eq_false_iff_ne.2 (by omega)
          clear hp hp' e1 hrg hgl n1 n2 n3 hcl hml hpf hp2 hp3 hq hpw
          go_wp2_with fail
          exact ⟨⟨j + 1, by omega, by go_num, HRK, hkp⟩, by (simp [intOf]) <;> omega⟩
      · obtain rfl : j = M := by omega
        have HM6 : Hid (Moved DwAt w wr b F G s2) := by
          have hfin : DwIs wr b x L s2 := by
            have e := hr.out
            rw [HM.out, pokeTo_all] at e
            rw [HS3.out]; exact e
          refine Moved.of (x := x) HR.out.1 HR.out.2.1 HR.out.2.2 hfin ?_ (fun k e => .inl e) hkp.out
          rw [HLI.out, HS3.out]
          show _ = lastI (t.W.map (pokeW k D0)) (t.B.length / 128)
          rw [lastI_map t.W (pokeW k D0) (fun p => by unfold pokeW; split <;> rfl), HTB.out.1, HTB.out.2]
        go_wp2_with fail
        go_ret
        exact ⟨rfl, HM6.out⟩
  · have hs2' : s2 = s := by rw [hs2]; unfold Sk.pokeS; rw [if_neg hpk]
    have hR' : R = false := by rw [hR]; exact decide_eq_false hpk
    subst hR'
    rw [hs2']
    have HM6 : Hid (Moved DwAt w w b F G s) := Moved.of (x := x) h1 h2 h3 h0 hL (fun k e => .inl e) (Kept.refl _ _)
    have hcase : ¬ s.fits i ∨ (s.fits i ∧ dg < 0) ∨ (s.fits i ∧ 0 ≤ dg ∧ 1024 ≤ dg) := by
      unfold Sk.pokes at hpk
      by_cases hf : s.fits i
      · by_cases h5 : dg < 0
        · exact .inr (.inl ⟨hf, h5⟩)
        · exact .inr (.inr ⟨hf, by omega, Decidable.byContradiction fun h6 => hpk ⟨hf, by omega, by omega⟩⟩)
      · exact .inl hf
    clear h0 h1 h2 h3 hpk hs2 hs2' hR hL
    rcases hcase with hf | ⟨hf, h3⟩ | ⟨hf, h3, h4⟩
    · rw [decide_eq_false hf] at HH
      clear hf
      go_enter Try.func22, Try.ntmps22
      go_wp2_with fail
      refine HH.out.mono ?_
      rintro e w0 ⟨rfl, rfl⟩
      go_wp2_with fail
      go_ret
      exact ⟨rfl, HM6.out⟩
    · rw [decide_eq_true hf] at HH
      have hb : decide (dg < 0) = true := decide_eq_true h3
      clear hf
      go_enter Try.func22, Try.ntmps22
      go_wp2_with fail
      refine HH.out.mono ?_
      rintro e w0 ⟨rfl, rfl⟩
      go_wp2_with fail
      go_ret
      exact ⟨rfl, HM6.out⟩
    · rw [decide_eq_true hf] at HH
      have hb : decide (dg < 0) = false := decide_eq_false (by omega)
      have hb2 : decide (1024 ≤ dg) = true := decide_eq_true h4
      clear hf
      go_enter Try.func22, Try.ntmps22
      go_wp2_with fail
      refine HH.out.mono ?_
      rintro e w0 ⟨rfl, rfl⟩
      go_wp2_with fail
      go_ret
      exact ⟨rfl, HM6.out⟩

end Go.Proofs.Ytjmeneddhalodaa
