/- The texts DwP9, DwPA, DwPB, one behind the other. -/
import Derived.Test.YtjmeneddhalodaaPart07
import Derived.Great.BuildSlice
import Derived.Maps.AppendAt
import Derived.Deep.CutRange
import Derived.Deep.RegionHeld
import Derived.Test.YtjmeneddhalodaaPart03

/- The program's disk: Read. -/
namespace Go.Proofs.Ytjmeneddhalodaa
set_option linter.unusedVariables false
set_option linter.unusedSimpArgs false
open Go.RowKit Dg

/-- The bytes of a write that lie in the list. -/
theorem bs_of_range {w : World} {g off : Nat} {p : Nat × List Nat} (h : w.rangeAt g off (cellsP p)) (hp : p.2.length = 128) : Bs w (some ⟨g, off + 1, none⟩) 128 p.2 := by
  refine ⟨⟨some ⟨g, off + 1, none⟩, 128, rfl, fun j y hy => ⟨g, off + 1, rfl, ?_⟩⟩, by rw [hp]; decide, fun e => by cases e⟩
  have e := h (1 + j) (.int .u8 (y : Int)) (by unfold cellsP; rw [Nat.add_comm, List.getElem?_cons_succ, u8s_get, hy]; rfl)
  rw [show off + 1 + j = off + (1 + j) by omega]
  exact e
set_option maxRecDepth 100000 in
set_option maxHeartbeats 4000000 in
theorem dwread_any (w : World) (b : Nat) (F G : Nat → Prop) (s : Sk) (h : DwAt w b F G s) (i : Int) (hi : I64 i) (hc : s.reads ≤ 1000000) (hWl : s.W.length ≤ 100000) (R : List Nat × Int) (hR : R = s.readR i) :
    Calls Try.prog 15 #[.pointer (some ⟨b, 0, none⟩), .int .i64 i] w fun e w' => ∃ v, e = .returned (.tuple #[v, .int .i64 R.2]) ∧ WholeB w' w.heap.size v R.1 ∧ ∃ F' G' : Nat → Prop, DwAt w' b F' G' (s.readS i) ∧ Kept F w w' ∧ Sub F' F w.heap.size ∧ Sub G' G w.heap.size ∧ ∀ k, v.ownBlock = some k → ¬ G' k := by
  have HA := hid_of h
  obtain ⟨x, h0, h1, h2, h3⟩ := h
  have HH := hid_of (dwhas_is w b x _ s h0 i hi _ rfl)
  have HR : Hid ((∀ k, x.own b k → F k) ∧ (∀ k, F k → G k) ∧ ∀ k, G k → k < w.heap.size) := ⟨h1, h2, h3⟩
  obtain ⟨hi1, hi2⟩ := hi
  by_cases hfit : s.fits i
  · rw [decide_eq_true hfit] at HH
    unfold Sk.readR at hR
    rw [if_neg (fun x => x hfit)] at hR
    have c5 := h0.cell.2.2.2.2.2.1
    rcases hd : s.dead with _ | _
    · obtain ⟨k, rfl, hk⟩ := hfit.nat
      have hroom := hfit.room
      obtain ⟨s1, hs1⟩ : ∃ s1, s1 = s.readS (k : Int) := ⟨_, rfl⟩
      have hs2 : s1 = { s with reads := s.reads + 1 } := by rw [hs1]; unfold Sk.readS; rw [if_pos ⟨hfit, hd⟩]
      rw [← hs1]
      rw [hd] at hR c5
      simp only [Bool.false_eq_true, if_false] at hR
      rw [Int.toNat_natCast] at hR
      have c6 := h0.cell.2.2.2.2.2.2.1
      have f6 := h0.froz 6
      have HAD := hid_of (aadd_any ⟨b, 6, none⟩ (s.reads : Int) 1 w c6 f6 (by omega) (by omega) (by decide) (by decide))
      obtain ⟨w6, hw6⟩ : ∃ w6, w6 = w.setCell ⟨b, 6, none⟩ (.int .i64 ((s.reads : Int) + 1)) := ⟨_, rfl⟩
      rw [← hw6] at HAD
      have hk6 : Kept (fun k => k = b) w w6 := by rw [hw6]; exact Kept.setCell _ _ _ rfl
      have hL1 : lastI s.W (s.B.length / 128) = lastI s1.W (s1.B.length / 128) := by rw [hs2]
      have H6 : Hid (DwIs w6 b x (lastI s1.W (s1.B.length / 128)) s1) := by
        rw [← hL1]
        refine h0.put (s' := s1) hk6 (by rw [hs2]) (by rw [hs2]) rfl ?_ (by rw [hs2]; exact h0.at1) h0.at2
        rw [hw6, heap_setCell_of h0.box, hs2]
        rfl
      have HW1 : Hid (s1.W = s.W ∧ s1.B = s.B) := by rw [hs2]; exact ⟨rfl, rfl⟩
      have HEND : Hid (∀ w2 v, WholeB w2 w6.heap.size v (s.now k) → Kept (fun _ => False) w6 w2 → WholeB w2 w.heap.size v R.1 ∧ ∃ F' G' : Nat → Prop, DwAt w2 b F' G' s1 ∧ Kept F w w2 ∧ Sub F' F w.heap.size ∧ Sub G' G w.heap.size ∧ ∀ k, v.ownBlock = some k → ¬ G' k) := fun w2 v e1 e2 => by
        refine ⟨by rw [hR]; exact e1.base hk6.size, F, G, ⟨x, H6.out.kept e2 (fun _ _ h => h), HR.out.1, HR.out.2.1, fun k e => Nat.lt_of_lt_of_le (HR.out.2.2 k e) (Nat.le_trans hk6.size e2.size)⟩, (hk6.mono (fun k _ e => HR.out.1 k (.inl e))).trans (e2.mono (fun _ _ h => h.elim)), Sub.refl _ _, Sub.refl _ _, fun k e e3 => ?_⟩
        have := (World.ownsRow.lt e1.own k e).1
        have h4 := HR.out.2.2 k e3
        have := hk6.size
        omega
      have hR2 : R.2 = 0 := by rw [hR]
      have HR2 := hid_of hR2
      obtain ⟨n, hn⟩ : ∃ n, n = s.B.length / 128 := ⟨_, rfl⟩
      have hkn : k < n := by rw [hn]; exact hk
      have hnl : n ≤ 4096 := by have := h0.fine.le; omega
      obtain ⟨N, hN⟩ : ∃ N, N = lastN s.W k s.W.length := ⟨_, rfl⟩
      have hNM : N ≤ s.W.length := by rw [hN]; exact lastN_le _ _ _
      have hc2 : w6.cell? ⟨b, 2, none⟩ = some (.slice (some ⟨x.gL, 0, none⟩) n x.cL) := by
        have e := H6.out.cell.2.2.1
        rw [HW1.out.2, ← hn] at e
        exact e
      have hcN : w6.cell? ⟨x.gL, k, none⟩ = some (.int .i64 (N : Int)) := by
        refine (dwi_cell (x := (N : Int)) H6.out.ls ?_).1
        rw [HW1.out.1, HW1.out.2, ← hn, lastI_get hkn, hN]
      by_cases hN0 : N = 0
      · have hno := lastN_none s.W k _ (Nat.le_refl _) (by rw [← hN]; exact hN0)
        have hnow : s.now k = sec s.B k := by unfold Sk.now; rw [hno.1]; rfl
        obtain ⟨lo, hlo⟩ : ∃ lo, lo = k * 128 := ⟨_, rfl⟩
        obtain ⟨cc, hcc⟩ : ∃ cc, cc = x.cK - lo := ⟨_, rfl⟩
        have HSE := hid_of (dwsector_is w6 b x _ s1 H6.out k (by rw [HW1.out.2]; exact hroom) lo cc hlo hcc)
        have hbs : Bs w6 (some ⟨x.gK, lo, none⟩) cc (sec s.B k) := by
          have e := (Bs.own H6.out.bs).mid (lo := k * 128) (m := 128) (by rw [HW1.out.2]; exact hroom) (by decide)
          rw [HW1.out.2] at e
          rw [hcc, hlo]; exact e
        have HBC := hid_of (bclone_whole w6 (some ⟨x.gK, lo, none⟩) 128 cc (sec s.B k) (length_sec hroom) (by decide) (by decide) hbs)
        rw [← hnow] at HBC
        subst hN0
        clear h0 h1 h2 h3 hc hfit hd hR hs1 hs2 hN hno hnow hlo hcc hbs hroom hk hn hw6 c6 f6 hNM hk6 hL1 hR2
        go_enter Try.func15, Try.ntmps15
        go_wp2_with fail
        refine HH.out.mono ?_
        rintro e w0 ⟨rfl, rfl⟩
        go_wp2_with fail
        refine HAD.out.mono ?_
        rintro e w0 ⟨rfl, rfl⟩
        go_wp2_with fail
        refine HSE.out.mono ?_
        rintro e w0 ⟨rfl, rfl⟩
        go_wp2_with fail
        refine HBC.out.mono ?_
        rintro e w2 ⟨g, cap, rfl, ho, hk⟩
        have HF := hid_of (HEND.out w2 _ ho hk)
        clear ho hk HBC
        go_wp2_with fail
        go_ret2
        rw [HR2.out]
        exact ⟨_, rfl, HF.out⟩
      · obtain ⟨p, hp, hp1, hlw⟩ := lastN_hit s.W k _ (Nat.le_refl _) (by rw [← hN]; exact hN0)
        have hnow : s.now k = p.2 := by unfold Sk.now; rw [hlw]; rfl
        obtain ⟨j, hj⟩ : ∃ j, j = N - 1 := ⟨_, rfl⟩
        rw [← hN, ← hj] at hp
        have hp6 : s1.W[j]? = some p := by rw [HW1.out.1]; exact hp
        obtain ⟨g, c, e1, hrg, hgl, n1, n2, n3, hcl⟩ := H6.out.range hp6
        have hp2 : p.2.length = 128 := (h0.fine.w p (List.mem_of_getElem? hp)).2.1
        obtain ⟨M, hM⟩ : ∃ M, M = s.W.length := ⟨_, rfl⟩
        have hc1 : w6.cell? ⟨b, 1, none⟩ = some (.slice (some ⟨g, 0, none⟩) M c) := by
          have e := H6.out.cell.2.1
          rw [e1, HW1.out.1, ← hM] at e
          exact e
        have HBC := hid_of (bclone_whole w6 (some ⟨g, j * 129 + 1, none⟩) 128 128 p.2 hp2 (by decide) (by decide) (bs_of_range hrg hp2))
        rw [← hnow] at HBC
        have hjN : (N : Int) - 1 = (j : Int) := by omega
        have hN1 : 0 < N := by omega
        have hjM : j < M := by rw [hM]; omega
        have hML : M ≤ 100000 := by rw [hM]; exact hWl
        have hsl := slice_arr g (j * 129 + 1)
        clear h0 h1 h2 h3 hc hfit hd hR hs1 hs2 hN hp hp1 hlw hnow hj hp6 e1 hrg hgl n1 n2 n3 hcl hp2 hM hroom hk hn hw6 c6 f6 hNM hk6 hL1 hR2 hN0 hWl
        go_enter Try.func15, Try.ntmps15
        go_wp2_with fail
        refine HH.out.mono ?_
        rintro e w0 ⟨rfl, rfl⟩
        go_wp2_with fail
        refine HAD.out.mono ?_
        rintro e w0 ⟨rfl, rfl⟩
        go_wp2_with fail
        refine HBC.out.mono ?_
        rintro e w2 ⟨g2, cap, rfl, ho, hk⟩
        have HF := hid_of (HEND.out w2 _ ho hk)
        clear ho hk HBC
        go_wp2_with fail
        go_ret2
        rw [HR2.out]
        exact ⟨_, rfl, HF.out⟩
    · rw [hd] at hR c5
      simp only [if_true] at hR
      subst hR
      have hs2 : s.readS i = s := by unfold Sk.readS; rw [if_neg (fun x => by rw [hd] at x; cases x.2)]
      rw [hs2]
      clear h0 h1 h2 h3 hd hfit hs2
      go_enter Try.func15, Try.ntmps15
      go_wp2_with fail
      refine HH.out.mono ?_
      rintro e w0 ⟨rfl, rfl⟩
      go_wp2_with fail
      go_ret2
      exact ⟨_, rfl, WholeB.nil _ _, F, G, HA.out, Kept.refl _ _, Sub.refl _ _, Sub.refl _ _, fun k e => by cases e⟩
  · rw [decide_eq_false hfit] at HH
    have hs2 : s.readS i = s := by unfold Sk.readS; rw [if_neg (fun x => hfit x.1)]
    rw [hs2]
    unfold Sk.readR at hR
    rw [if_pos hfit] at hR
    subst hR
    clear h0 h1 h2 h3 hfit hs2
    go_enter Try.func15, Try.ntmps15
    go_wp2_with fail
    refine HH.out.mono ?_
    rintro e w0 ⟨rfl, rfl⟩
    go_wp2_with fail
    go_ret2
    exact ⟨_, rfl, WholeB.nil _ _, F, G, HA.out, Kept.refl _ _, Sub.refl _ _, Sub.refl _ _, fun k e => by cases e⟩

end Go.Proofs.Ytjmeneddhalodaa

/- The program's disk: Write. -/
namespace Go.Proofs.Ytjmeneddhalodaa
set_option linter.unusedVariables false
set_option linter.unusedSimpArgs false
open Go.RowKit Dg

/-- 'write{sector: i}'. -/
def newCW (x : Int) : Array Value := (Value.int .i64 x :: u8s (List.replicate 128 0)).toArray
set_option maxRecDepth 100000 in
theorem built_dw (x : Int) : Try.prog.built 75 [(0, .int .i64 x)] = some (newCW x) := by kernel_rfl
/-- '[]write{w}'. -/
theorem bsl_dw (C : Array Value) (hC : C.size = 129) (W : World) : (Instr.buildSlice 65 1 #[(0, .agg C)]).run Try.prog W = .ok (.slice (some ⟨W.heap.size, 0, none⟩) 1 1) (W.alloc (.cells C 75)) := by
  obtain ⟨i0, hi, hz0, hz1, hz2⟩ := info_parts Try.infoDw
  refine run_buildSlice W 65 75 1 _ C i0 (.agg zeroCW) Try.underlying65 hi hz0 (by rw [hz1]; decide) (by rw [hz1]; decide) ?_
  rw [hz1]
  have e := Go.Great.fill_whole (s := 129) (by decide) [.agg C] ((Array.range (1 * 129)).map fun i => ((Value.agg zeroCW).cells[i % (Value.agg zeroCW).cells.size]!)) (fun v hv => by rw [List.mem_singleton.1 hv]; exact hC) (by simp)
  have e2 : ([Value.agg C].flatMap fun v => v.cells.toList).toArray = C := by simp [Value.cells]
  rw [e2] at e
  exact e
theorem toArray_newCW {k : Nat} {l : List Nat} (hl : l.length = 128) : ((newCW (k : Int)).toList.take 1 ++ (u8s l ++ (newCW (k : Int)).toList.drop (1 + (u8s l).length))).toArray = (cellsP (k, l)).toArray := by
  have h1 : (u8s l).length = 128 := by simp [hl]
  have h2 : (newCW (k : Int)).toList.drop (1 + (u8s l).length) = [] := List.drop_eq_nil_of_le (by rw [h1]; simp [newCW])
  rw [h2]
  simp [newCW, cellsP]
theorem size_newCW (x : Int) : (newCW x).size = 129 := by simp [newCW]
theorem one_newCW (x : Int) : (newCW x).all (·.oneCell') = true := all_oneCell_toArray (fun v hv => by
  rcases List.mem_cons.1 hv with rfl | h
  · rfl
  · exact oneC_u8 _ v h)
theorem bld_dw (x : Int) (W : World) : (Instr.build 75 #[(0, .int .i64 x)]).run Try.prog W = .ok (.agg (newCW x)) W := run_build W 75 _ _ (built_dw x)
theorem wpList_build_dw {ops : Array Oper} {rest : List Oper} {o : Oper} {a : Act} {w : World} {Q : Exit → Act → World → Prop} (hg : o.guard = none) (x : Operand) (ho : o.op = .build 75 #[(0, x)]) (y : Int) (hx : a.eval x = .int .i64 y)
    (h : wpList Try.prog ops Q rest (a.put o.dst (.agg (newCW y))) w) : wpList Try.prog ops Q (o :: rest) a w := by
  refine wpList_plain hg fun K hK => ?_
  unfold Oper.wp execOp
  rw [ho]
  have e : (#[(0, x)] : Array (Nat × Operand)).map (fun (i, x) => (i, a.eval x)) = #[(0, Value.int .i64 y)] := by simp [hx]
  simp only [e, Sem.run_bind, bld_dw, Result.andThen_ok]
  exact hK _ _ h
theorem wp_bsl_dw {o : Oper} {a : Act} {w : World} {K : Act → World → Prop} {Q : Exit → Act → World → Prop} (x : Operand) (ho : o.op = .buildSlice 65 1 #[(0, x)]) (C : Array Value) (hx : a.eval x = .agg C) (hC : C.size = 129)
    (h : K (a.put o.dst (.slice (some ⟨w.heap.size, 0, none⟩) 1 1)) (w.alloc (.cells C 75))) : Oper.wp Try.prog o a w K Q := by
  unfold Oper.wp execOp
  rw [ho]
  have e : (#[(0, x)] : Array (Nat × Operand)).map (fun (i, x) => (i, a.eval x)) = #[(0, Value.agg C)] := by simp [hx]
  simp only [e, Sem.run_bind, bsl_dw C hC, Result.andThen_ok]
  exact h
theorem wp_app_eq {P : Program} {o : Oper} {a : Act} {w w' : World} {K : Act → World → Prop} {Q : Exit → Act → World → Prop} (s x : Operand) (t : TypeId) (ho : o.op = .call { callee := .builtin .append, args := #[s, x], argTypes := #[t, t] }) (v y v' : Value) (hs : a.eval s = v) (hx : a.eval x = y)
    (hrun : (Builtin.append_ #[t, t] o.type #[v, y]).run P w = .ok v' w') (h : K (a.put o.dst v') w') : Oper.wp P o a w K Q := by
  unfold Oper.wp
  simp [execOp, ho, resolve, invoke, builtin, hs, hx, hrun, Result.andThen]
  exact h
/-- One more waits. -/
theorem DwIs.push {w w9 : World} {b : Nat} {x : DwB} {L : List Int} {s : Sk} (h : DwIs w b x L s) (v : Value) (hk9 : Kept (fun j => x.vW.ownBlock = some j) w w9) (k : Nat) (l : List Nat) (hl : l.length = 128) (h256 : ∀ y ∈ l, y < 256) (hk : k * 128 + 128 ≤ s.B.length)
    (ho : w9.ownsRow 0 75 129 v (s.W.length + 1) (cellsV (s.W ++ [(k, l)]))) (hv : v.ownBlock = x.vW.ownBlock ∨ ∃ j, v.ownBlock = some j ∧ w.heap.size ≤ j) :
    DwIs (w9.setCell ⟨b, 1, none⟩ v) b { x with vW := v } L { s with W := s.W ++ [(k, l)] } := by
  have hbl : b < w.heap.size := (Array.getElem?_eq_some_iff.1 h.box).1
  have hkl : x.gK < w.heap.size := (World.ownsRow.lt h.bs _ rfl).2
  have hll : x.gL < w.heap.size := (World.ownsRow.lt h.ls _ rfl).2
  have hnv : v.ownBlock ≠ some b ∧ v.ownBlock ≠ some x.gK ∧ v.ownBlock ≠ some x.gL := by
    rcases hv with e | ⟨j, e, hj⟩
    · rw [e]; exact h.ne2
    · rw [e]
      refine ⟨fun e => ?_, fun e => ?_, fun e => ?_⟩
      all_goals
        cases e
        omega
  have hs : Kept (fun j => j = b) w9 (w9.setCell ⟨b, 1, none⟩ v) := Kept.setCell _ _ _ rfl
  refine ⟨?_, ownsRow_other (ownsRow_other h.bs hk9 (fun j e e2 => ?_)) hs (fun j e => by cases e; exact fun e => h.ne1.1 e.symm), ownsRow_other (ownsRow_other h.ls hk9 (fun j e e2 => ?_)) hs (fun j e => by cases e; exact fun e => h.ne1.2.1 e.symm), ?_, h.at1, h.at2, ⟨h.fine.n, h.fine.b256, fun p hp => ?_⟩, h.ne1, hnv⟩
  · have e : w9.heap[b]? = w.heap[b]? := hk9.block b hbl (fun e => h.ne2.1 e)
    rw [heap_setCell_of (e.trans h.box)]
    rfl
  · cases e
    exact h.ne2.2.1 e2
  · cases e
    exact h.ne2.2.2 e2
  · show World.ownsRow _ _ _ _ v (s.W ++ [(k, l)]).length _
    rw [List.length_append]
    exact ownsRow_other ho hs (fun j e e2 => hnv.1 (by rw [e, e2]))
  · rcases List.mem_append.1 hp with e | e
    · exact h.fine.w p e
    · rw [List.mem_singleton.1 e]
      exact ⟨hk, hl, h256⟩
set_option maxRecDepth 100000 in
set_option maxHeartbeats 8000000 in
theorem dwwrite_any (w : World) (b : Nat) (F G : Nat → Prop) (s : Sk) (h : DwAt w b F G s) (i : Int) (hi : I64 i) (a : Option Addr) (n cap : Nat) (l : List Nat) (hn : l.length = n) (hb : Bs w a cap l) (h256 : ∀ x ∈ l, x < 256) (hnl : n ≤ 1000000) (hf : l ≠ [] → ∀ y, a = some y → ¬ F y.block) (hc : s.writes ≤ 1000000) (hWl : s.W.length ≤ 100000) (R : Int) (hR : R = s.writeR i l) (s2 : Sk) (hs2 : s2 = s.writeS i l) :
    Calls Try.prog 12 #[.pointer (some ⟨b, 0, none⟩), .int .i64 i, .slice a n cap] w fun e w' => e = .returned (.int .i64 R) ∧ Moved DwAt w w' b F G s2 := by
  obtain ⟨i5, j5, jz0, jz1, jz2⟩ := info_parts Try.info5
  obtain ⟨i0, j0, hz0, hz1, hz2⟩ := info_parts Try.infoDw
  obtain ⟨x, h0, h1, h2, h3⟩ := h
  obtain ⟨L, hL⟩ : ∃ L, L = lastI s.W (s.B.length / 128) := ⟨_, rfl⟩
  rw [← hL] at h0
  have HR : Hid ((∀ k, x.own b k → F k) ∧ (∀ k, F k → G k) ∧ ∀ k, G k → k < w.heap.size) := ⟨h1, h2, h3⟩
  have HH := hid_of (dwhas_is w b x L s h0 i hi _ rfl)
  obtain ⟨hi1, hi2⟩ := hi
  by_cases hno : ¬ s.fits i ∨ l.length ≠ 128
  · have hs2' : s2 = s := by rw [hs2]; unfold Sk.writeS; rw [if_pos hno]
    have hR' : R = 1 := by rw [hR]; unfold Sk.writeR; rw [if_pos hno]
    subst hR'
    rw [hs2']
    have HM6 : Hid (Moved DwAt w w b F G s) := Moved.of (x := x) h1 h2 h3 h0 hL (fun k e => .inl e) (Kept.refl _ _)
    by_cases hfit : s.fits i
    · rw [decide_eq_true hfit] at HH
      have hb : ((n : Int) != 128) = true := by
        rcases hno with e | e
        · exact absurd hfit e
        · rw [hn] at e; simp; omega
      clear h0 h1 h2 h3 hno hfit hs2 hs2' hR hL j5 j0 hn
      go_enter Try.func12, Try.ntmps12
      go_wp2_with fail
      refine HH.out.mono ?_
      rintro e w0 ⟨rfl, rfl⟩
      go_wp2_with fail
      go_ret
      exact ⟨rfl, HM6.out⟩
    · rw [decide_eq_false hfit] at HH
      clear h0 h1 h2 h3 hno hfit hs2 hs2' hR hL j5 j0 hn
      go_enter Try.func12, Try.ntmps12
      go_wp2_with fail
      refine HH.out.mono ?_
      rintro e w0 ⟨rfl, rfl⟩
      go_wp2_with fail
      go_ret
      exact ⟨rfl, HM6.out⟩
  · have hfit : s.fits i := Decidable.byContradiction fun e => hno (.inl e)
    have h128 : l.length = 128 := Decidable.byContradiction fun e => hno (.inr e)
    obtain ⟨k, rfl, hk⟩ := hfit.nat
    have hroom := hfit.room
    rw [decide_eq_true hfit] at HH
    obtain rfl : n = 128 := by omega
    have HS := hid_of (dwstops_is w b x L s h0)
    obtain ⟨t, ht⟩ : ∃ t, t = s.arm := ⟨_, rfl⟩
    rw [← ht] at HS
    have hR' : R = if t.dead then 9 else 0 := by rw [hR]; unfold Sk.writeR; rw [if_neg hno, ht]
    have hs2' : s2 = if t.dead then t else { t with W := t.W ++ [(k, l)], stop := t.stop.map (· - 1), writes := t.writes + 1 } := by
      rw [hs2]; unfold Sk.writeS
      rw [if_neg hno, ht, Int.toNat_natCast, s.arm_W, s.arm_stop, s.arm_counts.2.1]
    have hLt : L = lastI t.W (t.B.length / 128) := by rw [hL, ht, s.arm_W, s.arm_B]
    have hal : t.dead = false → t.stop ≠ some 0 := fun e => by rw [ht] at e ⊢; exact s.arm_alive e
    have htW : t.W.length ≤ 100000 := by rw [ht, s.arm_W]; exact hWl
    have htc : t.writes ≤ 1000000 := by rw [ht, s.arm_counts.2.1]; exact hc
    have htr : k * 128 + 128 ≤ t.B.length := by rw [ht, s.arm_B]; exact hroom
    have HLT := hid_of hLt
    have HBL := hid_of h128
    have H256 := hid_of h256
    rcases hd : t.dead with _ | _
    · rw [if_neg (by rw [hd]; decide)] at hs2' hR'
      subst hR'
      have halive := hal hd
      rw [hd] at HS
      have HS2 := hid_of hs2'
      obtain ⟨b0, o0, rfl, -⟩ := sl_cell hb.at_ (List.getElem?_eq_getElem (by rw [h128]; decide : 0 < l.length))
      have hne : l ≠ [] := fun e => by rw [e] at h128; simp at h128
      have HBS := hid_of hb
      have hfb : ¬ F b0 := hf hne ⟨b0, o0, none⟩ rfl
      have hfb2 : b0 ≠ b := fun e => hfb (h1 _ (.inl e))
      obtain ⟨C, hC⟩ : ∃ C, C = (cellsP (k, l)).toArray := ⟨_, rfl⟩
      obtain ⟨hCs, hC1⟩ := cellsP_arr (p := (k, l)) h128 hC
      have HCE := hid_of hC
      have HTR := hid_of htr
      have hbld := bld_dw (k : Int)
      have hbsl := bsl_dw C hCs
      clear h0 h1 h2 h3 hno hfit hs2 hs2' hR hL hd hal ht hLt hb hf h128 hC hc hWl hroom h256 hk htr hn
      go_enter Try.func12, Try.ntmps12
      go_wp2_with fail
      refine HH.out.mono ?_
      rintro e w0 ⟨rfl, rfl⟩
      go_wp2_with fail
      refine HS.out.mono ?_
      rintro e w1 ⟨rfl, h1, hk1⟩
      have d3 := h1.cell.2.2.2.1
      have d4 := h1.cell.2.2.2.2.1
      have f4 := h1.froz 4
      have HK1 := hid_of hk1
      have H1 := hid_of h1
      clear hk1 HS HH
      rcases hst : t.stop with _ | m
      rw [hst] at d3
      change _ = some (Value.bool false) at d3
      obtain ⟨w6, hw6⟩ : ∃ w6, w6 = w1 := ⟨_, rfl⟩
      obtain ⟨x6, hx6⟩ : ∃ x6, x6 = x := ⟨_, rfl⟩
      have HD6 : Hid (DwIs w6 b x6 L { t with stop := t.stop.map (· - 1) }) := by
        rw [hw6, hx6, hst]
        have e : ({ t with stop := (none : Option Nat).map (· - 1) } : Sk) = t := by
          cases t
          simp only at hst
          subst hst
          rfl
        rw [e]
        exact H1.out
      have HK6 : Hid (Kept (fun j => j = b) w w6) := by rw [hw6]; exact HK1.out
      have HX6 : Hid ((∀ j, x6.own b j → x.own b j) ∧ (∀ j, x.own b j → x6.own b j)) := by rw [hx6]; exact ⟨fun _ h => h, fun _ h => h⟩
      clear h1 hx6
      rotate_left
      have hm0 : m ≠ 0 := fun e => halive (by rw [hst, e])
      have hlm := H1.out.at1 m hst
      have hl2 := H1.out.at2
      rw [hst] at d3
      change _ = some (Value.bool true) at d3
      obtain ⟨lf, hlf⟩ : ∃ lf, lf = x.left := ⟨_, rfl⟩
      rw [← hlf] at d4
      have hlfm : 1 ≤ lf ∧ lf ≤ 9223372036854775807 := by omega
      obtain ⟨w6, hw6⟩ : ∃ w6, w6 = w1.setCell ⟨b, 4, none⟩ (.int .i64 (lf - 1)) := ⟨_, rfl⟩
      obtain ⟨x6, hx6⟩ : ∃ x6 : DwB, x6 = { x with left := lf - 1 } := ⟨_, rfl⟩
      have hks : Kept (fun j => j = b) w1 w6 := by rw [hw6]; exact Kept.setCell _ _ _ rfl
      have HD6 : Hid (DwIs w6 b x6 L { t with stop := t.stop.map (· - 1) }) := by
        refine H1.out.put (s' := { t with stop := t.stop.map (· - 1) }) (x' := x6) hks rfl rfl (by rw [hx6]) ?_ (fun j e => ?_) ?_
        · rw [hw6, heap_setCell_of H1.out.box, hst, hx6]
          rfl
        · rw [hst] at e
          cases e
          rw [hx6]
          show lf - 1 = ((m - 1 : Nat) : Int)
          omega
        · rw [hx6]
          show 0 ≤ lf - 1 ∧ lf - 1 ≤ _
          omega
      have HK6 : Hid (Kept (fun j => j = b) w w6) := HK1.out.trans hks
      have HX6 : Hid ((∀ j, x6.own b j → x.own b j) ∧ (∀ j, x.own b j → x6.own b j)) := by rw [hx6]; exact ⟨fun _ h => h, fun _ h => h⟩
      clear h1 hx6 hks hlm hl2 hlf
      rotate_left
      go_upto_region 7 with fail
      all_goals
        rw [← hw6]
        clear hw6 d3 d4 f4 HK1 H1 hst
      all_goals
        -- the variable
        obtain ⟨wa, wc, hv6, -⟩ := HD6.out.form
        obtain ⟨M, hM⟩ : ∃ M, M = t.W.length := ⟨_, rfl⟩
        change x6.vW = .slice wa t.W.length wc at hv6
        rw [← hM] at hv6
        have hML : M ≤ 100000 := by rw [hM]; exact htW
        obtain ⟨w7, hw7⟩ : ∃ w7, w7 = w6.alloc (.cells (newCW (k : Int)) 75) := ⟨_, rfl⟩
        obtain ⟨bx, hbx⟩ : ∃ bx, bx = w6.heap.size := ⟨_, rfl⟩
        have hk7 : Kept (fun _ => False) w6 w7 := by rw [hw7]; exact Kept.alloc _ _ _
        have hx7 : w7.heap[bx]? = some (.cells (newCW (k : Int)) 75 (0, 0)) := by rw [hw7, hbx]; exact heap_alloc_new w6 _
        obtain ⟨w8, hw8⟩ : ∃ w8, w8 = w7.setRow bx ((newCW (k : Int)).toList.take 1 ++ (u8s l ++ (newCW (k : Int)).toList.drop (1 + (u8s l).length))).toArray := ⟨_, rfl⟩
        have hx8 : w8.heap[bx]? = some (.cells C 75 (0, 0)) := by
          rw [hw8, setRow_heap w7 bx _ _ _ _ hx7, toArray_newCW HBL.out, HCE.out]
        have hk78 : Kept (fun j => j = bx) w7 w8 := by rw [hw8]; exact Kept.setRow _ _ _
        have hk68 : Kept (fun _ => False) w6 w8 := hk7.trans' hk78 (fun j hj e => by omega)
        have hsrc : ∀ j v, (u8s l)[j]? = some v → w7.cell? ((⟨b0, o0, none⟩ : Addr).add j) = some v := by
          intro j v hj
          rw [u8s_get] at hj
          obtain ⟨y, hy, rfl⟩ := Option.map_eq_some_iff.1 hj
          have hb7 := (HBS.out.kept HK6.out (fun _ q e => by cases e; exact hfb2)).kept hk7 (fun _ _ _ h => h)
          obtain ⟨b', off', e, hc'⟩ := sl_cell hb7.at_ hy
          cases e
          have hadd : (⟨b0, o0, none⟩ : Addr).add j = ⟨b0, o0 + j, none⟩ := by simp [Addr.add]
          rw [hadd]; exact hc'
        have hlen : (u8s l).length = Nat.min 128 128 := by rw [show Nat.min 128 128 = 128 from rfl]; simp [HBL.out]
        have hfit8 : 1 + (u8s l).length ≤ (newCW (k : Int)).size := by rw [hlen, size_newCW]; decide
        have HSRC := hid_of hsrc
        have HLN := hid_of hlen
        have HFT := hid_of hfit8
        have HX7 := hid_of hx7
        have hsl := slice_arr bx 1
        have HD8 := hid_of (HD6.out.kept hk68 (fun _ _ h => h))
        have HK8 : Hid (Kept (fun j => j = b) w w8) := HK6.out.trans (hk68.mono (fun _ _ h => h.elim))
        have hbxl : bx < w8.heap.size := (Array.getElem?_eq_some_iff.1 hx8).1
        -- one more
        have hrg : w8.drew.rangeAt bx 0 (cellsP (k, l)) := fun j v e => by
          have e2 : w8.drew.heap[bx]? = some (.cells C 75 (0, 0)) := hx8
          simp [World.cell?, e2, HCE.out]
          simpa using e
        have HRG := hid_of hrg
        have HRA : Hid ((w8.drew.alloc (.cells C 75)).rangeAt bx 0 (cellsP (k, l))) := World.rangeAt_alloc hrg _
        have hld : (Instr.loadAt 75 (.pointer (some ⟨bx, 0, none⟩))).run Try.prog w8.drew = .ok (.agg C) w8.drew := by
          have e := run_loadAt_mid (P := Try.prog) w8.drew bx 0 75 (cellsP (k, l)) _ hrg Try.underlying75 rfl (by rw [sizeDw, length_cellsP HBL.out])
          rw [← HCE.out] at e
          exact e
        obtain ⟨wA, hwA⟩ : ∃ wA, wA = w8.drew.alloc (.cells C 75) := ⟨_, rfl⟩
        have hkA : Kept (fun _ => False) w8 wA := by rw [hwA]; exact (Kept.refl _ _).drew.trans (Kept.alloc _ _ _)
        have HDA := HD8.out.kept hkA (fun _ _ h => h)
        have hxA : wA.heap[w8.heap.size]? = some (.cells C 75 (0, 0)) := by rw [hwA]; exact heap_alloc_new w8.drew _
        have hsA : wA.heap.size = w8.heap.size + 1 := by rw [hwA]; simp
        obtain ⟨v9, w9, hap, r1, r2, r3, r4⟩ := run_append_own_at (P := Try.prog) wA 0 65 65 75 i0 (.agg zeroCW) 129 136 Try.underlying65 j0 hz0 hz1 hz2 size_zeroCW (by decide) x6.vW t.W.length (cellsV t.W) HDA.ws ⟨w8.heap.size, 0, none⟩ 1 1 C.toList (by simp [hCs]) (fun j u hu => by
            have hadd : (⟨w8.heap.size, 0, none⟩ : Addr).add j = ⟨w8.heap.size, j, none⟩ := by unfold Addr.add; split <;> simp_all
            rw [hadd]
            simp [World.cell?, hxA]
            simpa using hu) (fun u hu => (Array.all_eq_true_iff_forall_mem.1 hC1) u (by simpa using hu)) (by unfold maxLen; omega) (by omega) (Nat.zero_le _)
        have hk9 : Kept (fun j => x6.vW.ownBlock = some j) wA w9 := Kept.grown r2
        have hk89 : Kept (fun j => x6.vW.ownBlock = some j) w8 w9 := (hkA.mono (fun _ _ h => h.elim)).trans hk9
        have hPL : k * 128 + 128 ≤ t.B.length := HTR.out
        have HD9 : Hid (DwIs (w9.setCell ⟨b, 1, none⟩ v9) b { x6 with vW := v9 } L { t with W := t.W ++ [(k, l)], stop := t.stop.map (· - 1) }) := by
          refine HD8.out.push v9 hk89 k l HBL.out H256.out hPL ?_ ?_
          · show World.ownsRow _ _ _ _ v9 (t.W.length + 1) (cellsV (t.W ++ [(k, l)]))
            rw [cellsV_append, cellsV_one]
            have e : C.toList = cellsP (k, l) := by rw [HCE.out]
            rw [← e]
            exact r1
          · rcases r4 with e | e
            · exact .inl e
            · exact .inr ⟨_, e, by omega⟩
        obtain ⟨M1, hM1⟩ : ∃ M1, M1 = M + 1 := ⟨_, rfl⟩
        obtain ⟨a9, c9, hv9⟩ : ∃ a c, v9 = .slice a M1 c := by
          rcases r1.2 with ⟨_, e⟩ | ⟨g', cap', cur, e, -⟩
          · omega
          · exact ⟨_, _, by rw [e, hM1, hM]⟩
        have hown9 : ∀ j, v9.ownBlock = some j → x6.vW.ownBlock = some j ∨ (w8.heap.size ≤ j ∧ j < w9.heap.size) := fun j e => by
          rcases r4 with e2 | e2
          · exact .inl (by rw [← e2]; exact e)
          · rw [e2] at e
            cases e
            exact .inr ⟨by omega, by have := hk9.size; have := (World.ownsRow.lt r1 _ e2).2; exact this⟩
        have hgw : x6.vW.ownBlock ≠ some bx := fun e => by have := (World.ownsRow.lt HD6.out.ws bx e).2; omega
        have HR9 : Hid (w9.rangeAt bx 0 (cellsP (k, l))) := fun j v e => by
          rw [hk9.cell (by omega) hgw]
          have e2 := HRA.out j v e
          rw [← hwA] at e2
          exact e2
        have hbb : bx ≠ b := fun e => by have := (Array.getElem?_eq_some_iff.1 HD6.out.box).1; omega
        have HRS : Hid ((w9.setCell ⟨b, 1, none⟩ v9).rangeAt bx 0 (cellsP (k, l))) := fun j v e => by
          have hks : Kept (fun j => j = b) w9 (w9.setCell ⟨b, 1, none⟩ v9) := Kept.setCell _ _ _ rfl
          have e3 := HR9.out j v e
          rw [hks.cell (World.block_lt_of_cell? w9 _ e3) hbb]
          exact e3
        have dA : (w8.alloc (.cells C 75)).cell? ⟨b, 1, none⟩ = some x6.vW := by
          have e := HDA.cell.2.1
          rw [hwA] at e
          exact e
        have hM1l : M1 ≤ 100001 := by omega
        have HM1 := hid_of hM1
        have HOW : Hid (∀ j, v9.ownBlock = some j → x6.vW.ownBlock = some j ∨ (w8.heap.size ≤ j ∧ j < w9.heap.size)) := hown9
        have g1 : w9.cell? ⟨b, 1, none⟩ = some x6.vW := by
          rw [hk89.cell (Array.getElem?_eq_some_iff.1 HD8.out.box).1 (fun e => HD8.out.ne2.1 e)]
          exact HD8.out.cell.2.1
        have gf : w9.frozen? ⟨b, 1, none⟩ = false := by
          rw [hk89.frozen (Array.getElem?_eq_some_iff.1 HD8.out.box).1 (fun e => HD8.out.ne2.1 e)]
          exact HD8.out.froz 1
        have d1 := HD8.out.cell.2.1
        rw [hv6] at d1 g1 hap dA
        have HK89 := hid_of hk89
        have HVV := hid_of hv6
        rw [hwA] at hap
        have HMM := hid_of hM
        have HSZ8 : Hid (w.heap.size ≤ w8.heap.size) := HK8.out.size
        clear hsrc hlen hfit8 hx7 hk7 hk78 hk68 hrg hkA HDA hxA hsA r1 r2 r3 r4 hk9 hk89 hown9 hwA hM hv6 hx8 htW HK6 HD6
        go_wp2_with (first
          | (refine wpList_build_dw rfl (.tmp 30) rfl (k : Int) rfl ?_)
          | (refine wpList_alloc_dw rfl rfl ?_)
          | (refine wpList_store_dw rfl (.tmp 7) (.tmp 31) rfl rfl (newCW (k : Int)) zeroCW rfl (size_newCW _) size_zeroCW (one_newCW _) ?_; rw [← hw7, ← hbx]; clear hw7 hbx)
          | (refine wpList_copy_own rfl (.tmp 33) (.tmp 34) 30 30 rfl 5 Try.underlying30 (by simp [j5, jz1]) bx 1 128 128 ⟨b0, o0, none⟩ 128 cap rfl rfl (newCW (k : Int)) 75 HX7.out (u8s l) HLN.out HSRC.out HFT.out (oneC_u8 l) ?_; rw [← hw8]; clear hw8))
        subst hv9
        clear hM1
        change Code.wp _ _ _ ⟨#[_, _, _, _, _, _, _, _, _, _, _, _, _, _, _, _, _, _, _, _, _, _, _, _, _, _, _, _, _, _, _, _, _, _, _, _, _, _, _, _, _, _, _, _, _, _, _, _, _, _, _, _, _, _, _, _, _, _, _, _, _], []⟩ _
        dsimp only
        generalize goInt (((u8s l).length : Nat) : Int) = gv
        have HCS := hid_of hCs
        have HAP := hid_of hap
        clear hap hCs hld
        clear hbld hC1 HX7 HLN HSRC HFT HBS hfb hfb2 hne hsl jz0 jz1 jz2 j5 hz0 hz1 hz2 j0
        go_cut [] from 36 to 45 (fun wx => Hid (wx = w9.setCell ⟨b, 1, none⟩ (.slice a9 M1 c9)))
        case first =>
          refine wp_region_held_drew (S := fun W => W.rangeAt bx 0 (cellsP (k, l))) (by kernel_rfl) HRG.out (fun hS => ?_)
          refine wpAnyH_take (i := 0) (v := (.pointer (some ⟨b, 0, none⟩))) rfl (by kernel_rfl) (by kernel_rfl) (by kernel_rfl) (fun _ _ _ h => h) (Or.inl ⟨by rfl, fun W hW => by go_simp⟩) hS ?_
          simp only [Act.put, List.setIfInBounds_toArray, List.set_cons_zero, List.set_cons_succ]
          refine wpAnyH_take (i := 1) (v := (.pointer (some ⟨b, 0, none⟩))) rfl (by kernel_rfl) (by kernel_rfl) (by kernel_rfl) (fun _ _ _ h => h) (Or.inl ⟨by rfl, fun W hW => by go_simp⟩) hS ?_
          simp only [Act.put, List.setIfInBounds_toArray, List.set_cons_zero, List.set_cons_succ]
          refine wpAnyH_take (i := 2) (v := (.pointer (some ⟨b, 0, none⟩))) rfl (by kernel_rfl) (by kernel_rfl) (by kernel_rfl) (fun _ _ _ h => h) (Or.inl ⟨by rfl, fun W hW => by go_simp⟩) hS ?_
          simp only [Act.put, List.setIfInBounds_toArray, List.set_cons_zero, List.set_cons_succ]
          refine wpAnyH_take (i := 3) (v := (.pointer (some ⟨b, 1, none⟩))) rfl (by kernel_rfl) (by kernel_rfl) (by kernel_rfl) (fun _ _ _ h => h) (Or.inl ⟨by rfl, fun W hW => by go_simp⟩) hS ?_
          simp only [Act.put, List.setIfInBounds_toArray, List.set_cons_zero, List.set_cons_succ]
          refine wpAnyH_take (i := 5) (v := .agg C) rfl (by kernel_rfl) (by kernel_rfl) (by kernel_rfl) (fun _ _ _ h => h) (by rw [HCE.out]; exact yieldsIf_load_mid (by rfl) _ _ rfl bx 0 rfl (cellsP (k, l)) _ (fun W hW => hW) Try.underlying75 rfl (by rw [sizeDw, length_cellsP HBL.out])) hS ?_
          simp only [Act.put, List.setIfInBounds_toArray, List.set_cons_zero, List.set_cons_succ]
          refine wpAnyH_ready (rs := [4, 6]) (by kernel_rfl) (by simp) ?_
          refine AllReadyH.cons rfl (fun K hK => ?_) (AllReadyH.cons rfl (fun K hK => ?_) AllReadyH.nil)
          · go_simp
            refine hK.out _ _ hS (fun hS => ?_)
            clear hK K
            refine wpAnyH_ready (rs := [6]) (by kernel_rfl) (by simp) ?_
            refine AllReadyH.cons rfl (fun K hK => ?_) AllReadyH.nil
            rw [if_pos (by rfl)]
            refine wp_bsl_dw (.tmp 41) rfl C rfl HCS.out ?_
            simp only [Act.put, List.setIfInBounds_toArray, List.set_cons_zero, List.set_cons_succ]
            refine hK.out _ _ HRA.out (fun hS => ?_)
            clear hK K
            refine wpAnyH_ready (rs := [7]) (by kernel_rfl) (by simp) ?_
            refine AllReadyH.cons rfl (fun K hK => ?_) AllReadyH.nil
            rw [if_pos (by rfl)]
            refine wp_app_eq (.tmp 40) (.tmp 42) 65 rfl _ _ _ rfl rfl HAP.out ?_
            simp only [Act.put, List.setIfInBounds_toArray, List.set_cons_zero, List.set_cons_succ]
            refine hK.out _ _ HR9.out (fun hS => ?_)
            clear hK K
            refine wpAnyH_take (i := 8) (v := (.pointer (some ⟨b, 0, none⟩))) rfl (by kernel_rfl) (by kernel_rfl) (by kernel_rfl) (fun _ _ _ h => h) (Or.inl ⟨by rfl, fun W hW => by go_simp⟩) hS ?_
            simp only [Act.put, List.setIfInBounds_toArray, List.set_cons_zero, List.set_cons_succ]
            refine wpAnyH_take (i := 9) (v := (.pointer (some ⟨b, 1, none⟩))) rfl (by kernel_rfl) (by kernel_rfl) (by kernel_rfl) (fun _ _ _ h => h) (Or.inl ⟨by rfl, fun W hW => by go_simp⟩) hS ?_
            simp only [Act.put, List.setIfInBounds_toArray, List.set_cons_zero, List.set_cons_succ]
            refine wpAnyH_ready (rs := [10]) (by kernel_rfl) (by simp) ?_
            refine AllReadyH.cons rfl (fun K hK => ?_) AllReadyH.nil
            go_simp
            refine hK.out _ _ HRS.out (fun hS => ?_)
            clear hK K
            refine wpAnyH_done (by kernel_rfl) ?_ _
            (try go_wp2_with fail)
            go_meet
            exact rfl
          · rw [if_pos (by rfl)]
            refine wp_bsl_dw (.tmp 41) rfl C rfl HCS.out ?_
            simp only [Act.put, List.setIfInBounds_toArray, List.set_cons_zero, List.set_cons_succ]
            refine hK.out _ _ HRA.out (fun hS => ?_)
            clear hK K
            refine wpAnyH_ready (rs := [4]) (by kernel_rfl) (by simp) ?_
            refine AllReadyH.cons rfl (fun K hK => ?_) AllReadyH.nil
            go_simp
            refine hK.out _ _ hS (fun hS => ?_)
            clear hK K
            refine wpAnyH_ready (rs := [7]) (by kernel_rfl) (by simp) ?_
            refine AllReadyH.cons rfl (fun K hK => ?_) AllReadyH.nil
            rw [if_pos (by rfl)]
            refine wp_app_eq (.tmp 40) (.tmp 42) 65 rfl _ _ _ rfl rfl HAP.out ?_
            simp only [Act.put, List.setIfInBounds_toArray, List.set_cons_zero, List.set_cons_succ]
            refine hK.out _ _ HR9.out (fun hS => ?_)
            clear hK K
            refine wpAnyH_take (i := 8) (v := (.pointer (some ⟨b, 0, none⟩))) rfl (by kernel_rfl) (by kernel_rfl) (by kernel_rfl) (fun _ _ _ h => h) (Or.inl ⟨by rfl, fun W hW => by go_simp⟩) hS ?_
            simp only [Act.put, List.setIfInBounds_toArray, List.set_cons_zero, List.set_cons_succ]
            refine wpAnyH_take (i := 9) (v := (.pointer (some ⟨b, 1, none⟩))) rfl (by kernel_rfl) (by kernel_rfl) (by kernel_rfl) (fun _ _ _ h => h) (Or.inl ⟨by rfl, fun W hW => by go_simp⟩) hS ?_
            simp only [Act.put, List.setIfInBounds_toArray, List.set_cons_zero, List.set_cons_succ]
            refine wpAnyH_ready (rs := [10]) (by kernel_rfl) (by simp) ?_
            refine AllReadyH.cons rfl (fun K hK => ?_) AllReadyH.nil
            go_simp
            refine hK.out _ _ HRS.out (fun hS => ?_)
            clear hK K
            refine wpAnyH_done (by kernel_rfl) ?_ _
            (try go_wp2_with fail)
            go_meet
            exact rfl
        case rest =>
          have HWC := hcut
          have HDC : Hid (DwIs wc b { x6 with vW := .slice a9 M1 c9 } L { t with W := t.W ++ [(k, l)], stop := t.stop.map (· - 1) }) := by show DwIs _ _ _ _ _; rw [HWC.out]; exact HD9.out
          have HKC : Hid (Kept (x.own b) w wc) := by
            have e : Kept (x.own b) w w9 := (HK8.out.mono (fun j _ e => .inl e)).trans (HK89.out.mono (fun j _ e => HX6.out.1 j (.inr (.inr (.inr e)))))
            show Kept _ _ _
            rw [HWC.out]
            exact e.trans (Kept.setCell _ _ _ (.inl rfl))
          have HSZ : Hid (w9.heap.size = wc.heap.size) := by show _ = _; rw [HWC.out]; simp [World.setCell]
          obtain ⟨nn, hnn⟩ : ∃ nn, nn = t.B.length / 128 := ⟨_, rfl⟩
          have hkn : k < nn := by rw [hnn]; have := HTR.out; omega
          have hnl' : nn ≤ 4096 := by rw [hnn]; have := HDC.out.fine.le; change t.B.length ≤ _ at this; omega
          have e1 := HDC.out.cell.2.1
          have e2 := HDC.out.cell.2.2.1
          change wc.cell? ⟨b, 1, none⟩ = some (.slice a9 M1 c9) at e1
          change wc.cell? ⟨b, 2, none⟩ = some (.slice (some ⟨x6.gL, 0, none⟩) (t.B.length / 128) x6.cL) at e2
          rw [← hnn] at e2
          obtain ⟨y, hy⟩ : ∃ y, L[k]? = some y := ⟨_, List.getElem?_eq_getElem (by have e := HDC.out.cap.2.2; change L.length = t.B.length / 128 at e; rw [e, ← hnn]; exact hkn)⟩
          obtain ⟨e3, e4⟩ := dwi_cell HDC.out.ls hy
          have HFIN : Hid (∀ q : World, q = (wc.drew.setCell ⟨x6.gL, k, none⟩ (.int .i64 (M1 : Int))) → Calls Try.prog 38 #[.pointer (some ⟨b, 7, none⟩), .int .i64 1] q fun e w' => e = .returned (.int .i64 ((t.writes : Int) + 1)) ∧ Moved DwAt w w' b F G s2) := fun q hq => by
            have hd : Kept (fun _ => False) wc wc.drew := (Kept.refl _ _).drew
            have hkq : Kept (fun j => j = x6.gL) wc.drew q := by rw [hq]; exact Kept.setCell _ _ _ rfl
            have hDq : DwIs q b { x6 with vW := .slice a9 M1 c9 } (L.set k (M1 : Int)) { t with W := t.W ++ [(k, l)], stop := t.stop.map (· - 1) } := by
              refine (HDC.out.kept hd (fun _ _ h => h)).putL hkq ?_
              rw [hq]
              exact dwi_set (HDC.out.kept hd (fun _ _ h => h)).ls k _ (by show k < t.B.length / 128; rw [← hnn]; exact hkn)
            have c7 := hDq.cell.2.2.2.2.2.2.2.1
            have f7 := hDq.froz 7
            refine (aadd_any ⟨b, 7, none⟩ (t.writes : Int) 1 q c7 f7 (by omega) (by omega) (by decide) (by decide)).mono ?_
            rintro e w' ⟨rfl, hw'⟩
            refine ⟨rfl, ?_⟩
            have hke : Kept (fun j => j = b) q w' := by rw [hw']; exact Kept.setCell _ _ _ rfl
            have hfin3 : DwIs w' b { x6 with vW := .slice a9 M1 c9 } (L.set k (M1 : Int)) s2 := by
              refine hDq.put (s' := s2) (x' := { x6 with vW := .slice a9 M1 c9 }) hke (by rw [HS2.out]) (by rw [HS2.out]) rfl ?_ (by rw [HS2.out]; exact hDq.at1) hDq.at2
              rw [hw', heap_setCell_of hDq.box, HS2.out]
              rfl
            have hkw : Kept (x.own b) w w' := (((HKC.out.trans (hd.mono (fun _ _ h => h.elim))).trans (hkq.mono (fun j _ e => HX6.out.1 j (.inr (.inr (.inl e)))))).trans (hke.mono (fun j _ e => .inl e)))
            refine Moved.of (x := x) HR.out.1 HR.out.2.1 HR.out.2.2 hfin3 ?_ (fun j e => ?_) hkw
            · rw [HLT.out, HS2.out]
              show (lastI t.W (t.B.length / 128)).set k (M1 : Int) = lastI (t.W ++ [(k, l)]) (t.B.length / 128)
              rw [lastI_push _ (by rw [← hnn]; exact hkn), HM1.out, HMM.out]
            · rcases e with e | e | e | e
              · exact .inl (.inl e)
              · exact .inl (HX6.out.1 j (.inr (.inl e)))
              · exact .inl (HX6.out.1 j (.inr (.inr (.inl e))))
              · rcases HOW.out j e with e5 | ⟨e5, e6⟩
                · exact .inl (HX6.out.1 j (.inr (.inr (.inr e5))))
                · refine .inr ⟨Nat.le_trans HSZ8.out e5, ?_⟩
                  have h1' := hkq.size
                  have h2' := hke.size
                  have h3' : wc.drew.heap.size = wc.heap.size := rfl
                  have := HSZ.out
                  omega
          clear hcut hbsl dA hgw hbb hy hnn HD9 HDC HKC
          clear d1 g1 gf
          go_upto_region 10 with fail
          go_region
          all_goals
            go_wp2_with fail
            refine Calls.mono (HFIN.out _ (by rfl)) ?_
            rintro e w' ⟨rfl, hm⟩
            have HMV := hid_of hm
            clear hm HFIN
            go_wp2_with fail
            go_ret
            exact ⟨rfl, HMV.out⟩
    · rw [if_pos (by rw [hd])] at hs2' hR'
      rw [hd] at HS
      subst hR'
      have HS2 := hid_of hs2'
      clear hd hs2' h0 h1 h2 h3 hno hfit hs2 hR hL hal ht hLt hb hf h128 hc hWl hroom h256 hk htr hn j5 j0 htW htc
      go_enter Try.func12, Try.ntmps12
      go_wp2_with fail
      refine HH.out.mono ?_
      rintro e w0 ⟨rfl, rfl⟩
      go_wp2_with fail
      refine HS.out.mono ?_
      rintro e w1 ⟨rfl, h0, hk1⟩
      have HM6 : Hid (Moved DwAt w w1 b F G s2) := by
        rw [HS2.out]
        exact Moved.of (x := x) HR.out.1 HR.out.2.1 HR.out.2.2 h0 HLT.out (fun k e => .inl e) (hk1.own (fun k e => .inl e))
      clear h0 hk1
      go_wp2_with fail
      go_ret
      exact ⟨rfl, HM6.out⟩

end Go.Proofs.Ytjmeneddhalodaa

/- The program's disk: Clone's helps. -/
namespace Go.Proofs.Ytjmeneddhalodaa
set_option linter.unusedVariables false
set_option linter.unusedSimpArgs false
open Go.RowKit Dg

/-- '[]T{}'. -/
theorem wpList_bsl0 {P : Program} {ops : Array Oper} {rest : List Oper} {o : Oper} {a : Act} {w : World} {Q : Exit → Act → World → Prop} (hg : o.guard = none) (t e : TypeId) (ho : o.op = .buildSlice t 0 #[]) (ie : TypeInfo) (hu : P.underlying t = some (.slice e)) (hie : P.info? e = some ie)
    (h : wpList P ops Q rest (a.put o.dst (.slice (some ⟨w.heap.size, 0, none⟩) 0 0)) (w.alloc (.cells #[] e))) : wpList P ops Q (o :: rest) a w := by
  refine wpList_plain hg fun K hK => ?_
  unfold Oper.wp execOp
  have e0 : ∀ f : Nat → Value, Array.map f (Array.range 0) = #[] := fun f => Array.eq_empty_of_size_eq_zero (by simp)
  simp [ho, Instr.buildSlice, run_underlying hu, sizeOf, typeInfo, hie, Instr.fill, newRow, e0]
  exact hK _ _ h
theorem ownsRow_empty (w : World) (base : Nat) (e : TypeId) (size : Nat) (hb : base ≤ w.heap.size) : (w.alloc (.cells #[] e)).ownsRow base e size (.slice (some ⟨w.heap.size, 0, none⟩) 0 0) 0 [] :=
  ⟨by simp, .inr ⟨w.heap.size, 0, #[], rfl, hb, heap_alloc_new w _, Nat.le_refl _, by unfold maxLen; omega, by simp, by simp⟩⟩
/-- A row of the call's own can be read. -/
theorem cs_of_row {w : World} {base : Nat} {e : TypeId} {size g n c : Nat} {xs : List Value} (h : w.ownsRow base e size (.slice (some ⟨g, 0, none⟩) n c) n xs) : CsAt w (some ⟨g, 0, none⟩) xs := fun j u hu => ⟨g, 0, rfl, by rw [Nat.zero_add]; exact (row_cell h hu).1⟩
theorem CsAt.kept {w w' : World} {g : Nat} {xs : List Value} {F : Nat → Prop} (h : CsAt w (some ⟨g, 0, none⟩) xs) (hk : Kept F w w') (hF : ¬ F g) : CsAt w' (some ⟨g, 0, none⟩) xs := fun j u hu => by
  obtain ⟨b, off, e, hc⟩ := h j u hu
  cases e
  exact ⟨g, 0, rfl, by rw [hk.cell (World.block_lt_of_cell? w _ hc) hF]; exact hc⟩
set_option maxRecDepth 100000 in
set_option maxHeartbeats 1000000 in
theorem clw_any (w : World) (v : Value) (M : Nat) (xs : List Value) (hown : w.ownsRow 0 75 129 v M xs) (h1 : ∀ u ∈ xs, u.oneCell' = true) (hM : M ≤ 100000) :
    Calls Try.prog 55 #[v] w fun e w' => ∃ v', e = .returned v' ∧ w'.ownsRow w.heap.size 75 129 v' M xs ∧ Kept (fun _ => False) w w' := by
  obtain ⟨i0, hi, hz0, hz1, hz2⟩ := info_parts Try.infoDw
  have qT : ∀ (w : World) (a : Option Addr) (n c n' c' : Nat), (binOp .eql 65 (.slice a n c) (.slice none n' c')).run Try.prog w = .ok (.bool a.isNone) w := fun w a n c n' c' => Lib.run_eql_slice_nil w _ _ a n c n' c' Try.underlying65
  rcases hown.2 with ⟨rfl, hn⟩ | ⟨g, cap, cur, rfl, -, -, hcap, hcm, -⟩
  · subst hn
    have hx : xs = [] := List.eq_nil_of_length_eq_zero (by have := hown.1; omega)
    subst hx
    clear hown
    go_enter Try.func55, Try.ntmps55
    go_wp2_with fail
    go_ret
    exact ⟨_, rfl, World.ownsRow_nil _ _ _ _, Kept.refl _ _⟩
  · have HO := hid_of hown
    have HK1 : Hid (Kept (fun _ => False) w (w.alloc (.cells #[] 75))) := Kept.alloc _ _ _
    have HCS : Hid (CsAt (w.alloc (.cells #[] 75)) (some ⟨g, 0, none⟩) xs) := (cs_of_row hown).kept HK1.out (fun h => h)
    have HE : Hid ((w.alloc (.cells #[] 75)).ownsRow w.heap.size 75 129 (.slice (some ⟨w.heap.size, 0, none⟩) 0 0) 0 []) := ownsRow_empty w _ _ _ (Nat.le_refl _)
    have HLX : Hid (xs.length = M * 129) := hown.1
    have H1 := hid_of h1
    clear hown h1
    go_enter Try.func55, Try.ntmps55
    go_wp2_with (first
      | (refine wpList_bsl0 rfl 65 75 rfl i0 Try.underlying65 hi ?_)
      | (at_builtin; go_must (refine wpList_append_cells _ rfl (.tmp 5) (.tmp 6) 65 rfl w.heap.size 75 i0 _ 129 136 Try.underlying65 hi hz0 hz1 hz2 size_zeroCW (by decide) _ 0 [] rfl HE.out (some ⟨g, 0, none⟩) M cap xs rfl HLX.out HCS.out (fun e => by cases e) H1.out (by unfold maxLen; omega) (by omega) HK1.out.size ?_)))
    intro v' w2 ho hk hv
    have HF : Hid (w2.ownsRow w.heap.size 75 129 v' M xs) := by
      have e := ho.out
      exact e
    have HKF : Hid (Kept (fun _ => False) w w2) := HK1.out.trans' hk.out (fun i hi e => by simp [Value.ownBlock] at e; omega)
    clear ho hk hv
    go_wp2_with fail
    go_ret
    exact ⟨_, rfl, HF.out, HKF.out⟩
set_option maxRecDepth 100000 in
set_option maxHeartbeats 1000000 in
theorem cli_any (w : World) (v : Value) (M : Nat) (xs : List Value) (hown : w.ownsRow 0 3 1 v M xs) (h1 : ∀ u ∈ xs, u.oneCell' = true) (hM : M ≤ 100000) :
    Calls Try.prog 56 #[v] w fun e w' => ∃ v', e = .returned v' ∧ w'.ownsRow w.heap.size 3 1 v' M xs ∧ Kept (fun _ => False) w w' := by
  obtain ⟨i0, hi, hz0, hz1, hz2⟩ := info_parts Try.info3
  have qT : ∀ (w : World) (a : Option Addr) (n c n' c' : Nat), (binOp .eql 45 (.slice a n c) (.slice none n' c')).run Try.prog w = .ok (.bool a.isNone) w := fun w a n c n' c' => Lib.run_eql_slice_nil w _ _ a n c n' c' Try.underlying45
  rcases hown.2 with ⟨rfl, hn⟩ | ⟨g, cap, cur, rfl, -, -, hcap, hcm, -⟩
  · subst hn
    have hx : xs = [] := List.eq_nil_of_length_eq_zero (by have := hown.1; omega)
    subst hx
    clear hown
    go_enter Try.func56, Try.ntmps56
    go_wp2_with fail
    go_ret
    exact ⟨_, rfl, World.ownsRow_nil _ _ _ _, Kept.refl _ _⟩
  · have HO := hid_of hown
    have HK1 : Hid (Kept (fun _ => False) w (w.alloc (.cells #[] 3))) := Kept.alloc _ _ _
    have HCS : Hid (CsAt (w.alloc (.cells #[] 3)) (some ⟨g, 0, none⟩) xs) := (cs_of_row hown).kept HK1.out (fun h => h)
    have HE : Hid ((w.alloc (.cells #[] 3)).ownsRow w.heap.size 3 1 (.slice (some ⟨w.heap.size, 0, none⟩) 0 0) 0 []) := ownsRow_empty w _ _ _ (Nat.le_refl _)
    have HLX : Hid (xs.length = M * 1) := hown.1
    have H1 := hid_of h1
    clear hown h1
    go_enter Try.func56, Try.ntmps56
    go_wp2_with (first
      | (refine wpList_bsl0 rfl 45 3 rfl i0 Try.underlying45 hi ?_)
      | (at_builtin; go_must (refine wpList_append_cells _ rfl (.tmp 5) (.tmp 6) 45 rfl w.heap.size 3 i0 _ 1 8 Try.underlying45 hi hz0 hz1 hz2 rfl (by decide) _ 0 [] rfl HE.out (some ⟨g, 0, none⟩) M cap xs rfl HLX.out HCS.out (fun e => by cases e) H1.out (by unfold maxLen; omega) (by omega) HK1.out.size ?_)))
    intro v' w2 ho hk hv
    have HF : Hid (w2.ownsRow w.heap.size 3 1 v' M xs) := by
      have e := ho.out
      exact e
    have HKF : Hid (Kept (fun _ => False) w w2) := HK1.out.trans' hk.out (fun i hi e => by simp [Value.ownBlock] at e; omega)
    clear ho hk hv
    go_wp2_with fail
    go_ret
    exact ⟨_, rfl, HF.out, HKF.out⟩
set_option maxRecDepth 100000 in
theorem astore_any (a : Addr) (y : Int) (u : Value) (w : World) (hc : w.cell? a = some u) (hz : w.frozen? a = false) :
    Calls Try.prog 57 #[.pointer (some a), .int .i64 y] w fun e w' => e = .returned (.tuple #[]) ∧ w' = w.setCell a (.int .i64 y) := by
  have hl := run_call_store (P := Try.prog) Try.func62 (by kernel_rfl) (by kernel_rfl) (by kernel_rfl) (by kernel_rfl) (k := .i64) (y := y) hc hz
  go_enter Try.func57, Try.ntmps57
  go_wp2
  go_end0
  exact ⟨rfl, rfl⟩

end Go.Proofs.Ytjmeneddhalodaa
