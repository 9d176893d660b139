/- The texts DwP1, DwP2, DwP3, DwP4, DwP5, DwP6, one behind the other. -/
import Derived.Test.YtjmeneddhalodaaPart07
import Derived.BigQuiet
import Derived.Great.Ranges

/- The program's disk: Len, has, Waiting, Dead, sector, stops, Stop, Counts, Image. -/
namespace Go.Proofs.Ytjmeneddhalodaa
set_option linter.unusedVariables false
set_option linter.unusedSimpArgs false
open Go.RowKit Dg

set_option maxRecDepth 100000 in
set_option maxHeartbeats 1000000 in
theorem dwlen_is (w : World) (b : Nat) (x : DwB) (L : List Int) (s : Sk) (h : DwIs w b x L s) (n : Nat) (hn : n = s.B.length / 128) :
    Calls Try.prog 53 #[.pointer (some ⟨b, 0, none⟩)] w fun e w' => e = .returned (.int .i64 (n : Int)) ∧ w = w' := by
  obtain ⟨c0, c1, c2, -⟩ := h.cell
  rw [← hn] at c2
  clear h hn
  go_enter Try.func53, Try.ntmps53
  go_wp2
  go_ret
  exact ⟨rfl, rfl⟩
set_option maxRecDepth 100000 in
set_option maxHeartbeats 1000000 in
theorem dwhas_is (w : World) (b : Nat) (x : DwB) (L : List Int) (s : Sk) (h : DwIs w b x L s) (i : Int) (hi : I64 i) (R : Bool) (hR : R = decide (s.fits i)) :
    Calls Try.prog 36 #[.pointer (some ⟨b, 0, none⟩), .int .i64 i] w fun e w' => e = .returned (.bool R) ∧ w = w' := by
  obtain ⟨n, hn⟩ : ∃ n, n = s.B.length / 128 := ⟨_, rfl⟩
  have HL := hid_of (dwlen_is w b x L s h n hn)
  obtain ⟨hi1, hi2⟩ := hi
  have hnl : n ≤ 4096 := by have := h.fine.le; omega
  rcases (by omega : i < 0 ∨ (0 ≤ i ∧ i < (n : Int)) ∨ (0 ≤ i ∧ (n : Int) ≤ i)) with h1 | ⟨h1, h2⟩ | ⟨h1, h2⟩
  · have hR' : R = false := by rw [hR]; exact decide_eq_false (fun e => by have := e.1; omega)
    subst hR'
    clear h hn hR
    go_enter Try.func36, Try.ntmps36
    go_wp2_with fail
    go_ret
    exact ⟨rfl, rfl⟩
  · have hR' : R = true := by rw [hR]; exact decide_eq_true ⟨h1, by rw [← hn]; exact h2⟩
    subst hR'
    clear h hn hR
    go_enter Try.func36, Try.ntmps36
    go_wp2_with fail
    refine HL.out.mono ?_
    rintro e w1 ⟨rfl, rfl⟩
    go_wp2_with fail
    go_ret
    exact ⟨rfl, rfl⟩
  · have hR' : R = false := by rw [hR]; exact decide_eq_false (fun e => by have := e.2; rw [← hn] at this; omega)
    subst hR'
    have hb : decide (i < (n : Int)) = false := decide_eq_false (by omega)
    clear h hn hR
    go_enter Try.func36, Try.ntmps36
    go_wp2_with fail
    refine HL.out.mono ?_
    rintro e w1 ⟨rfl, rfl⟩
    go_wp2_with fail
    go_ret
    exact ⟨rfl, rfl⟩
set_option maxRecDepth 100000 in
set_option maxHeartbeats 1000000 in
theorem dwwait_is (w : World) (b : Nat) (x : DwB) (L : List Int) (s : Sk) (h : DwIs w b x L s) (n : Nat) (hn : n = s.W.length) :
    Calls Try.prog 17 #[.pointer (some ⟨b, 0, none⟩)] w fun e w' => e = .returned (.int .i64 (n : Int)) ∧ w = w' := by
  obtain ⟨c0, c1, -⟩ := h.cell
  obtain ⟨a, c, hv, -⟩ := h.form
  rw [hv, ← hn] at c1
  clear h hn hv
  go_enter Try.func17, Try.ntmps17
  go_wp2
  go_ret
  exact ⟨rfl, rfl⟩
set_option maxRecDepth 100000 in
set_option maxHeartbeats 1000000 in
theorem dwdead_is (w : World) (b : Nat) (x : DwB) (L : List Int) (s : Sk) (h : DwIs w b x L s) (q : Bool) (hq : q = s.dead) :
    Calls Try.prog 14 #[.pointer (some ⟨b, 0, none⟩)] w fun e w' => e = .returned (.bool q) ∧ w = w' := by
  obtain ⟨c0, c1, c2, c3, c4, c5, -⟩ := h.cell
  rw [← hq] at c5
  clear h hq
  go_enter Try.func14, Try.ntmps14
  go_wp2
  go_ret
  exact ⟨rfl, rfl⟩
theorem DwIs.cap {w : World} {b : Nat} {x : DwB} {L : List Int} {s : Sk} (h : DwIs w b x L s) : s.B.length ≤ x.cK ∧ s.B.length / 128 ≤ x.cL ∧ L.length = s.B.length / 128 := by
  refine ⟨(own_cap h.bs).1, ?_⟩
  rcases h.ls.2 with ⟨e, _⟩ | ⟨g, cap, cur, e, _, _, hn, -⟩
  · cases e
  · simp only [Value.slice.injEq, Option.some.injEq] at e
    obtain ⟨-, e2, e3⟩ := e
    exact ⟨by rw [e2, e3]; exact hn, e2.symm⟩
set_option maxRecDepth 100000 in
set_option maxHeartbeats 1000000 in
theorem dwsector_is (w : World) (b : Nat) (x : DwB) (L : List Int) (s : Sk) (h : DwIs w b x L s) (k : Nat) (hk : k * 128 + 128 ≤ s.B.length) (lo cc : Nat) (hlo : lo = k * 128) (hcc : cc = x.cK - lo) :
    Calls Try.prog 40 #[.pointer (some ⟨b, 0, none⟩), .int .i64 (k : Int)] w fun e w' => e = .returned (.slice (some ⟨x.gK, lo, none⟩) 128 cc) ∧ w = w' := by
  obtain ⟨c0, -⟩ := h.cell
  have hcap := h.cap.1
  have hle := h.fine.le
  obtain ⟨N, hN⟩ : ∃ N, N = s.B.length := ⟨_, rfl⟩
  rw [← hN] at c0 hk hcap hle
  have hkl : k ≤ 4096 := by omega
  have hlo' : (k : Int) * 128 = (lo : Int) := by omega
  have h1 : ∀ W : World, (Instr.sliceAt 30 (.slice (some ⟨x.gK, 0, none⟩) N x.cK) (some (.int .i64 (lo : Int))) none none).run Try.prog W = .ok (.slice (some ⟨x.gK, lo, none⟩) (N - lo) cc) W := fun W => by
    have e := slice_lo (some ⟨x.gK, 0, none⟩) N x.cK lo (by omega) W
    unfold lowA at e
    rw [if_neg (by omega)] at e
    have e2 : (some (⟨x.gK, 0, none⟩ : Addr)).map (·.add lo) = some ⟨x.gK, lo, none⟩ := by simp [Addr.add]; exact fun e => e.symm
    rw [e2, ← hcc] at e
    exact e
  have h2 : ∀ W : World, (Instr.sliceAt 30 (.slice (some ⟨x.gK, lo, none⟩) (N - lo) cc) none (some (.int .i64 128)) none).run Try.prog W = .ok (.slice (some ⟨x.gK, lo, none⟩) 128 cc) W := fun W => slice_hi _ _ _ 128 (by omega) W
  clear h hN hlo hcc
  go_enter Try.func40, Try.ntmps40
  go_wp2_with fail
  go_ret
  exact ⟨rfl, rfl⟩
set_option maxRecDepth 100000 in
set_option maxHeartbeats 1000000 in
theorem dwstops_is (w : World) (b : Nat) (x : DwB) (L : List Int) (s : Sk) (h : DwIs w b x L s) :
    Calls Try.prog 37 #[.pointer (some ⟨b, 0, none⟩)] w fun e w' => e = .returned (.bool s.arm.dead) ∧ DwIs w' b x L s.arm ∧ Kept (fun k => k = b) w w' := by
  obtain ⟨c0, c1, c2, c3, c4, c5, -⟩ := h.cell
  have f5 := h.froz 5
  have H := hid_of h
  rcases hst : s.stop with _ | k
  · have e : s.arm = s := by unfold Sk.arm; rw [hst]; rfl
    rw [e]
    rw [hst] at c3
    change _ = some (Value.bool false) at c3
    clear h hst e
    go_enter Try.func37, Try.ntmps37
    go_wp2
    go_ret
    exact ⟨rfl, H.out, Kept.refl _ _⟩
  · have ha := h.at1 k hst
    rw [hst] at c3
    change _ = some (Value.bool true) at c3
    by_cases hk : k = 0
    · subst hk
      have e : s.arm = { s with dead := true } := by unfold Sk.arm; rw [hst]; rfl
      rw [e]
      rw [ha] at c4
      change _ = some (Value.int .i64 0) at c4
      have H1 : Hid (DwIs (w.setCell ⟨b, 5, none⟩ (.bool true)) b x L { s with dead := true }) := by
        refine h.put (s' := { s with dead := true }) (Kept.setCell _ _ _ rfl) rfl rfl rfl ?_ h.at1 h.at2
        rw [heap_setCell_of h.box]
        rfl
      clear h hst e ha
      go_enter Try.func37, Try.ntmps37
      go_wp2
      go_ret
      exact ⟨rfl, H1.out, Kept.setCell _ _ _ rfl⟩
    · have e : s.arm = s := by unfold Sk.arm; rw [hst, if_neg (by simpa using hk)]
      rw [e]
      have hne : (x.left == 0) = false := beq_eq_false_iff_ne.2 (by rw [ha]; omega)
      clear h hst e ha
      go_enter Try.func37, Try.ntmps37
      go_wp2
      go_ret
      exact ⟨rfl, H.out, Kept.refl _ _⟩
set_option maxRecDepth 100000 in
set_option maxHeartbeats 1000000 in
theorem dwstop_is (w : World) (b : Nat) (x : DwB) (L : List Int) (s : Sk) (h : DwIs w b x L s) (a : Int) (ha : I64 a) :
    Calls Try.prog 11 #[.pointer (some ⟨b, 0, none⟩), .int .i64 a] w fun e w' => e = .returned (.tuple #[]) ∧ (∃ m, DwIs w' b { x with left := m } L (s.stopS a)) ∧ Kept (fun k => k = b) w w' := by
  have f3 := h.froz 3
  have f4 := h.froz 4
  obtain ⟨c0, c1, c2, c3, c4, -⟩ := h.cell
  obtain ⟨ha1, ha2⟩ := ha
  have HK : Hid (∀ m : Value, Kept (fun k => k = b) w ((w.setCell ⟨b, 3, none⟩ (.bool true)).setCell ⟨b, 4, none⟩ m)) := fun m => (Kept.setCell (F := fun k => k = b) _ _ _ rfl).trans (Kept.setCell _ _ _ rfl)
  have H1 : Hid (∀ m : Int, m = (a.toNat : Int) → DwIs ((w.setCell ⟨b, 3, none⟩ (.bool true)).setCell ⟨b, 4, none⟩ (.int .i64 m)) b { x with left := m } L (s.stopS a)) := fun m hm => by
    refine h.put (s' := s.stopS a) (x' := { x with left := m }) (HK.out _) rfl rfl rfl ?_ (fun k hk => ?_) ?_
    · rw [heap_setCell_of (heap_setCell_of h.box _)]
      rfl
    · have e : a.toNat = k := by simpa [Sk.stopS] using hk
      show m = _
      rw [hm, e]
    · show 0 ≤ m ∧ m ≤ _
      omega
  clear h
  rcases (by omega : a < 0 ∨ 0 ≤ a) with hneg | hpos
  · go_enter Try.func11, Try.ntmps11
    go_wp2
    go_end0
    first | exact ⟨rfl, ⟨0, H1.out 0 (by omega)⟩, HK.out _⟩ | exact ⟨rfl, ⟨max a 0, H1.out (max a 0) (by omega)⟩, HK.out _⟩
  · go_enter Try.func11, Try.ntmps11
    go_wp2
    go_end0
    first | exact ⟨rfl, ⟨a, H1.out a (by omega)⟩, HK.out _⟩ | exact ⟨rfl, ⟨max a 0, H1.out (max a 0) (by omega)⟩, HK.out _⟩
set_option maxRecDepth 100000 in
set_option maxHeartbeats 1000000 in
theorem dwcounts_is (w : World) (b : Nat) (x : DwB) (L : List Int) (s : Sk) (h : DwIs w b x L s) :
    Calls Try.prog 52 #[.pointer (some ⟨b, 0, none⟩)] w fun e w' => e = .returned (.tuple #[.int .i64 (s.reads : Int), .int .i64 (s.writes : Int), .int .i64 (s.flushes : Int)]) ∧ ∃ d, w' = w.drewN d := by
  obtain ⟨-, -, -, -, -, -, c6, c7, c8⟩ := h.cell
  clear h
  go_enter Try.func52, Try.ntmps52
  go_wp2_with fail
  go_quiet (first
    | (go_at_call_of 58 (Value.pointer (some ⟨b, 6, none⟩)); exact aload_quiet _ _ _ _ c6)
    | (go_at_call_of 58 (Value.pointer (some ⟨b, 7, none⟩)); exact aload_quiet _ _ _ _ c7)
    | (go_at_call_of 58 (Value.pointer (some ⟨b, 8, none⟩)); exact aload_quiet _ _ _ _ c8))
  go_wp2_with fail
  go_ret3
  exact ⟨rfl, nq, rfl⟩

end Go.Proofs.Ytjmeneddhalodaa

/- The program's disk: Image, New, From. -/
namespace Go.Proofs.Ytjmeneddhalodaa
set_option linter.unusedVariables false
set_option linter.unusedSimpArgs false
open Go.RowKit Dg

/-- 'append([]byte{}, x...)' of some bytes, the whole row told. -/
theorem wpList_append_whole0 (w : World) {ops : Array Oper} {rest : List Oper} {o : Oper} {a : Act} {Q : Exit → Act → World → Prop}
    (hgd : o.guard = none) (s x : Operand) (ho : o.op = .call { callee := .builtin .append, args := #[s, x], argTypes := #[30, 30] })
    (g0 : Nat) (hs : a.eval s = .slice (some ⟨g0, 0, none⟩) 0 0) (xa : Option Addr) (xc n : Nat) (m : List Nat) (hn : m.length = n) (hx : a.eval x = .slice xa n xc) (hm : Bs w xa xc m) (h0 : 0 < n) (hl : n ≤ 1000000)
    (h : ∀ g c w', Hid (WholeB w' w.heap.size (.slice (some ⟨g, 0, none⟩) n c) m) → Hid (Kept (fun _ => False) w w') → wpList Try.prog ops Q rest (a.put o.dst (.slice (some ⟨g, 0, none⟩) n c)) w') : wpList Try.prog ops Q (o :: rest) a w := by
  subst hn
  obtain ⟨i0, hi, hz0, hz1, hz2⟩ := info_parts Try.info5
  obtain ⟨b, off, rfl, -⟩ := sl_cell hm.at_ (List.getElem?_eq_getElem h0)
  have hcell : ∀ j u, (u8s m)[j]? = some u → w.cell? ((⟨b, off, none⟩ : Addr).add j) = some u := by
    intro j u hu
    rw [u8s_get] at hu
    obtain ⟨y, hy, rfl⟩ := Option.map_eq_some_iff.1 hu
    obtain ⟨b', off', e, hc⟩ := sl_cell hm.at_ hy
    cases e
    have hadd : (⟨b, off, none⟩ : Addr).add j = ⟨b, off + j, none⟩ := by simp [Addr.add]
    rw [hadd]
    exact hc
  have hrun := run_append_grow (P := Try.prog) w 30 o.type 5 i0 (.int .u8 0) Try.underlying30 hi hz0 ⟨g0, 0, none⟩ 0 0 [] (by simp) (fun j v e => by simp at e) ⟨b, off, none⟩ m.length xc (u8s m) (by rw [hz1]; simp) hcell (by omega) (by omega) (by rw [hz2, Nat.zero_add, nextslicecap_zero h0]; omega)
  rw [Nat.zero_add] at hrun
  have hge := grownCap_ge w m.length 0 5
  have hle := grownCap_le_maxLen w m.length 0 5 (by unfold maxLen; omega)
  refine wpList_plain hgd fun K hK => ?_
  unfold Oper.wp
  simp [execOp, ho, resolve, invoke, builtin, hs, hx, hrun, Result.andThen]
  refine hK _ _ (h w.heap.size (grownCap w m.length 0 5) _ (.inr ⟨w.heap.size, m ++ List.replicate (grownCap w m.length 0 5 - m.length) 0, ?_, Nat.le_refl _, ?_, ?_, ?_, ?_⟩) ?_)
  · simp; omega
  · show _ = _
    have e : (u8s (m ++ List.replicate (grownCap w m.length 0 5 - m.length) 0)).toArray = (u8s m).toArray ++ Builtin.zeroCells (Value.int .u8 0).cells (grownCap w m.length 0 5 - m.length) := by
      apply Array.ext'
      rw [u8s_append, Array.toList_append, zeros_u8]
    rw [e]
    exact heap_alloc_new w.drew _
  · simp
  · simp
  · simp; omega
  · exact ⟨rfl, rfl, rfl, by simp, fun k hk _ => Below.heap_alloc w.drew _ k hk⟩
set_option maxHeartbeats 1000000 in
set_option maxRecDepth 100000 in
/-- 'bytes.Clone' of some bytes, the whole row told. -/
theorem bclone_whole (w : World) (a : Option Addr) (n c : Nat) (l : List Nat) (hn : l.length = n) (h0 : 0 < n) (hl : n ≤ 1000000) (h : Bs w a c l) :
    Calls Try.prog 39 #[.slice a n c] w fun e w' => ∃ g cap, e = .returned (.slice (some ⟨g, 0, none⟩) n cap) ∧ WholeB w' w.heap.size (.slice (some ⟨g, 0, none⟩) n cap) l ∧ Kept (fun _ => False) w w' := by
  subst hn
  obtain ⟨b, off, rfl, -⟩ := sl_cell h.at_ (List.getElem?_eq_getElem h0)
  have HBS : Hid (Bs w (some ⟨b, off, none⟩) c l) := h
  have qT : ∀ (w : World) (a : Option Addr) (n c n' c' : Nat), (binOp .eql 30 (.slice a n c) (.slice none n' c')).run Try.prog w = .ok (.bool a.isNone) w := fun w a n c n' c' => Lib.run_eql_slice_nil w _ _ a n c n' c' Try.underlying30
  have hk1 : Kept (fun _ => False) w (w.alloc (.cells #[] 5)) := Kept.alloc _ _ _
  have HK1 := hid_of hk1
  obtain ⟨N, hN⟩ : ∃ N, N = l.length := ⟨_, rfl⟩
  rw [← hN] at h0 hl
  have HN := hid_of hN
  have HB1 : Hid (Bs (w.alloc (.cells #[] 5)) (some ⟨b, off, none⟩) c l) := HBS.out.kept hk1 (fun _ _ _ h => h)
  rw [← hN]
  clear h hk1 hN
  go_enter Try.func39, Try.ntmps39
  go_wp2_with (at_builtin; go_must (refine wpList_append_whole0 _ rfl (.tmp 5) (.tmp 6) rfl w.heap.size rfl (some ⟨b, off, none⟩) c N l HN.out.symm rfl HB1.out h0 hl ?_))
  intro g cap w2 ho2 hk2
  have HO2 := ho2
  have HK2 : Hid (Kept (fun _ => False) w w2) := HK1.out.trans hk2.out
  have HW : Hid (WholeB w2 w.heap.size (.slice (some ⟨g, 0, none⟩) N cap) l) := ho2.out.base (Nat.le_succ _)
  clear ho2 hk2
  go_wp2_with fail
  go_ret
  exact ⟨g, cap, rfl, HW.out, HK2.out⟩
set_option maxRecDepth 100000 in
set_option maxHeartbeats 1000000 in
theorem dwimage_is (w : World) (b : Nat) (x : DwB) (L : List Int) (s : Sk) (h : DwIs w b x L s) :
    Calls Try.prog 25 #[.pointer (some ⟨b, 0, none⟩)] w fun e w' => ∃ v, e = .returned v ∧ OwnBytes w' w.heap.size v s.B ∧ Kept (fun _ => False) w w' := by
  obtain ⟨c0, -⟩ := h.cell
  have HB : Hid (Bs w (some ⟨x.gK, 0, none⟩) x.cK s.B) := Bs.own h.bs
  have h1 := h.fine.le
  have h2 := h.fine.pos
  obtain ⟨N, hN⟩ : ∃ N, N = s.B.length := ⟨_, rfl⟩
  rw [← hN] at c0 h1 h2
  have HC := hid_of (bclone_whole w (some ⟨x.gK, 0, none⟩) N x.cK s.B hN.symm (by omega) (by omega) HB.out)
  clear h hN
  go_enter Try.func25, Try.ntmps25
  go_wp2_with fail
  refine HC.out.mono ?_
  rintro e w2 ⟨g, cap, rfl, ho, hk⟩
  have HO := hid_of ho
  have HK := hid_of hk
  clear ho hk
  go_wp2_with fail
  go_ret
  exact ⟨_, rfl, HO.out.own, HK.out⟩
set_option maxRecDepth 100000 in
set_option maxHeartbeats 1000000 in
theorem dwhold_any (w : World) (g c n N base : Nat) (B : List Nat) (hN : N = n * 128) (h1 : 1 ≤ n) (h2 : n ≤ 4096) (hB : B.length = N) (hO : w.ownsRow base 5 1 (.slice (some ⟨g, 0, none⟩) N c) N (u8s B)) (h256 : ∀ x ∈ B, x < 256) :
    Calls Try.prog 35 #[.slice (some ⟨g, 0, none⟩) N c] w fun e w' => ∃ (b : Nat) (F G : Nat → Prop), e = .returned (.pointer (some ⟨b, 0, none⟩)) ∧ DwAt w' b F G (fromS B) ∧ (∀ k, G k → base ≤ k ∨ w.heap.size ≤ k) ∧ Below w.heap.size w w' := by
  obtain ⟨i0, hi, hz0, hz1, hz2⟩ := info_parts Try.info3
  have hNl : N ≤ 1000000 := by omega
  have hq : (N : Int) / 128 = (n : Int) := by omega
  have HO := hid_of hO
  have HB := hid_of hB
  have H256 := hid_of h256
  have HN := hid_of hN
  clear hO hB h256 hN
  go_enter Try.func35, Try.ntmps35
  go_wp2_with (at_make; refine wpList_make_full _ rfl _ _ 45 rfl w.heap.size 3 i0 (.int .i64 0) 1 Try.underlying45 hi hz0 hz1 _ _ _ _ n rfl rfl rfl rfl (by rw [hz2]; omega) (by unfold maxLen; omega) (Nat.le_refl _) ?_)
  intro w2 hown hgr
  have HB2 : Hid (Below w.heap.size w w2) := (Below.refl _ _).grown hgr (Nat.le_refl _) (fun k hk => by cases hk)
  have HL : Hid (w2.ownsRow w.heap.size 3 1 (.slice (some ⟨w.heap.size, 0, none⟩) n n) n (i64s (List.replicate n 0))) := by have e := madeI n; rw [Nat.mul_one] at e; rw [← e]; exact hown
  clear hown hgr
  go_wp2_with fail
  go_ret
  have hs2 : w.heap.size < w2.heap.size := (World.ownsRow.lt HL.out _ rfl).2
  have hg : base ≤ g ∧ g < w.heap.size := World.ownsRow.lt HO.out g rfl
  obtain ⟨w3, hw3⟩ : ∃ w3, w3 = w2.alloc (.cells #[.slice (some ⟨g, 0, none⟩) N c, .slice none 0 0, .slice (some ⟨w.heap.size, 0, none⟩) n n, .bool false, .int .i64 0, .bool false, .int .i64 0, .int .i64 0, .int .i64 0] 72) := ⟨_, rfl⟩
  have hk3 : Kept (fun _ => False) w2 w3 := by rw [hw3]; exact Kept.alloc _ _ _
  have hk2 : Kept (fun _ => False) w w2 := Kept.of_below HB2.out
  have hb3 : w3.heap[w2.heap.size]? = some (.cells #[.slice (some ⟨g, 0, none⟩) N c, .slice none 0 0, .slice (some ⟨w.heap.size, 0, none⟩) n n, .bool false, .int .i64 0, .bool false, .int .i64 0, .int .i64 0, .int .i64 0] 72 (0, 0)) := by rw [hw3]; exact heap_alloc_new w2 _
  have hs3 : w3.heap.size = w2.heap.size + 1 := by rw [hw3]; simp
  have hdiv : (fromS B).B.length / 128 = n := by show B.length / 128 = n; rw [HB.out, HN.out]; omega
  have hBl : (fromS B).B.length = N := HB.out
  refine ⟨w2.heap.size, fun k => k = w2.heap.size ∨ k = g ∨ k = w.heap.size, fun k => k = w2.heap.size ∨ k = g ∨ k = w.heap.size, rfl, ⟨⟨g, c, .slice none 0 0, w.heap.size, n, 0⟩, ?_, fun k e => ?_, fun _ h => h, fun k e => ?_⟩, fun k e => ?_, HB2.out.alloc (by omega) _⟩
  · rw [hw3] at hb3 hk3
    refine ⟨?_, ?_, ?_, World.ownsRow_nil _ _ _ _, (fun k e => by cases e), (by show (0 : Int) ≤ 0 ∧ (0 : Int) ≤ 9223372036854775807; decide), ⟨⟨n, h1, h2, by show B.length = _; rw [HB.out, HN.out]⟩, H256.out, (fun p hp => by cases hp)⟩, ⟨by show w2.heap.size ≠ g; omega, by show w2.heap.size ≠ w.heap.size; omega, by show g ≠ w.heap.size; omega⟩, ⟨by simp [Value.ownBlock], by simp [Value.ownBlock], by simp [Value.ownBlock]⟩⟩
    · rw [hdiv, hBl]; exact hb3
    · unfold OwnBytes
      rw [hBl]
      exact ownsRow_other (ownsRow_other (own0 HO.out) hk2 (fun _ _ h => h)) hk3 (fun _ _ h => h)
    · show OwnInts _ _ (.slice _ ((fromS B).B.length / 128) _) (lastI [] ((fromS B).B.length / 128))
      rw [hdiv, lastI_nil]
      show World.ownsRow _ _ _ _ _ _ _
      have e : (List.replicate n (0 : Int)).length = n := by simp
      rw [e]
      exact ownsRow_other (own0 HL.out) hk3 (fun _ _ h => h)
  · rcases e with e | e | e | e
    · exact .inl e
    · exact .inr (.inl e)
    · exact .inr (.inr e)
    · cases e
  · rw [← hw3, hs3]
    omega
  · omega
set_option maxRecDepth 100000 in
set_option maxHeartbeats 1000000 in
theorem dwsize_any (w : World) (n : Int) (R : Bool) (hR : R = decide (1 ≤ n ∧ n ≤ 4096)) :
    Calls Try.prog 34 #[.int .i64 n] w fun e w' => e = .returned (.bool R) ∧ w = w' := by
  rcases (by omega : n < 1 ∨ (1 ≤ n ∧ 4096 < n) ∨ (1 ≤ n ∧ n ≤ 4096)) with h1 | ⟨h1, h2⟩ | ⟨h1, h2⟩
  · have hR' : R = false := by rw [hR]; exact decide_eq_false (by omega)
    subst hR'
    have hb : decide (1 ≤ n) = false := decide_eq_false (by omega)
    clear hR
    go_enter Try.func34, Try.ntmps34
    go_wp2_with fail
    go_ret
    exact ⟨rfl, rfl⟩
  · have hR' : R = false := by rw [hR]; exact decide_eq_false (by omega)
    subst hR'
    have hb : decide (1 ≤ n) = true := decide_eq_true (by omega)
    have hb2 : decide (n ≤ 4096) = false := decide_eq_false (by omega)
    clear hR
    go_enter Try.func34, Try.ntmps34
    go_wp2_with fail
    go_ret
    exact ⟨rfl, rfl⟩
  · have hR' : R = true := by rw [hR]; exact decide_eq_true (by omega)
    subst hR'
    have hb : decide (1 ≤ n) = true := decide_eq_true (by omega)
    have hb2 : decide (n ≤ 4096) = true := decide_eq_true (by omega)
    clear hR
    go_enter Try.func34, Try.ntmps34
    go_wp2_with fail
    go_ret
    exact ⟨rfl, rfl⟩
set_option maxRecDepth 100000 in
set_option maxHeartbeats 1000000 in
theorem dwnew_any (w : World) (n : Nat) (h1 : 1 ≤ n) (h2 : n ≤ 4096) : Calls Try.prog 10 #[.int .i64 (n : Int)] w fun e w' => ∃ (b : Nat) (F G : Nat → Prop), e = .returned (.tuple #[.pointer (some ⟨b, 0, none⟩), .int .i64 0]) ∧ DwAt w' b F G (newS n) ∧ (∀ k, G k → w.heap.size ≤ k) ∧ Below w.heap.size w w' := by
  obtain ⟨i0, hi, hz0, hz1, hz2⟩ := info_parts Try.info5
  obtain ⟨N, hN⟩ : ∃ N, N = n * 128 := ⟨_, rfl⟩
  have hNN : (n : Int) * 128 = (N : Int) := by omega
  have hNl : N ≤ 1000000 := by omega
  have HNN := hid_of hN
  have HS := hid_of (dwsize_any w (n : Int) true (decide_eq_true (by omega)).symm)
  clear hN
  go_enter Try.func10, Try.ntmps10
  go_wp2_with fail
  refine HS.out.mono ?_
  rintro e w1 ⟨rfl, rfl⟩
  go_wp2_with (at_make; refine wpList_make_full _ rfl _ _ 30 rfl w.heap.size 5 i0 (.int .u8 0) 1 Try.underlying30 hi hz0 hz1 _ _ _ _ N rfl rfl rfl rfl (by rw [hz2]; omega) (by unfold maxLen; omega) (Nat.le_refl _) ?_)
  intro w2 hown hgr
  have HB2 : Hid (Below w.heap.size w w2) := (Below.refl _ _).grown hgr (Nat.le_refl _) (fun k hk => by cases hk)
  have HO : Hid (w2.ownsRow w.heap.size 5 1 (.slice (some ⟨w.heap.size, 0, none⟩) N N) N (u8s (List.replicate N 0))) := by have e := made_zeros N; rw [Nat.mul_one] at e; rw [← e]; exact hown
  clear hown hgr
  have HC := hid_of (dwhold_any w2 w.heap.size N n N w.heap.size (List.replicate N 0) HNN.out h1 h2 (by simp) HO.out (fun x hx => by have := (List.mem_replicate.1 hx).2; omega))
  go_wp2_with fail
  refine HC.out.mono ?_
  rintro e w3 ⟨b, F, G, rfl, hd, hG, hb⟩
  have HD : Hid (DwAt w3 b F G (newS n)) := by
    have e : newS n = fromS (List.replicate N 0) := by rw [HNN.out]; rfl
    rw [e]; exact hd
  have HB3 : Hid (Below w.heap.size w w3) := HB2.out.trans (hb.mono HB2.out.size)
  have HG : Hid (∀ k, G k → w.heap.size ≤ k) := fun k e => by
    rcases hG k e with h | h
    · exact h
    · exact Nat.le_trans HB2.out.size h
  clear hd hG hb HC
  go_wp2_with fail
  go_ret2
  exact ⟨b, F, G, rfl, HD.out, HG.out, HB3.out⟩
set_option maxRecDepth 100000 in
set_option maxHeartbeats 1000000 in
theorem dwnew_no (w : World) (n : Int) (h : ¬ (1 ≤ n ∧ n ≤ 4096)) (hi : I64 n) : Calls Try.prog 10 #[.int .i64 n] w fun e w' => e = .returned (.tuple #[.pointer none, .int .i64 1]) ∧ Kept (fun _ => False) w w' := by
  have HS := hid_of (dwsize_any w n false (decide_eq_false h).symm)
  clear h
  go_enter Try.func10, Try.ntmps10
  go_wp2_with fail
  refine HS.out.mono ?_
  rintro e w1 ⟨rfl, rfl⟩
  go_wp2_with fail
  go_ret2
  exact ⟨rfl, Kept.refl _ _⟩
set_option maxRecDepth 100000 in
set_option maxHeartbeats 1000000 in
theorem dwfrom_any (w : World) (a : Option Addr) (n cap : Nat) (l : List Nat) (hl : l.length = n) (hb : Bs w a cap l) (h256 : ∀ x ∈ l, x < 256) (hd : diskLen n) : Calls Try.prog 31 #[.slice a n cap] w fun e w' => ∃ (b : Nat) (F G : Nat → Prop), e = .returned (.tuple #[.pointer (some ⟨b, 0, none⟩), .int .i64 0]) ∧ DwAt w' b F G (fromS l) ∧ (∀ k, G k → w.heap.size ≤ k) ∧ Below w.heap.size w w' := by
  obtain ⟨h1, h2, h3⟩ := hd
  obtain ⟨m, hm⟩ : ∃ m, m = n / 128 := ⟨_, rfl⟩
  have hq : (n : Int) / 128 = (m : Int) := by omega
  have hr : (n : Int) % 128 = 0 := by omega
  have HL := hid_of hl
  have HB := hid_of hb
  have H256 := hid_of h256
  have HM : Hid (n = m * 128) := by show _ = _; omega
  have HS := hid_of (dwsize_any w (m : Int) true (decide_eq_true (by omega)).symm)
  have HC := hid_of (bclone_whole w a n cap l hl (by omega) (by omega) hb)
  have hm1 : 1 ≤ m := by omega
  have hm2 : m ≤ 4096 := by omega
  clear hl hb h256 hm h1
  go_enter Try.func31, Try.ntmps31
  go_wp2_with fail
  refine HS.out.mono ?_
  rintro e w1 ⟨rfl, rfl⟩
  go_wp2_with fail
  refine HC.out.mono ?_
  rintro e w2 ⟨g, c, rfl, ho, hk⟩
  have HK := hid_of hk
  have HO : Hid (w2.ownsRow w.heap.size 5 1 (.slice (some ⟨g, 0, none⟩) n c) n (u8s l)) := by
    have e := ho.own
    unfold OwnBytes at e
    rw [HL.out] at e
    exact e
  have HCH := hid_of (dwhold_any w2 g c m n w.heap.size l HM.out hm1 hm2 HL.out HO.out H256.out)
  clear hk ho HC
  go_wp2_with fail
  refine HCH.out.mono ?_
  rintro e w3 ⟨b, F, G, rfl, hd, hG, hb⟩
  have HD := hid_of hd
  have HB3 : Hid (Below w.heap.size w w3) := ((HK.out.below_of (Below.refl _ _) (fun _ h => h.elim) (Nat.le_refl _))).trans (hb.mono HK.out.size)
  have HG : Hid (∀ k, G k → w.heap.size ≤ k) := fun k e => by
    rcases hG k e with h | h
    · exact h
    · exact Nat.le_trans HK.out.size h
  clear hd hG hb HCH
  go_wp2_with fail
  go_ret2
  exact ⟨b, F, G, rfl, HD.out, HG.out, HB3.out⟩
set_option maxRecDepth 100000 in
set_option maxHeartbeats 1000000 in
theorem dwfrom_no (w : World) (a : Option Addr) (n cap : Nat) (l : List Nat) (hl : l.length = n) (hb : Bs w a cap l) (hn : n ≤ 100000000) (hd : ¬ diskLen n) : Calls Try.prog 31 #[.slice a n cap] w fun e w' => e = .returned (.tuple #[.pointer none, .int .i64 1]) ∧ Kept (fun _ => False) w w' := by
  obtain ⟨m, hm⟩ : ∃ m, m = n / 128 := ⟨_, rfl⟩
  have hq : (n : Int) / 128 = (m : Int) := by omega
  by_cases h1 : n % 128 = 0
  · have hr : (n : Int) % 128 = 0 := by omega
    have HS := hid_of (dwsize_any w (m : Int) false (decide_eq_false (fun e => hd ⟨h1, by omega, by omega⟩)).symm)
    clear hl hb hd hm h1
    go_enter Try.func31, Try.ntmps31
    go_wp2_with fail
    refine HS.out.mono ?_
    rintro e w1 ⟨rfl, rfl⟩
    go_wp2_with fail
    go_ret2
    exact ⟨rfl, Kept.refl _ _⟩
  · have hr : ((n : Int) % 128 != 0) = true := by simp; omega
    clear hl hb hd hm h1
    go_enter Try.func31, Try.ntmps31
    go_wp2_with fail
    go_ret2
    exact ⟨rfl, Kept.refl _ _⟩

end Go.Proofs.Ytjmeneddhalodaa

/- The program's disk: a write by value; keep. -/
namespace Go.Proofs.Ytjmeneddhalodaa
set_option linter.unusedVariables false
set_option linter.unusedSimpArgs false
open Go.RowKit Dg

theorem oneC_u8 (l : List Nat) : ∀ u ∈ u8s l, u.oneCell' = true := by
  intro u hu
  obtain ⟨x, -, rfl⟩ := List.mem_map.1 hu
  rfl
def zeroCW : Array Value := (cellsP (0, List.replicate 128 0)).toArray
set_option maxRecDepth 100000 in
theorem Try.infoDw : (Try.prog.info? 75).map (fun i => (i.zero, i.size, i.bytes)) = some (some (.agg zeroCW), 129, 136) := by kernel_rfl
theorem zeroDw (w : World) : (zeroValue 75).run Try.prog w = .ok (.agg zeroCW) w := by
  obtain ⟨i0, hi, hz0, hz1, hz2⟩ := info_parts Try.infoDw
  simp [zeroValue, typeInfo, hi, hz0]
theorem sizeDw : (Try.prog.info? 75).map (·.size) = some 129 := by
  obtain ⟨i0, hi, hz0, hz1, hz2⟩ := info_parts Try.infoDw
  simp [hi, hz1]
theorem size_zeroCW : zeroCW.size = 129 := by simp [zeroCW, length_cellsP]
/-- 'var w write'. -/
theorem wpList_alloc_dw {ops : Array Oper} {rest : List Oper} {o : Oper} {a : Act} {w : World} {Q : Exit → Act → World → Prop} (hg : o.guard = none) (ho : o.op = .alloc 75)
    (h : wpList Try.prog ops Q rest (a.put o.dst (.pointer (some ⟨w.heap.size, 0, none⟩))) (w.alloc (.cells zeroCW 75))) : wpList Try.prog ops Q (o :: rest) a w := by
  refine wpList_plain hg fun K hK => ?_
  unfold Oper.wp execOp
  simp only [ho, Sem.run_bind, Instr.alloc, zeroDw, newVar, newRow, run_newObj_alloc, Sem.run_pure, Result.andThen_ok]
  exact hK _ _ h
/-- A write laid into the variable that was made last. -/
theorem wpList_store_dw {ops : Array Oper} {rest : List Oper} {o : Oper} {a : Act} {w : World} {Q : Exit → Act → World → Prop} (hg : o.guard = none) (x y : Operand) (ho : o.op = .store 75 x y) (hx : a.eval x = .pointer (some ⟨w.heap.size, 0, none⟩))
    (C C0 : Array Value) (hy : a.eval y = .agg C) (hC : C.size = 129) (hC0 : C0.size = 129) (h1 : C.all (·.oneCell') = true)
    (h : wpList Try.prog ops Q rest (a.put o.dst undef) (w.alloc (.cells C 75))) : wpList Try.prog ops Q (o :: rest) a (w.alloc (.cells C0 75)) := by
  refine wpList_plain hg fun K hK => ?_
  unfold Oper.wp execOp
  rw [ho]
  simp only [hx, hy]
  rw [Sem.run_bind, run_storeAt_new w 75 C0 C (by rw [sizeDw, hC]) (by rw [hC, hC0]) h1]
  exact hK _ _ h
/-- The cells of a write in the list. -/
theorem DwIs.range {w : World} {b : Nat} {x : DwB} {L : List Int} {s : Sk} (h : DwIs w b x L s) {j : Nat} {p : Nat × List Nat} (hp : s.W[j]? = some p) : ∃ g c, x.vW = .slice (some ⟨g, 0, none⟩) s.W.length c ∧ w.rangeAt g (j * 129) (cellsP p) ∧ g < w.heap.size ∧ g ≠ b ∧ g ≠ x.gK ∧ g ≠ x.gL ∧ s.W.length ≤ c := by
  have hjl : j < s.W.length := (List.getElem?_eq_some_iff.1 hp).1
  obtain ⟨a, c, hv, h0⟩ := h.form
  obtain ⟨g, rfl⟩ : ∃ g, a = some ⟨g, 0, none⟩ := by
    rcases h0 with h0 | h0
    · omega
    · exact h0
  have hws := h.ws
  rw [hv] at hws
  have hne := h.ne2
  rw [hv] at hne
  have h128 : ∀ p ∈ s.W, p.2.length = 128 := fun p hp => (h.fine.w p hp).2.1
  refine ⟨g, c, hv, fun i v hi => ?_, (World.ownsRow.lt hws g rfl).2, fun e => hne.1 (by rw [← e]; rfl), fun e => hne.2.1 (by rw [← e]; rfl), fun e => hne.2.2 (by rw [← e]; rfl), ?_⟩
  · have hil : i < 129 := by
      have := (List.getElem?_eq_some_iff.1 hi).1
      rw [length_cellsP (h128 p (List.mem_of_getElem? hp))] at this
      exact this
    exact (row_cell hws (by rw [cellsV_get h128 j p hp i hil]; exact hi)).1
  · rcases hws.2 with ⟨e, _⟩ | ⟨g', cap, cur, e, _, _, hn, -⟩
    · cases e
    · cases e; exact hn
/-- What is kept is other bytes. -/
theorem DwIs.putB {w w' : World} {b : Nat} {x : DwB} {L : List Int} {s : Sk} (h : DwIs w b x L s) (hk : Kept (fun k => k = x.gK) w w') (B' : List Nat) (hl : B'.length = s.B.length) (h256 : ∀ y ∈ B', y < 256) (ho : w'.ownsRow 0 5 1 (.slice (some ⟨x.gK, 0, none⟩) s.B.length x.cK) s.B.length (u8s B')) :
    DwIs w' b x L { s with B := B' } where
  box := by
    rw [hk.block b (Array.getElem?_eq_some_iff.1 h.box).1 (fun e => h.ne1.1 e)]
    show _ = some (Obj.cells #[.slice _ B'.length _, _, .slice _ (B'.length / 128) _, _, _, _, _, _, _] _ _)
    rw [hl]
    exact h.box
  bs := by unfold OwnBytes; show World.ownsRow _ _ _ _ (.slice _ B'.length _) B'.length _; rw [hl]; exact ho
  ls := by show OwnInts _ _ (.slice _ (B'.length / 128) _) _; rw [hl]; exact ownsRow_other h.ls hk (fun k e => by cases e; exact fun e => h.ne1.2.2 e.symm)
  ws := ownsRow_other h.ws hk (fun k e e2 => h.ne2.2.1 (by rw [e, e2]))
  at1 := h.at1
  at2 := h.at2
  fine := ⟨by obtain ⟨n, h1, h2, h3⟩ := h.fine.n; exact ⟨n, h1, h2, hl.trans h3⟩, h256, fun p hp => by obtain ⟨h1, h2⟩ := h.fine.w p hp; exact ⟨by show _ ≤ B'.length; rw [hl]; exact h1, h2⟩⟩
  ne1 := h.ne1
  ne2 := h.ne2
set_option maxRecDepth 100000 in
theorem slice_arr (g o : Nat) (W : World) : (Instr.sliceAt 73 (.pointer (some ⟨g, o, none⟩)) none none none).run Try.prog W = .ok (.slice (some ⟨g, o, none⟩) 128 128) W := by
  obtain ⟨i0, hi, hz0, hz1, hz2⟩ := info_parts Try.info5
  simp [Instr.sliceAt, Instr.slice, Instr.sliceBounds, Instr.sliceBound, asIntOf, run_underlying Try.underlying73, sizeOf, typeInfo, hi, hz1, Addr.add, Instr.sureAddr]

end Go.Proofs.Ytjmeneddhalodaa

/- The program's disk: keep. -/
namespace Go.Proofs.Ytjmeneddhalodaa
set_option linter.unusedVariables false
set_option linter.unusedSimpArgs false
open Go.RowKit Dg

set_option maxRecDepth 100000 in
set_option maxHeartbeats 4000000 in
theorem dwkeep_is (w : World) (b : Nat) (x : DwB) (L : List Int) (s : Sk) (h : DwIs w b x L s) (p : Nat × List Nat) (hp : p ∈ s.W) (C : Array Value) (hC : C = (cellsP p).toArray) (B' : List Nat) (hB' : B' = keepB s.B p) :
    Calls Try.prog 41 #[.pointer (some ⟨b, 0, none⟩), .agg C] w fun e w' => e = .returned (.tuple #[]) ∧ DwIs w' b x L { s with B := B' } ∧ Kept (fun k => k = x.gK) w w' := by
  obtain ⟨i0, hi, hz0, hz1, hz2⟩ := info_parts Try.info5
  obtain ⟨hf1, hf2, hf3⟩ := h.fine.w p hp
  obtain ⟨q, hq⟩ : ∃ q, q = p.1 := ⟨_, rfl⟩
  obtain ⟨bb, hbb⟩ : ∃ bb, bb = p.2 := ⟨_, rfl⟩
  obtain ⟨lo, hlo⟩ : ∃ lo, lo = q * 128 := ⟨_, rfl⟩
  obtain ⟨N, hN⟩ : ∃ N, N = s.B.length := ⟨_, rfl⟩
  obtain ⟨cc, hcc⟩ : ∃ cc, cc = x.cK - lo := ⟨_, rfl⟩
  rw [← hq] at hf1
  rw [← hbb] at hf2 hf3
  obtain ⟨w0, hw0⟩ : ∃ w0, w0 = w.alloc (.cells C 75) := ⟨_, rfl⟩
  have hk0 : Kept (fun _ => False) w w0 := by rw [hw0]; exact Kept.alloc _ _ _
  obtain ⟨bx, hbx⟩ : ∃ bx, bx = w.heap.size := ⟨_, rfl⟩
  have hx0 : w0.heap[bx]? = some (.cells C 75 (0, 0)) := by rw [hw0, hbx]; exact heap_alloc_new w _
  have hCg : ∀ i v, (cellsP p)[i]? = some v → w0.cell? ⟨bx, i, none⟩ = some v := fun i v e => by
    simp [World.cell?, hx0, hC]
    simpa using e
  have hc0 : w0.cell? ⟨bx, 0, none⟩ = some (.int .i64 (q : Int)) := hCg 0 _ (by rw [hq]; rfl)
  have hsl0 : SlAt w0 (.slice (some ⟨bx, 1, none⟩) 128 128) bb := ⟨some ⟨bx, 1, none⟩, 128, by rw [hf2], fun j y hy => ⟨bx, 1, rfl, hCg (1 + j) _ (by unfold cellsP; rw [Nat.add_comm, List.getElem?_cons_succ, u8s_get, ← hbb, hy]; rfl)⟩⟩
  have HD0 := hid_of (h.kept hk0 (fun _ _ h => h))
  have HO0 : Hid (w0.ownsRow 0 5 1 (.slice (some ⟨x.gK, 0, none⟩) N x.cK) N (u8s s.B)) := by
    have e := HD0.out.bs
    unfold OwnBytes at e
    rw [← hN] at e
    exact e
  have HSC : Hid (Calls Try.prog 40 #[.pointer (some ⟨b, 0, none⟩), .int .i64 (q : Int)] w0.drew fun e w' => e = .returned (.slice (some ⟨x.gK, lo, none⟩) 128 cc) ∧ w0.drew = w') := dwsector_is w0.drew b x L s (HD0.out.kept (X := fun _ => False) (Kept.refl _ _).drew (fun _ _ h => h)) q hf1 lo cc hlo hcc
  obtain ⟨w5, hcp, ho5, hk5⟩ := run_copy_into (P := Try.prog) (w := w0.drew) 30 30 3 Try.underlying30 (by simp [hi, hz1]) 0 x.gK x.cK N lo 128 cc s.B hN.symm (World.ownsRow.drew HO0.out) bx 1 128 bb hf2 (by omega) hsl0
  have hsl := slice_arr bx 1
  have HEND : Hid (DwIs w5 b x L { s with B := B' } ∧ Kept (fun k => k = x.gK) w w5) := by
    have hk : Kept (fun k => k = x.gK) w0 w5 := (Kept.refl _ _).drew.trans hk5
    have eB : B' = into s.B lo bb := by rw [hB', hlo, hq, hbb]; rfl
    refine ⟨HD0.out.putB hk B' ?_ ?_ ?_, (hk0.mono (fun _ _ h => h.elim)).trans hk⟩
    · rw [eB]; exact length_into (by rw [hf2]; omega)
    · rw [hB']; exact keepB_lt h.fine.b256 (by rw [← hbb]; exact hf3)
    · rw [eB, ← hN]; exact ho5
  clear h hp hC hB' hf1 hf2 hf3 hq hbb hlo hcc hk0 hx0 hCg hsl0 ho5 hk5 hN hi hz0 hz1 hz2
  go_enter Try.func41, Try.ntmps41
  go_wp2_with (refine Go.Great.wpList_boxTo rfl 75 (.tmp 1) rfl (some 3) rfl bx hbx.symm C rfl ?_)
  rw [← hw0]
  clear hw0 hbx
  change Code.wp _ _ _ ⟨#[.pointer (some ⟨b, 0, none⟩), .agg C, undef, .pointer (some ⟨bx, 0, none⟩), undef, undef, undef, undef, undef, undef, undef], []⟩ _
  go_region_with (go_at_call 40; refine HSC.out.mono ?_; rintro e w2 ⟨rfl, rfl⟩)
  all_goals
    go_wp2_with fail
    go_end0
    exact ⟨rfl, HEND.out⟩

end Go.Proofs.Ytjmeneddhalodaa

/- The program's disk: forget. -/
namespace Go.Proofs.Ytjmeneddhalodaa
set_option linter.unusedVariables false
set_option linter.unusedSimpArgs false
open Go.RowKit Dg

theorem dwi_cell {w : World} {base g n c : Nat} {l : List Int} {j : Nat} {x : Int} (h : OwnInts w base (.slice (some ⟨g, 0, none⟩) n c) l) (hx : l[j]? = some x) :
    w.cell? ⟨g, j, none⟩ = some (.int .i64 x) ∧ w.frozen? ⟨g, j, none⟩ = false := row_cell (n := n) (c := c) (by
      have h' : w.ownsRow base 3 1 (.slice (some ⟨g, 0, none⟩) n c) l.length (i64s l) := h
      rcases h'.2 with ⟨e1, _⟩ | ⟨g', cap', cur, hv, _⟩
      · cases e1
      · simp only [Value.slice.injEq] at hv
        rw [← hv.2.1] at h'
        exact h') (by rw [i64s_get, hx]; rfl)
theorem dwi_len {w : World} {base g n c : Nat} {l : List Int} (h : OwnInts w base (.slice (some ⟨g, 0, none⟩) n c) l) : n = l.length := by
  rcases h.2 with ⟨e1, _⟩ | ⟨g', cap', cur, hv, _⟩
  · cases e1
  · simp only [Value.slice.injEq] at hv
    exact hv.2.1
theorem dwi_set {w : World} {base g n c : Nat} {l : List Int} (h : OwnInts w base (.slice (some ⟨g, 0, none⟩) n c) l) (j : Nat) (y : Int) (hj : j < n) :
    OwnInts (w.setCell ⟨g, j, none⟩ (.int .i64 y)) base (.slice (some ⟨g, 0, none⟩) n c) (l.set j y) := by
  have e := dwi_len h
  subst e
  show World.ownsRow _ _ _ _ _ _ _
  have e2 : i64s (l.set j y) = (i64s l).set j (.int .i64 y) := by simp [i64s]
  rw [e2, List.length_set]
  exact ownsRow_set h j hj _
/-- 'L' alone turned. -/
theorem DwIs.putL {w w' : World} {b : Nat} {x : DwB} {L L' : List Int} {s : Sk} (h : DwIs w b x L s) (hk : Kept (fun k => k = x.gL) w w') (ho : OwnInts w' 0 (.slice (some ⟨x.gL, 0, none⟩) (s.B.length / 128) x.cL) L') : DwIs w' b x L' s :=
  { h with
    box := by rw [hk.block b (Array.getElem?_eq_some_iff.1 h.box).1 (fun e => h.ne1.2.1 e)]; exact h.box
    bs := ownsRow_other h.bs hk (fun k e => by cases e; exact h.ne1.2.2)
    ls := ho
    ws := ownsRow_other h.ws hk (fun k e e2 => h.ne2.2.2 (by rw [e, e2])) }
/-- None waits any more. -/
theorem DwIs.clear {w : World} {b : Nat} {x : DwB} {L : List Int} {s : Sk} (h : DwIs w b x L s) : DwIs (w.setCell ⟨b, 1, none⟩ (.slice none 0 0)) b { x with vW := .slice none 0 0 } L { s with W := [] } := by
  have hk : Kept (fun k => k = b) w (w.setCell ⟨b, 1, none⟩ (.slice none 0 0)) := Kept.setCell _ _ _ rfl
  refine ⟨?_, ownsRow_other h.bs hk (fun k e => by cases e; exact fun e => h.ne1.1 e.symm), ownsRow_other h.ls hk (fun k e => by cases e; exact fun e => h.ne1.2.1 e.symm), World.ownsRow_nil _ _ _ _, h.at1, h.at2, ⟨h.fine.n, h.fine.b256, fun p hp => by simp at hp⟩, h.ne1, ⟨by simp [Value.ownBlock], by simp [Value.ownBlock], by simp [Value.ownBlock]⟩⟩
  rw [heap_setCell_of h.box]
  rfl
/-- A write is read by value. -/
theorem wpList_load_dw {ops : Array Oper} {rest : List Oper} {o : Oper} {a : Act} {w : World} {Q : Exit → Act → World → Prop} (hg : o.guard = none) (x : Operand) (ho : o.op = .load 75 x) (g off : Nat) (hx : a.eval x = .pointer (some ⟨g, off, none⟩))
    (p : Nat × List Nat) (hr : w.rangeAt g off (cellsP p)) (hp : p.2.length = 128) (C : Array Value) (hC : C = (cellsP p).toArray) (h : wpList Try.prog ops Q rest (a.put o.dst (.agg C)) w) : wpList Try.prog ops Q (o :: rest) a w := by
  subst hC
  exact wpList_load_mid hg 75 x ho g off hx (cellsP p) _ hr Try.underlying75 rfl (by rw [sizeDw, length_cellsP hp]) h
theorem cellsP_arr {p : Nat × List Nat} (hp : p.2.length = 128) {C : Array Value} (hC : C = (cellsP p).toArray) : C.size = 129 ∧ C.all (·.oneCell') = true := by
  subst hC
  exact ⟨by simp [length_cellsP hp], all_oneCell_toArray (cellsP_one p)⟩
set_option maxRecDepth 100000 in
set_option maxHeartbeats 4000000 in
theorem dwforget_is (w : World) (b : Nat) (x : DwB) (L : List Int) (s : Sk) (h : DwIs w b x L s) (hWl : s.W.length ≤ 100000) :
    Calls Try.prog 42 #[.pointer (some ⟨b, 0, none⟩)] w fun e w' => e = .returned (.tuple #[]) ∧ DwIs w' b { x with vW := .slice none 0 0 } (zeroTo s.W L s.W.length) { s with W := [] } ∧ Kept (fun k => k = b ∨ k = x.gL) w w' := by
  have H0 := hid_of h
  obtain ⟨-, c1, -⟩ := h.cell
  obtain ⟨wa, wc, hv, hwa⟩ := h.form
  obtain ⟨M, hM⟩ : ∃ M, M = s.W.length := ⟨_, rfl⟩
  rw [hv, ← hM] at c1
  rw [← hM] at hWl
  have HM := hid_of hM
  have HV := hid_of hv
  clear h hM hv hwa
  go_enter Try.func42, Try.ntmps42
  go_wp2_with fail
  go_loopw [9] (fun v ws => ∃ j : Nat, j ≤ M ∧ v = .int .i64 (j : Int) ∧ Hid (DwIs ws b x (zeroTo s.W L j) s) ∧ Hid (Kept (fun k => k = x.gL) w ws)) (fun v _ => M - (intOf v).toNat)
  case atStart => exact ⟨0, Nat.zero_le _, rfl, H0.out, Kept.refl _ _⟩
  case round =>
    obtain ⟨j, hj, rfl, hr, hk⟩ := hrel
    by_cases hjM : j < M
    · obtain ⟨p, hp⟩ : ∃ p, s.W[j]? = some p := ⟨s.W[j]'(by rw [← HM.out]; exact hjM), List.getElem?_eq_getElem _⟩
      obtain ⟨g, c, e1, hrg, hgl, n1, n2, n3, hcl⟩ := hr.out.range hp
      obtain ⟨rfl, rfl⟩ : wa = some ⟨g, 0, none⟩ ∧ wc = c := by
        rw [HV.out] at e1
        simp only [Value.slice.injEq] at e1
        exact ⟨e1.1, e1.2.2⟩
      have hpf := hr.out.fine.w p (List.mem_of_getElem? hp)
      obtain ⟨C, hC⟩ : ∃ C, C = (cellsP p).toArray := ⟨_, rfl⟩
      obtain ⟨hCs, hC1⟩ := cellsP_arr hpf.2.1 hC
      obtain ⟨w1, hw1⟩ : ∃ w1, w1 = wr.alloc (.cells C 75) := ⟨_, rfl⟩
      have hk1 : Kept (fun _ => False) wr w1 := by rw [hw1]; exact Kept.alloc _ _ _
      obtain ⟨bx, hbx⟩ : ∃ bx, bx = wr.heap.size := ⟨_, rfl⟩
      obtain ⟨q, hq⟩ : ∃ q, q = p.1 := ⟨_, rfl⟩
      have hx0 : w1.heap[bx]? = some (.cells C 75 (0, 0)) := by rw [hw1, hbx]; exact heap_alloc_new wr _
      have hc0 : w1.cell? ⟨bx, 0, none⟩ = some (.int .i64 (q : Int)) := by simp [World.cell?, hx0, hC, cellsP, hq]
      have HD1 := hid_of (hr.out.kept hk1 (fun _ _ h => h))
      have hd2 := HD1.out.cell.2.2.1
      obtain ⟨n, hn⟩ : ∃ n, n = s.B.length / 128 := ⟨_, rfl⟩
      have hq1 : q < n := by have := hpf.1; omega
      have hnl : n ≤ 4096 := by have := hr.out.fine.le; omega
      rw [← hn] at hd2
      obtain ⟨y, hy⟩ : ∃ y, (zeroTo s.W L j)[q]? = some y := ⟨_, List.getElem?_eq_getElem (by rw [length_zeroTo, H0.out.cap.2.2, ← hn]; exact hq1)⟩
      obtain ⟨hg1, hg2⟩ := dwi_cell HD1.out.ls hy
      have HEND : Hid (DwIs (w1.drew.setCell ⟨x.gL, q, none⟩ (.int .i64 0)) b x (zeroTo s.W L (j + 1)) s ∧ Kept (fun k => k = x.gL) w (w1.drew.setCell ⟨x.gL, q, none⟩ (.int .i64 0))) := by
        have hd : Kept (fun _ => False) w1 w1.drew := (Kept.refl _ _).drew
        have hks : Kept (fun k => k = x.gL) w1.drew (w1.drew.setCell ⟨x.gL, q, none⟩ (.int .i64 0)) := Kept.setCell _ _ _ rfl
        refine ⟨?_, (hk.out.trans ((hk1.trans hd).mono (fun _ _ h => h.elim))).trans hks⟩
        have e : zeroTo s.W L (j + 1) = (zeroTo s.W L j).set q 0 := by
          conv => lhs; unfold zeroTo
          rw [List.getD_eq_getElem?_getD, hp, hq]; rfl
        rw [e]
        exact (HD1.out.kept hd (fun _ _ h => h)).putL hks (dwi_set (HD1.out.kept hd (fun _ _ h => h)).ls q 0 (by rw [← hn]; exact hq1))
      have HPL := hid_of hpf.2.1
      have HRG := hid_of hrg
      have HC := hid_of hC
      clear hpf e1 hrg hC hx0 hk1 hn hy hp hq n1 n2 n3
      go_wp2_with (first
        | (refine wpList_load_dw rfl (.tmp 11) rfl g (j * 129) rfl p HRG.out HPL.out C HC.out ?_)
        | (refine wpList_alloc_dw rfl rfl ?_)
        | (refine wpList_store_dw rfl (.tmp 3) (.tmp 12) rfl rfl C zeroCW rfl hCs size_zeroCW hC1 ?_))
      change Code.wp _ _ _ ⟨#[_, _, _, _, _, _, _, _, _, _, _, _, _, _, _, _, _, _, _, _, _, _, _, _], []⟩ (wr.alloc _)
      rw [← hw1, ← hbx]
      clear hw1 hbx
      go_region
      all_goals
        go_wp2_with fail
        refine ⟨⟨j + 1, by omega, by go_num, HEND.out.1, HEND.out.2⟩, by (simp [intOf]) <;> omega⟩
    · obtain rfl : j = M := by omega
      rw [HM.out] at hr
      have HE := hid_of hr.out.clear
      have d1 := hr.out.cell.2.1
      have f1 := hr.out.froz 1
      have HKF : Hid (Kept (fun k => k = b ∨ k = x.gL) w (wr.setCell ⟨b, 1, none⟩ (.slice none 0 0))) := (hk.out.mono (fun i _ e => .inr e)).trans (Kept.setCell _ _ _ (.inl rfl))
      rw [HV.out] at d1
      clear hr
      go_wp2_with fail
      go_end0
      exact ⟨rfl, HE.out, HKF.out⟩

end Go.Proofs.Ytjmeneddhalodaa

/- The program's disk: Flush. -/
namespace Go.Proofs.Ytjmeneddhalodaa
set_option linter.unusedVariables false
set_option linter.unusedSimpArgs false
open Go.RowKit Dg

/-- A call's end. -/
theorem Moved.of {w w' : World} {b : Nat} {F G : Nat → Prop} {s2 : Sk} {x x' : DwB} {L : List Int} (hF : ∀ k, x.own b k → F k) (hFG : ∀ k, F k → G k) (hG : ∀ k, G k → k < w.heap.size)
    (h' : DwIs w' b x' L s2) (hL : L = lastI s2.W (s2.B.length / 128)) (hx' : ∀ k, x'.own b k → x.own b k ∨ (w.heap.size ≤ k ∧ k < w'.heap.size)) (hk : Kept (x.own b) w w') : Moved DwAt w w' b F G s2 := by
  refine ⟨fun k => F k ∨ (w.heap.size ≤ k ∧ k < w'.heap.size), fun k => G k ∨ (w.heap.size ≤ k ∧ k < w'.heap.size), ⟨x', by rw [← hL]; exact h', fun k e => ?_, fun k e => ?_, fun k e => ?_⟩, hk.mono (fun k _ e => hF k e), fun k e => ?_, fun k e => ?_⟩
  · rcases hx' k e with e | e
    · exact .inl (hF k e)
    · exact .inr e
  · rcases e with e | e
    · exact .inl (hFG k e)
    · exact .inr e
  · rcases e with e | e
    · exact Nat.lt_of_lt_of_le (hG k e) hk.size
    · exact e.2
  · rcases e with e | e
    · exact .inl e
    · exact .inr e.1
  · rcases e with e | e
    · exact .inl e
    · exact .inr e.1
theorem own_nil {x : DwB} {b k : Nat} (h : ({ x with vW := .slice none 0 0 } : DwB).own b k) : x.own b k := by
  rcases h with h | h | h | h
  · exact .inl h
  · exact .inr (.inl h)
  · exact .inr (.inr (.inl h))
  · cases h
theorem Kept.own {w w' : World} {b : Nat} {x : DwB} {X : Nat → Prop} (h : Kept X w w') (hX : ∀ k, X k → k = b ∨ k = x.gK ∨ k = x.gL) : Kept (x.own b) w w' := h.mono fun k _ e => by
  rcases hX k e with e | e | e
  · exact .inl e
  · exact .inr (.inl e)
  · exact .inr (.inr (.inl e))
theorem lastI_B {W : List (Nat × List Nat)} {B B' : List Nat} (h : B'.length = B.length) : lastI W (B'.length / 128) = lastI W (B.length / 128) := by rw [h]
set_option maxRecDepth 100000 in
set_option maxHeartbeats 4000000 in
theorem dwflush_any (w : World) (b : Nat) (F G : Nat → Prop) (s : Sk) (h : DwAt w b F G s) (hc : s.flushes ≤ 1000000) (hWl : s.W.length ≤ 100000) (R : Int) (hR : R = s.flushR) (s2 : Sk) (hs2 : s2 = s.flushS) :
    Calls Try.prog 16 #[.pointer (some ⟨b, 0, none⟩)] w fun e w' => e = .returned (.int .i64 R) ∧ Moved DwAt w w' b F G s2 := by
  obtain ⟨x, h0, h1, h2, h3⟩ := h
  obtain ⟨t, ht⟩ : ∃ t, t = s.arm := ⟨_, rfl⟩
  obtain ⟨L, hL⟩ : ∃ L, L = lastI s.W (s.B.length / 128) := ⟨_, rfl⟩
  rw [← hL] at h0
  have HS := hid_of (dwstops_is w b x L s h0)
  have hLt : L = lastI t.W (t.B.length / 128) := by rw [hL, ht, s.arm_W, s.arm_B]
  have hs2' : s2 = if t.dead then t else { t with B := keepTo t.B t.W (fun _ => true) t.W.length, W := [], flushes := t.flushes + 1 } := by
    rw [hs2]; unfold Sk.flushS
    rw [ht, s.arm_B, s.arm_W, s.arm_counts.2.2]
  have hR' : R = if t.dead then 9 else 0 := by rw [hR]; unfold Sk.flushR; rw [ht]
  have htW : t.W.length ≤ 100000 := by rw [ht, s.arm_W]; exact hWl
  have htc : t.flushes ≤ 1000000 := by rw [ht, s.arm_counts.2.2]; exact hc
  rw [← ht] at HS
  have HR : Hid ((∀ k, x.own b k → F k) ∧ (∀ k, F k → G k) ∧ ∀ k, G k → k < w.heap.size) := ⟨h1, h2, h3⟩
  have HLT := hid_of hLt
  clear hs2 hR ht h0 h1 h2 h3 hc hWl hL hLt
  rcases hd : t.dead with _ | _
  · rw [if_neg (by rw [hd]; decide)] at hs2' hR'
    rw [hd] at HS
    subst hR'
    go_enter Try.func16, Try.ntmps16
    go_wp2_with fail
    refine HS.out.mono ?_
    rintro e w1 ⟨rfl, h0, hk1⟩
    have HK1 := hid_of hk1
    have H0 := hid_of h0
    obtain ⟨-, c1, -⟩ := h0.cell
    obtain ⟨wa, wc, hv, -⟩ := h0.form
    obtain ⟨M, hM⟩ : ∃ M, M = t.W.length := ⟨_, rfl⟩
    rw [hv, ← hM] at c1
    rw [← hM] at htW
    have HM := hid_of hM
    have HV := hid_of hv
    have HS2 := hid_of hs2'
    clear h0 hk1 HS hM hd hv hs2'
    go_wp2_with fail
    go_loopw [12] (fun v ws => ∃ j : Nat, j ≤ M ∧ v = .int .i64 (j : Int) ∧ Hid (DwIs ws b x L { t with B := keepTo t.B t.W (fun _ => true) j }) ∧ Hid (Kept (fun k => k = x.gK) w1 ws)) (fun v _ => M - (intOf v).toNat)
    case atStart => exact ⟨0, Nat.zero_le _, rfl, H0.out, Kept.refl _ _⟩
    case round =>
      obtain ⟨j, hj, rfl, hr, hk⟩ := hrel
      by_cases hjM : j < M
      · obtain ⟨p, hp⟩ : ∃ p, t.W[j]? = some p := ⟨t.W[j]'(by rw [← HM.out]; exact hjM), List.getElem?_eq_getElem _⟩
        obtain ⟨g, c, e1, hrg, hgl, n1, n2, n3, hcl⟩ := hr.out.range hp
        obtain ⟨rfl, rfl⟩ : wa = some ⟨g, 0, none⟩ ∧ wc = c := by
          rw [HV.out] at e1
          simp only [Value.slice.injEq] at e1
          exact ⟨e1.1, e1.2.2⟩
        have hpf := hr.out.fine.w p (List.mem_of_getElem? hp)
        obtain ⟨C, hC⟩ : ∃ C, C = (cellsP p).toArray := ⟨_, rfl⟩
        obtain ⟨hCs, hC1⟩ := cellsP_arr hpf.2.1 hC
        obtain ⟨w2, hw2⟩ : ∃ w2, w2 = wr.alloc (.cells C 75) := ⟨_, rfl⟩
        have hk2 : Kept (fun _ => False) wr w2 := by rw [hw2]; exact Kept.alloc _ _ _
        obtain ⟨bx, hbx⟩ : ∃ bx, bx = wr.heap.size := ⟨_, rfl⟩
        have hx0 : w2.heap[bx]? = some (.cells C 75 (0, 0)) := by rw [hw2, hbx]; exact heap_alloc_new wr _
        have HRG2 : Hid (w2.rangeAt bx 0 (cellsP p)) := fun i v e => by
          simp [World.cell?, hx0, hC]
          simpa using e
        have HKP := hid_of (dwkeep_is w2 b x L _ (hr.out.kept hk2 (fun _ _ h => h)) p (List.mem_of_getElem? hp) C hC _ rfl)
        have HKT : Hid (keepTo t.B t.W (fun _ => true) (j + 1) = keepB (keepTo t.B t.W (fun _ => true) j) p) := keepTo_succ _ _ _ _ _ hp rfl
        have HPL := hid_of hpf.2.1
        have HRG := hid_of hrg
        have HC := hid_of hC
        have HK2 := hid_of hk2
        clear hpf e1 hrg hC hx0 hk2 hp n1 n2 n3 hcl
        go_wp2_with (first
          | (refine wpList_load_dw rfl (.tmp 14) rfl g (j * 129) rfl p HRG.out HPL.out C HC.out ?_)
          | (refine wpList_alloc_dw rfl rfl ?_)
          | (refine wpList_store_dw rfl (.tmp 4) (.tmp 15) rfl rfl C zeroCW rfl hCs size_zeroCW hC1 ?_; rw [← hw2, ← hbx]; clear hw2 hbx)
          | (refine wpList_load_dw rfl (.tmp 4) rfl bx 0 rfl p HRG2.out HPL.out C HC.out ?_))
        refine HKP.out.mono ?_
        rintro e w5 ⟨rfl, hr5, hk5⟩
        have HR5 : Hid (DwIs w5 b x L { t with B := keepTo t.B t.W (fun _ => true) (j + 1) }) := by rw [HKT.out]; exact hr5
        have HK5 : Hid (Kept (fun k => k = x.gK) w1 w5) := (hk.out.trans (HK2.out.mono (fun _ _ h => h.elim))).trans hk5
        clear hr5 hk5 HKP
        go_wp2_with fail
        exact ⟨⟨j + 1, by omega, by go_num, HR5, HK5⟩, by (simp [intOf]) <;> omega⟩
      · obtain rfl : j = M := by omega
        rw [HM.out] at hr
        have HFO := hid_of (dwforget_is wr b x L _ hr.out (by rw [← HM.out]; exact htW))
        go_wp2_with fail
        refine HFO.out.mono ?_
        rintro e w5 ⟨rfl, hr5, hk5⟩
        obtain ⟨-, -, -, -, -, -, -, -, d8⟩ := hr5.cell
        change _ = some (Value.int .i64 (t.flushes : Int)) at d8
        have f8 := hr5.froz 8
        have HAD := hid_of (aadd_any ⟨b, 8, none⟩ (t.flushes : Int) 1 w5 d8 f8 (by omega) (by omega) (by decide) (by decide))
        have HR5 := hid_of hr5
        have HK5 := hid_of hk5
        clear hr5 hk5 HFO d8 f8
        go_wp2_with fail
        refine HAD.out.mono ?_
        rintro e w6 ⟨rfl, hw6⟩
        have HM6 : Hid (Moved DwAt w w6 b F G s2) := by
          have hke : Kept (fun k => k = b) w5 w6 := by rw [hw6]; exact Kept.setCell _ _ _ rfl
          have hfin := keepTo_fine (s := t) ⟨H0.out.fine.n, H0.out.fine.b256, H0.out.fine.w⟩ (fun _ => true) t.W.length (Nat.le_refl _)
          have hfin2 : (keepTo t.B t.W (fun _ => true) t.W.length).length = t.B.length := hfin.1
          have hb2 : s2.B.length / 128 = t.B.length / 128 := by rw [HS2.out]; show (keepTo t.B t.W (fun _ => true) t.W.length).length / 128 = _; rw [hfin2]
          have hfin3 : DwIs w6 b { x with vW := .slice none 0 0 } (zeroTo t.W L t.W.length) s2 := by
            refine HR5.out.put (s' := s2) (x' := { x with vW := .slice none 0 0 }) hke (by rw [HS2.out]) (by rw [HS2.out]) rfl ?_ (by rw [HS2.out]; exact HR5.out.at1) (HR5.out.at2)
            rw [hw6, heap_setCell_of HR5.out.box, HS2.out]
            rfl
          refine Moved.of (x := x) HR.out.1 HR.out.2.1 HR.out.2.2 hfin3 ?_ (fun k e => .inl (own_nil e)) ?_
          · rw [HLT.out, zeroTo_end, hb2, HS2.out]
          · exact ((((HK1.out.own (fun k e => .inl e)).trans (hk.out.own (fun k e => .inr (.inl e)))).trans (HK5.out.own (fun k e => by rcases e with e | e; exact .inl e; exact .inr (.inr e)))).trans (hke.own (fun k e => .inl e)))
        clear hw6
        go_wp2_with fail
        go_ret
        exact ⟨rfl, HM6.out⟩
  · rw [if_pos (by rw [hd])] at hs2' hR'
    rw [hd] at HS
    subst hR'
    have HS2 := hid_of hs2'
    clear hd hs2'
    go_enter Try.func16, Try.ntmps16
    go_wp2_with fail
    refine HS.out.mono ?_
    rintro e w1 ⟨rfl, h0, hk1⟩
    have HM6 : Hid (Moved DwAt w w1 b F G s2) := by
      rw [HS2.out]
      exact Moved.of (x := x) HR.out.1 HR.out.2.1 HR.out.2.2 h0 HLT.out (fun k e => .inl e) (hk1.own (fun k e => .inl e))
    clear h0 hk1
    go_wp2_with fail
    go_ret
    exact ⟨rfl, HM6.out⟩

end Go.Proofs.Ytjmeneddhalodaa
