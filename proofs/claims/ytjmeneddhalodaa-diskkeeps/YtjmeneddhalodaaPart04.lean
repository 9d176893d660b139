/- The texts DkRef6, DkRef7, DkRef8, DkRef9, one behind the other. -/
import Derived.Test.YtjmeneddhalodaaPart03
import Derived.Deep.CutRange
import Derived.Deep.RegionWith

/- The document's own disk: Write. -/
namespace Go.Proofs.Ytjmeneddhalodaa
set_option linter.unusedVariables false
set_option linter.unusedSimpArgs false
open Go.RowKit Dg

theorem Try.infoW : (Try.prog.info? 96).map (fun i => (i.zero, i.size, i.bytes)) = some (some (.agg #[.int .i64 0, .slice none 0 0]), 2, 32) := by kernel_rfl
/-- One more waits. -/
theorem RkIs.push {w w5 : World} {r gB cB : Nat} {vW : Value} {at_ : Int} {D : List (Nat × Nat)} {t : Sk} (h : RkIs w r gB cB vW at_ D t) (hk : Kept (fun _ => False) w w5) (k g3 c3 : Nat) (b : List Nat) (v : Value) (hlive : t.stop ≠ some 0) (hkr : k * 128 + 128 ≤ t.B.length) (hbl : b.length = 128) (h256 : ∀ x ∈ b, x < 256)
    (ho : w5.ownsRow 0 96 2 v (t.W.length + 1) (cellsW (t.W ++ [(k, b)]) (D ++ [(g3, c3)]))) (hb : OwnBytes w5 0 (.slice (some ⟨g3, 0, none⟩) b.length c3) b) (hv : ∀ i, v.ownBlock = some i → w.heap.size ≤ i ∧ i ≠ g3) (hg : w.heap.size ≤ g3) :
    RkIs (((w5.setCell ⟨r, 1, none⟩ v).setCell ⟨r, 4, none⟩ (.int .i64 (at_ - 1))).setCell ⟨r, 6, none⟩ (.int .i64 ((t.writes : Int) + 1))) r gB cB v (at_ - 1) (D ++ [(g3, c3)]) { t with W := t.W ++ [(k, b)], stop := t.stop.map (· - 1), writes := t.writes + 1 } := by
  have hrl : r < w.heap.size := (Array.getElem?_eq_some_iff.1 h.box).1
  have hgl : gB < w.heap.size := (World.ownsRow.lt h.bs gB rfl).2
  have hset : Kept (fun i => i = r) w5 (((w5.setCell ⟨r, 1, none⟩ v).setCell ⟨r, 4, none⟩ (.int .i64 (at_ - 1))).setCell ⟨r, 6, none⟩ (.int .i64 ((t.writes : Int) + 1))) := ((Kept.setCell (F := fun i => i = r) _ _ _ rfl).trans (Kept.setCell _ _ _ rfl)).trans (Kept.setCell _ _ _ rfl)
  have hb5 : w5.heap[r]? = w.heap[r]? := hk.block r hrl (fun h => h)
  have hall : Kept (fun i => i = r) w (((w5.setCell ⟨r, 1, none⟩ v).setCell ⟨r, 4, none⟩ (.int .i64 (at_ - 1))).setCell ⟨r, 6, none⟩ (.int .i64 ((t.writes : Int) + 1))) := (hk.mono (fun _ _ h => h.elim)).trans hset
  refine ⟨?_, ownsRow_other h.bs hall (fun i e => by cases e; exact fun e => h.ne1 e.symm), ?_, by simp [h.dl], ?_, ?_, ?_, ?_, h.ne1, ⟨fun e => by have := (hv r e).1; omega, fun e => by have := (hv gB e).1; omega⟩, ?_⟩
  · rw [heap_setCell_of (heap_setCell_of (heap_setCell_of (hb5.trans h.box) _) _) _]
    have e : (t.stop.map (· - 1)).isSome = t.stop.isSome := by cases t.stop <;> rfl
    show _ = some (Obj.cells #[_, _, _, .bool (t.stop.map (· - 1)).isSome, _, _, .int .i64 ((t.writes + 1 : Nat) : Int), _] _ _)
    rw [e]
    rfl
  · show World.ownsRow _ _ _ _ _ (t.W ++ [(k, b)]).length _
    rw [List.length_append]
    exact ownsRow_other ho hset (fun i e e2 => by have := (hv i e).1; omega)
  · intro j p d hp hd
    rcases Nat.lt_or_ge j t.W.length with hj | hj
    · rw [List.getElem?_append_left hj] at hp
      rw [List.getElem?_append_left (by rw [h.dl]; exact hj)] at hd
      exact ownsRow_other (h.ds j p d hp hd) hall (fun i e => by cases e; exact (h.ne3 d (List.mem_of_getElem? hd)).1)
    · rw [List.getElem?_append_right hj] at hp
      rw [List.getElem?_append_right (by rw [h.dl]; exact hj), h.dl] at hd
      have hj0 : j - t.W.length = 0 := by
        rcases Nat.eq_zero_or_pos (j - t.W.length) with e | e
        · exact e
        · rw [List.getElem?_eq_none (by simp; omega)] at hp; cases hp
      rw [hj0] at hp hd
      cases hp
      cases hd
      exact ownsRow_other hb hset (fun i e e2 => by
        have e3 : g3 = i := by simpa [Value.ownBlock] using e
        omega)
  · intro m hm
    show at_ - 1 = _
    cases e : t.stop with
    | none => rw [e] at hm; cases hm
    | some n =>
      rw [e] at hm hlive
      cases hm
      show at_ - 1 = ((n - 1 : Nat) : Int)
      have := h.at1 n e
      have : n ≠ 0 := fun e => hlive (by rw [e])
      omega
  · have := h.at2
    exact ⟨by show -((t.writes + 1 : Nat) : Int) ≤ _; omega, by omega⟩
  · refine ⟨h.fine.n, h.fine.b256, fun p hp => ?_⟩
    rcases List.mem_append.1 hp with h3 | h3
    · exact h.fine.w p h3
    · rw [List.mem_singleton.1 h3]
      exact ⟨hkr, hbl, h256⟩
  · intro d hd
    rcases List.mem_append.1 hd with h3 | h3
    · have h4 := h.ne3 d h3
      refine ⟨h4.1, h4.2.1, fun e => ?_⟩
      have h5 := (hv d.1 e).1
      obtain ⟨j, hj, e2⟩ := List.mem_iff_getElem.1 h3
      have hjw : j < t.W.length := by rw [← h.dl]; exact hj
      have h6 := h.ds j _ d (List.getElem?_eq_getElem hjw) (by rw [List.getElem?_eq_getElem hj, e2])
      have := (World.ownsRow.lt h6 d.1 rfl).2
      omega
    · rw [List.mem_singleton.1 h3]
      exact ⟨by show g3 ≠ r; omega, by show g3 ≠ gB; omega, fun e => (hv g3 e).2 rfl⟩
theorem Sk.arm_alive {s : Sk} (h : s.arm.dead = false) : s.arm.stop ≠ some 0 := by
  rw [s.arm_stop]
  intro e
  unfold Sk.arm at h
  rw [if_pos e] at h
  cases h
set_option maxRecDepth 100000 in
set_option maxHeartbeats 4000000 in
theorem rdwrite_any (w : World) (r : Nat) (F G : Nat → Prop) (s : Sk) (h : RkAt w r F G s) (i : Int) (hi : I64 i) (a : Option Addr) (cap : Nat) (b : List Nat) (hb : Bs w a cap b) (h256 : ∀ x ∈ b, x < 256) (hbl : b.length ≤ 1000000) (hf : b ≠ [] → ∀ y, a = some y → ¬ F y.block) (hc : s.writes ≤ 1000000) (hWl : s.W.length ≤ 100000) (R : Int) (hR : R = s.writeR i b) (s2 : Sk) (hs2 : s2 = s.writeS i b) :
    Calls Try.prog 50 #[.pointer (some ⟨r, 0, none⟩), .int .i64 i, .slice a b.length cap] w fun e w' => e = .returned (.int .i64 R) ∧ ∃ F' G', RkAt w' r F' G' s2 ∧ Kept F w w' ∧ Sub F' F w.heap.size ∧ Sub G' G w.heap.size := by
  obtain ⟨n, hn⟩ : ∃ n, n = s.B.length / 128 := ⟨_, rfl⟩
  have HL := hid_of (rdlen_any w r F G s h n hn)
  have HA := hid_of h
  obtain ⟨hi1, hi2⟩ := hi
  by_cases hfit : s.fits i
  · obtain ⟨k, rfl, hk⟩ := hfit.nat
    have hroom := hfit.room
    rw [← hn] at hk
    by_cases h128 : b.length = 128
    · have hno : ¬ (¬ s.fits (k : Int) ∨ b.length ≠ 128) := fun e => by rcases e with e | e; exact e hfit; exact e h128
      unfold Sk.writeR at hR
      unfold Sk.writeS at hs2
      rw [if_neg hno] at hR hs2
      have HS := hid_of (rdstopped_any w r F G s h)
      have hb128 : ((b.length : Int) != 128) = false := by rw [h128]; rfl
      obtain ⟨t, ht⟩ : ∃ t, t = s.arm := ⟨_, rfl⟩
      have hal : t.dead = false → t.stop ≠ some 0 := fun e => by rw [ht] at e ⊢; exact s.arm_alive e
      have hs2' : s2 = if t.dead then t else { t with W := t.W ++ [(k, b)], stop := t.stop.map (· - 1), writes := t.writes + 1 } := by
        rw [hs2, ht, Int.toNat_natCast, s.arm_W, s.arm_stop, s.arm_counts.2.1]
      have hR' : R = if t.dead then 9 else 0 := by rw [hR, ht]
      have htW : t.W.length ≤ 100000 := by rw [ht, s.arm_W]; exact hWl
      have htc : t.writes ≤ 1000000 := by rw [ht, s.arm_counts.2.1]; exact hc
      have htr : k * 128 + 128 ≤ t.B.length := by rw [ht, s.arm_B]; exact hroom
      rw [← ht] at HS
      have HB := hid_of hb
      have HF : Hid (b ≠ [] → ∀ y, a = some y → ¬ F y.block) := hf
      have HBL := hid_of h128
      have H256 := hid_of h256
      clear hs2 hR ht h hc hWl hb hf hn h128 hno hfit h256
      rcases hd : t.dead with _ | _
      · rw [if_neg (by rw [hd]; decide)] at hs2' hR'
        rw [hd] at HS
        subst hR'
        have hal' := hal hd
        have hsz0 : ∀ k, G k → k < w.heap.size := HA.out.arms.2.2.2
        have hFG0 : ∀ k, F k → G k := HA.out.arms.2.2.1
        clear hal hd
        go_enter Try.func50, Try.ntmps50
        go_wp2_with fail
        refine HL.out.mono ?_
        rintro e w0 ⟨rfl, rfl⟩
        go_wp2_with fail
        refine HS.out.mono ?_
        rintro e w1 ⟨rfl, ⟨gB, cB, vW, at_, D, h0, h1, h2, h3, h4⟩, hk1⟩
        obtain ⟨i1, hj, hy0, hy1, hy2⟩ := info_parts Try.infoW
        have HR : Hid ((F r ∧ F gB ∧ ∀ k, vW.ownBlock = some k → F k) ∧ (∀ k, F k → G k) ∧ (∀ k, G k → k < w1.heap.size) ∧ ∀ d ∈ D, G d.1 ∧ ¬ F d.1) := ⟨h1, h2, h3, h4⟩
        have HK1 := hid_of hk1
        have H0 := hid_of h0
        obtain ⟨-, c1, -, -, c4, -, c6, -⟩ := h0.cell
        obtain ⟨hat1, hat2⟩ := h0.at2
        obtain ⟨wa, wc, rfl, hwa⟩ := h0.form
        have HB1 : Hid (Bs w1 a cap b) := HB.out.kept hk1 (fun hne k e hf => by
          cases ha : a with
          | none => rw [ha] at e; cases e
          | some y => rw [ha] at e; cases e; exact HF.out hne y ha hf)
        have hs1 : w.heap.size ≤ w1.heap.size := hk1.size
        obtain ⟨M, hM⟩ : ∃ M, M = t.W.length := ⟨_, rfl⟩
        rw [← hM] at c1 htW
        have HM := hid_of hM
        have HCS : Hid (CsAt w1 wa (cellsW t.W D)) := by
          intro j u hu
          rcases hwa with e | ⟨g, rfl⟩
          · have e2 := length_cellsW t.W D h0.dl
            rw [List.getElem?_eq_none (by omega)] at hu
            cases hu
          · exact ⟨g, 0, rfl, by rw [Nat.zero_add]; exact (row_cell h0.ws hu).1⟩
        have HNIL : Hid (wa = none → M = 0 ∧ wc = 0) := fun e => by
          subst e
          rcases h0.ws.2 with ⟨e1, e2⟩ | ⟨g, cc, cur, e1, -⟩
          · exact ⟨by rw [hM]; exact e2, by simp only [Value.slice.injEq] at e1; exact e1.2.2⟩
          · simp at e1
        have HCL : Hid ((cellsW t.W D).length = M * 2) := by show _ = _; rw [hM]; exact length_cellsW _ _ h0.dl
        clear h0 h1 h2 h3 h4 hk1 HS hM HB hwa
        go_wp2_with (at_builtin; go_must (refine wpList_append_cells w1 rfl _ (.tmp 26) 80 rfl w1.heap.size 96 i1 _ 2 32 Try.underlying80 hj hy0 hy1 hy2 rfl (by decide) (.slice none 0 0) 0 [] rfl (World.ownsRow_nil _ _ _ _) wa M wc (cellsW t.W D) rfl HCL.out HCS.out HNIL.out (cellsW_one _ _) (by unfold maxLen; omega) (by omega) (Nat.le_refl _) ?_))
        intro v27 w2 ho2 hk2 hv2
        have HO2 : Hid (w2.ownsRow w1.heap.size 96 2 v27 M (cellsW t.W D)) := ho2.out
        have hk2' : Kept (fun _ => False) w1 w2 := hk2.out.mono (fun _ _ e => by cases e)
        have HK2 := hid_of hk2'
        have hs2'' : w1.heap.size ≤ w2.heap.size := hk2'.size
        have HB2 : Hid (Bs w2 a cap b) := HB1.out.kept hk2' (fun _ _ _ h => h)
        have HOL2 : Hid (∀ k, v27.ownBlock = some k → w1.heap.size ≤ k ∧ k < w2.heap.size) := fun k e => World.ownsRow.lt HO2.out k e
        clear ho2 hk2 hv2 hk2' HB1 HCS HNIL HCL
        go_wp2_with (at_builtin; go_must (refine wpList_append_bytes w2 rfl _ (.tmp 29) rfl w2.heap.size (.slice none 0 0) [] rfl (OwnBytes.nil0 _ _) a cap b rfl HB2.out (by simp; omega) (Nat.le_refl _) ?_))
        intro v30 w3 ho3 hk3 hv3
        obtain ⟨g3, c3, rfl⟩ : ∃ g c, v30 = .slice (some ⟨g, 0, none⟩) 128 c := by
          rcases ho3.out.2 with ⟨_, e⟩ | ⟨g', cap', cur, hv, -⟩
          · exfalso
            have := HBL.out
            simp at e
            rw [e] at this
            simp at this
          · exact ⟨g', cap', by rw [hv, HBL.out]⟩
        have HO3 : Hid (OwnBytes w3 w2.heap.size (.slice (some ⟨g3, 0, none⟩) 128 c3) b) := ho3.out
        have hk3' : Kept (fun _ => False) w2 w3 := hk3.out.mono (fun _ _ e => by cases e)
        have HK3 : Hid (Kept (fun _ => False) w1 w3) := HK2.out.trans hk3'
        have HW3 : Hid (w3.ownsRow w1.heap.size 96 2 v27 M (cellsW t.W D)) := ownsRow_other HO2.out hk3' (fun _ _ h => h)
        have hg3 : w2.heap.size ≤ g3 := (World.ownsRow.lt HO3.out g3 rfl).1
        have hg3' : g3 < w3.heap.size := (World.ownsRow.lt HO3.out g3 rfl).2
        have hs3 : w2.heap.size ≤ w3.heap.size := hk3'.size
        clear ho3 hk3 hv3 hk3' HB2 HO2 HK2
        have HCS4 : Hid (CsAt (w3.alloc (.cells #[.int .i64 (k : Int), .slice (some ⟨g3, 0, none⟩) 128 c3] 96)) (some ⟨w3.heap.size, 0, none⟩) [.int .i64 (k : Int), .slice (some ⟨g3, 0, none⟩) 128 c3]) := by
          intro j u hu
          refine ⟨w3.heap.size, 0, rfl, ?_⟩
          rw [Nat.zero_add]
          simp only [World.cell?, heap_alloc_new]
          simpa using hu
        have HK4 := hid_of (Kept.alloc (fun _ => False) w3 (.cells #[.int .i64 (k : Int), .slice (some ⟨g3, 0, none⟩) 128 c3] 96))
        have HW4 := hid_of (ownsRow_other HW3.out HK4.out (fun _ _ h => h))
        have HO4 := hid_of (ownsRow_other HO3.out HK4.out (fun _ _ h => h))
        have hs4 : w3.heap.size ≤ (w3.alloc (.cells #[.int .i64 (k : Int), .slice (some ⟨g3, 0, none⟩) 128 c3] 96)).heap.size := HK4.out.size
        go_wp2_with (at_builtin; go_must (refine wpList_append_cells _ rfl (.tmp 27) (.tmp 32) 80 rfl w1.heap.size 96 i1 _ 2 32 Try.underlying80 hj hy0 hy1 hy2 rfl (by decide) v27 M (cellsW t.W D) rfl HW4.out (some ⟨w3.heap.size, 0, none⟩) 1 1 [.int .i64 (k : Int), .slice (some ⟨g3, 0, none⟩) 128 c3] rfl rfl HCS4.out (fun e => by cases e) (fun u hu => by simp at hu; rcases hu with rfl | rfl <;> rfl) (by unfold maxLen; omega) (by omega) (by omega) ?_))
        intro v33 w5 ho5 hk5 hv5
        obtain ⟨g5, c5, hv33⟩ : ∃ g c, v33 = .slice (some ⟨g, 0, none⟩) (M + 1) c := by
          rcases ho5.out.2 with ⟨_, e⟩ | ⟨g', cap', cur, hv, -⟩
          · exfalso; omega
          · exact ⟨g', cap', hv⟩
        have HK5 : Hid (Kept (fun _ => False) w1 w5) := (HK3.out.trans HK4.out).trans' hk5.out (fun i hi e => by have := (HOL2.out i e).1; omega)
        have hn27 : ∀ i, v27.ownBlock = some i → i ≠ g3 := fun i e e2 => by have := (HOL2.out i e).2; omega
        have HV5 : Hid (∀ i, v33.ownBlock = some i → w1.heap.size ≤ i ∧ i ≠ g3 ∧ i < w5.heap.size) := fun i e => by
          have h5 := World.ownsRow.lt ho5.out i e
          refine ⟨h5.1, ?_, h5.2⟩
          rcases hv5.out i e with h6 | h6
          · exact hn27 i h6
          · omega
        have HO5 : Hid (OwnBytes w5 0 (.slice (some ⟨g3, 0, none⟩) b.length c3) b) := by
          have e := ownsRow_other HO4.out hk5.out (fun i e e2 => by cases e; exact hn27 g3 e2 rfl)
          show OwnBytes _ _ _ _
          unfold OwnBytes
          rw [HBL.out] at e ⊢
          exact own0 e
        have HE := hid_of (H0.out.push HK5.out k g3 c3 b v33 hal' htr HBL.out H256.out (by rw [cellsW_append _ _ _ _ H0.out.dl, ← HM.out]; exact own0 ho5.out) HO5.out (fun i e => ⟨(HV5.out i e).1, (HV5.out i e).2.1⟩) (by omega))
        have hrl : r < w1.heap.size := HR.out.2.2.1 r (HR.out.2.1 r HR.out.1.1)
        have f1 : w5.frozen? ⟨r, 1, none⟩ = false := by rw [HK5.out.frozen hrl (fun h => h)]; exact H0.out.froz 1
        have f4 : w5.frozen? ⟨r, 4, none⟩ = false := by rw [HK5.out.frozen hrl (fun h => h)]; exact H0.out.froz 4
        have f6 : w5.frozen? ⟨r, 6, none⟩ = false := by rw [HK5.out.frozen hrl (fun h => h)]; exact H0.out.froz 6
        have d1 : w5.cell? ⟨r, 1, none⟩ = some (.slice wa M wc) := by rw [HK5.out.cell hrl (fun h => h)]; exact c1
        have d4 : w5.cell? ⟨r, 4, none⟩ = some (.int .i64 at_) := by rw [HK5.out.cell hrl (fun h => h)]; exact c4
        have d6 : w5.cell? ⟨r, 6, none⟩ = some (.int .i64 (t.writes : Int)) := by rw [HK5.out.cell hrl (fun h => h)]; exact c6
        have hg5 : g3 < w5.heap.size := (World.ownsRow.lt HO5.out g3 rfl).2
        have hs5 : w1.heap.size ≤ w5.heap.size := HK5.out.size
        subst hv33
        clear ho5 hk5 hv5 HCS4 HK4 HW4 HO4 HW3 HO3 HK3 hs4 c1 c4 c6 hal'
        go_wp2_with fail
        go_ret
        have hrs : (((w5.setCell ⟨r, 1, none⟩ (Value.slice (some ⟨g5, 0, none⟩) (M + 1) c5)).setCell ⟨r, 4, none⟩ (.int .i64 (at_ - 1))).setCell ⟨r, 6, none⟩ (.int .i64 ((t.writes : Int) + 1))).heap.size = w5.heap.size := by simp [World.setCell]
        refine ⟨rfl, fun i => F i ∨ (Value.slice (some ⟨g5, 0, none⟩) (M + 1) c5).ownBlock = some i, fun i => G i ∨ (Value.slice (some ⟨g5, 0, none⟩) (M + 1) c5).ownBlock = some i ∨ i = g3, ⟨gB, cB, (Value.slice (some ⟨g5, 0, none⟩) (M + 1) c5), at_ - 1, D ++ [(g3, c3)], by rw [hs2']; exact HE.out, ⟨.inl HR.out.1.1, .inl HR.out.1.2.1, fun i e => .inr e⟩, fun i e => by rcases e with e | e; exact .inl (HR.out.2.1 i e); exact .inr (.inl e), ?_, ?_⟩, ?_, ?_, ?_⟩
        · intro i e
          rw [hrs]
          rcases e with e | e | e
          · have := HR.out.2.2.1 i e; omega
          · exact (HV5.out i e).2.2
          · omega
        · intro d hd
          rcases List.mem_append.1 hd with h3 | h3
          · refine ⟨.inl (HR.out.2.2.2 d h3).1, fun e => ?_⟩
            rcases e with e | e
            · exact (HR.out.2.2.2 d h3).2 e
            · have := (HV5.out _ e).1
              have := HR.out.2.2.1 _ (HR.out.2.2.2 d h3).1
              omega
          · rw [List.mem_singleton.1 h3]
            refine ⟨.inr (.inr rfl), fun e => ?_⟩
            rcases e with e | e
            · have e2 := HR.out.2.2.1 _ (HR.out.2.1 _ e)
              have e3 : g3 < w1.heap.size := e2
              omega
            · exact (HV5.out _ e).2.1 rfl
        · have e := HK1.out.trans (HK5.out.mono (G := F) (fun _ _ h => h.elim))
          exact ((e.trans (Kept.setCell _ _ _ HR.out.1.1)).trans (Kept.setCell _ _ _ HR.out.1.1)).trans (Kept.setCell _ _ _ HR.out.1.1)
        · intro i e
          rcases e with e | e
          · exact .inl e
          · exact .inr (Nat.le_trans hs1 (HV5.out i e).1)
        · intro i e
          rcases e with e | e | e
          · exact .inl e
          · exact .inr (Nat.le_trans hs1 (HV5.out i e).1)
          · exact .inr (by omega)
      · rw [if_pos hd] at hs2' hR'
        rw [hd] at HS
        subst hR'
        rw [hs2']
        clear hal hs2' hd
        go_enter Try.func50, Try.ntmps50
        go_wp2_with fail
        refine HL.out.mono ?_
        rintro e w0 ⟨rfl, rfl⟩
        go_wp2_with fail
        refine HS.out.mono ?_
        rintro e w1 ⟨rfl, ha, hk⟩
        have HA1 := hid_of ha
        have HK1 := hid_of hk
        clear ha hk HS
        go_wp2_with fail
        go_ret
        exact ⟨rfl, F, G, HA1.out, HK1.out, Sub.refl _ _, Sub.refl _ _⟩
    · have hno : ¬ s.fits (k : Int) ∨ b.length ≠ 128 := .inr h128
      unfold Sk.writeR at hR
      unfold Sk.writeS at hs2
      rw [if_pos hno] at hR hs2
      subst hR
      rw [hs2]
      have hb128 : ((b.length : Int) != 128) = true := by simp; omega
      clear h hn hfit hs2 hno hb hf h256 h128
      go_enter Try.func50, Try.ntmps50
      go_wp2_with fail
      refine HL.out.mono ?_
      rintro e w0 ⟨rfl, rfl⟩
      go_wp2_with fail
      go_ret
      exact ⟨rfl, F, G, HA.out, Kept.refl _ _, Sub.refl _ _, Sub.refl _ _⟩
  · have hno : ¬ s.fits i ∨ b.length ≠ 128 := .inl hfit
    unfold Sk.writeR at hR
    unfold Sk.writeS at hs2
    rw [if_pos hno] at hR hs2
    subst hR
    rw [hs2]
    rcases (by unfold Sk.fits at hfit; rw [← hn] at hfit; omega : i < 0 ∨ (0 ≤ i ∧ (n : Int) ≤ i)) with h1 | ⟨h1, h2⟩
    · clear h hn hfit hs2 hno hb hf h256
      go_enter Try.func50, Try.ntmps50
      go_wp2_with fail
      go_ret
      exact ⟨rfl, F, G, HA.out, Kept.refl _ _, Sub.refl _ _, Sub.refl _ _⟩
    · clear h hn hfit hs2 hno hb hf h256
      go_enter Try.func50, Try.ntmps50
      go_wp2_with fail
      refine HL.out.mono ?_
      rintro e w0 ⟨rfl, rfl⟩
      go_wp2_with fail
      go_ret
      exact ⟨rfl, F, G, HA.out, Kept.refl _ _, Sub.refl _ _, Sub.refl _ _⟩

end Go.Proofs.Ytjmeneddhalodaa

/- The document's own disk: Poke. -/
namespace Go.Proofs.Ytjmeneddhalodaa
set_option linter.unusedVariables false
set_option linter.unusedSimpArgs false
open Go.RowKit Dg

/-- A store into an owned row of elements of any size. -/
theorem ownsRow_setk {w : World} {base size : Nat} {e : TypeId} {g cap n : Nat} {xs : List Value} (h : w.ownsRow base e size (.slice (some ⟨g, 0, none⟩) n cap) n xs) (o : Nat) (u : Value) :
    (w.setCell ⟨g, o, none⟩ u).ownsRow base e size (.slice (some ⟨g, 0, none⟩) n cap) n (xs.set o u) := by
  refine ⟨by simpa using h.1, ?_⟩
  rcases h.2 with ⟨e1, _⟩ | ⟨g', cap', cur, hv, hb, hh, hn, hm, hcs, ht⟩
  · cases e1
  · cases hv
    refine .inr ⟨g, cap, cur.setIfInBounds o u, rfl, hb, heap_setCell_of hh u, hn, hm, by simpa using hcs, ?_⟩
    rw [← ht]
    simp [List.take_set]
theorem cellsW_set : ∀ (W : List (Nat × List Nat)) (D : List (Nat × Nat)) (j : Nat) (p : Nat × List Nat) (b : List Nat) (d : Nat × Nat), W[j]? = some p → cellsW (W.set j (p.1, b)) (D.set j d) = (cellsW W D).set (j * 2 + 1) (.slice (some ⟨d.1, 0, none⟩) 128 d.2)
  | [], D, j, p, b, d, h => by simp at h
  | q :: W, [], j, p, b, d, h => by cases j <;> simp [cellsW]
  | q :: W, e :: D, 0, p, b, d, h => by
    simp at h
    subst h
    rfl
  | q :: W, e :: D, j + 1, p, b, d, h => by
    have := cellsW_set W D j p b d (by simpa using h)
    simp only [List.set_cons_succ, cellsW, this]
    rw [show (j + 1) * 2 = (j * 2 + 1) + 1 by omega]
    rfl
/-- A write that waits has other bytes. -/
theorem RkIs.setW {w w5 : World} {r gB cB g c n : Nat} {at_ : Int} {D : List (Nat × Nat)} {s : Sk} (hn : n = s.W.length) (h : RkIs w r gB cB (.slice (some ⟨g, 0, none⟩) n c) at_ D s) (hk : Kept (fun _ => False) w w5) (j : Nat) (p : Nat × List Nat) (hp : s.W[j]? = some p) (b : List Nat) (hbl : b.length = 128) (h256 : ∀ x ∈ b, x < 256) (g' c' : Nat) (hb : OwnBytes w5 0 (.slice (some ⟨g', 0, none⟩) b.length c') b) (hg : w.heap.size ≤ g') :
    RkIs (w5.setCell ⟨g, j * 2 + 1, none⟩ (.slice (some ⟨g', 0, none⟩) 128 c')) r gB cB (.slice (some ⟨g, 0, none⟩) n c) at_ (D.set j (g', c')) { s with W := s.W.set j (p.1, b) } := by
  subst hn
  have hjl : j < s.W.length := (List.getElem?_eq_some_iff.1 hp).1
  have hgl : g < w.heap.size := (World.ownsRow.lt h.ws g rfl).2
  have hrl : r < w.heap.size := (Array.getElem?_eq_some_iff.1 h.box).1
  have hBl : gB < w.heap.size := (World.ownsRow.lt h.bs gB rfl).2
  have hset : Kept (fun i => i = g) w5 (w5.setCell ⟨g, j * 2 + 1, none⟩ (.slice (some ⟨g', 0, none⟩) 128 c')) := Kept.setCell _ _ _ rfl
  have hall : Kept (fun i => i = g) w (w5.setCell ⟨g, j * 2 + 1, none⟩ (.slice (some ⟨g', 0, none⟩) 128 c')) := (hk.mono (fun _ _ h => h.elim)).trans hset
  have n1 : r ≠ g := fun e => h.ne2.1 (by rw [e]; rfl)
  have n2 : gB ≠ g := fun e => h.ne2.2 (by rw [e]; rfl)
  refine ⟨?_, ownsRow_other h.bs hall (fun i e => by cases e; exact n2), ?_, by simp [h.dl], ?_, h.at1, h.at2, ?_, h.ne1, h.ne2, ?_⟩
  · rw [hall.block r hrl n1]
    exact h.box
  · show World.ownsRow _ _ _ _ _ (s.W.set j (p.1, b)).length _
    rw [List.length_set, cellsW_set _ _ _ _ _ _ hp]
    exact ownsRow_setk (ownsRow_other h.ws hk (fun _ _ h => h)) _ _
  · intro j' p' d' hp' hd'
    rw [List.getElem?_set] at hp' hd'
    by_cases e : j = j'
    · subst e
      rw [if_pos rfl, if_pos hjl] at hp'
      rw [if_pos rfl, if_pos (by rw [h.dl]; exact hjl)] at hd'
      cases hp'
      cases hd'
      exact ownsRow_other hb hset (fun i e e2 => by
        have e3 : g' = i := by simpa [Value.ownBlock] using e
        omega)
    · rw [if_neg e] at hp' hd'
      exact ownsRow_other (h.ds j' p' d' hp' hd') hall (fun i e e2 => (h.ne3 d' (List.mem_of_getElem? hd')).2.2 (by
        have e3 : d'.1 = i := by simpa [Value.ownBlock] using e
        rw [e3, e2]
        rfl))
  · refine ⟨h.fine.n, h.fine.b256, fun q hq => ?_⟩
    rcases List.mem_or_eq_of_mem_set hq with h3 | h3
    · exact h.fine.w q h3
    · rw [h3]
      exact ⟨(h.fine.w p (List.mem_of_getElem? hp)).1, hbl, h256⟩
  · intro d hd
    rcases List.mem_or_eq_of_mem_set hd with h3 | h3
    · exact h.ne3 d h3
    · rw [h3]
      refine ⟨by show g' ≠ r; omega, by show g' ≠ gB; omega, fun e => ?_⟩
      have e3 : g = g' := by simpa [Value.ownBlock] using e
      omega
/-- The first j of those that wait are turned. -/
def pokeTo (W : List (Nat × List Nat)) (k dg j : Nat) : List (Nat × List Nat) := (W.take j).map (pokeW k dg) ++ W.drop j
theorem pokeTo_zero (W : List (Nat × List Nat)) (k dg : Nat) : pokeTo W k dg 0 = W := by simp [pokeTo]
theorem pokeTo_all (W : List (Nat × List Nat)) (k dg : Nat) : pokeTo W k dg W.length = W.map (pokeW k dg) := by simp [pokeTo]
theorem length_pokeTo (W : List (Nat × List Nat)) (k dg j : Nat) : (pokeTo W k dg j).length = W.length := by simp [pokeTo]; omega
theorem pokeTo_get {W : List (Nat × List Nat)} {k dg j : Nat} (hj : j < W.length) : (pokeTo W k dg j)[j]? = W[j]? := by
  unfold pokeTo
  rw [List.getElem?_append_right (by simp; omega), List.getElem?_drop]
  congr 1
  simp
  omega
theorem pokeTo_succ {W : List (Nat × List Nat)} {k dg j : Nat} {p : Nat × List Nat} (hp : W[j]? = some p) : pokeTo W k dg (j + 1) = (pokeTo W k dg j).set j (pokeW k dg p) := by
  have hj : j < W.length := (List.getElem?_eq_some_iff.1 hp).1
  have e1 : ((W.take j).map (pokeW k dg)).length = j := by simp; omega
  unfold pokeTo
  rw [List.set_append_right _ _ (by omega), e1, Nat.sub_self, List.take_add_one, hp, List.map_append]
  have e4 : W.drop j = p :: W.drop (j + 1) := by
    rw [List.drop_eq_getElem_cons hj]
    congr 1
    exact (List.getElem?_eq_some_iff.1 hp).2
  rw [e4]
  simp
set_option maxRecDepth 100000 in
set_option maxHeartbeats 4000000 in
theorem rdpoke_any (w : World) (r : Nat) (F G : Nat → Prop) (s : Sk) (h : RkAt w r F G s) (i dg : Int) (hi : I64 i) (hdg : I64 dg) (hWl : s.W.length ≤ 100000) (R : Bool) (hR : R = decide (s.pokes i dg)) (s2 : Sk) (hs2 : s2 = s.pokeS i dg) :
    Calls Try.prog 48 #[.pointer (some ⟨r, 0, none⟩), .int .i64 i, .int .i64 dg] w fun e w' => e = .returned (.bool R) ∧ ∃ G', RkAt w' r F G' s2 ∧ Kept F w w' ∧ Sub G' G w.heap.size := by
  obtain ⟨n, hn⟩ : ∃ n, n = s.B.length / 128 := ⟨_, rfl⟩
  have HL := hid_of (rdlen_any w r F G s h n hn)
  have HA := hid_of h
  obtain ⟨hi1, hi2⟩ := hi
  obtain ⟨hd1, hd2⟩ := hdg
  by_cases hpk : s.pokes i dg
  · obtain ⟨hfit, hdg0, hdg1⟩ := hpk
    obtain ⟨k, rfl, hk⟩ := hfit.nat
    have hroom := hfit.room
    rw [← hn] at hk
    obtain ⟨D0, rfl⟩ : ∃ D0 : Nat, dg = (D0 : Int) := ⟨dg.toNat, by omega⟩
    have hs2' : s2 = { s with B := flipB s.B (k * 128 + D0 / 8) (maskOf D0), W := s.W.map (pokeW k D0) } := by
      rw [hs2]; unfold Sk.pokeS; rw [if_pos ⟨hfit, hdg0, hdg1⟩]; rfl
    have hR' : R = true := by rw [hR]; exact decide_eq_true ⟨hfit, hdg0, hdg1⟩
    subst hR'
    obtain ⟨gB, cB, vW, at_, D, h0, h1, h2, h3, h4⟩ := h
    have HR : Hid ((F r ∧ F gB ∧ ∀ k, vW.ownBlock = some k → F k) ∧ (∀ k, F k → G k) ∧ (∀ k, G k → k < w.heap.size) ∧ ∀ d ∈ D, G d.1 ∧ ¬ F d.1) := ⟨h1, h2, h3, h4⟩
    obtain ⟨c0, -⟩ := h0.cell
    obtain ⟨N, hN⟩ : ∃ N, N = s.B.length := ⟨_, rfl⟩
    have hbl : N ≤ 524288 := by rw [hN]; exact h0.fine.le
    rw [← hN] at c0 hroom
    obtain ⟨lo, hlo⟩ : ∃ lo, lo = k * 128 := ⟨_, rfl⟩
    have hlo' : (k : Int) * 128 = (lo : Int) := by omega
    obtain ⟨dq, hdq⟩ : ∃ dq, dq = D0 / 8 := ⟨_, rfl⟩
    have hdq' : (D0 : Int) / 8 = (dq : Int) := by omega
    have hdq8 : dq < 128 := by omega
    obtain ⟨e0, he0⟩ : ∃ e0, e0 = lo + dq := ⟨_, rfl⟩
    have he0' : (lo : Int) + (dq : Int) = (e0 : Int) := by omega
    have heN : e0 < N := by omega
    obtain ⟨mk, hmk⟩ : ∃ mk, mk = maskOf D0 := ⟨_, rfl⟩
    have hmk' : (128 : Int) / 2 ^ (D0 % 8) = (mk : Int) := by rw [hmk]; unfold maskOf; push_cast; rfl
    have hmkl : mk < 256 := by rw [hmk]; exact maskOf_lt _
    obtain ⟨x, hx⟩ : ∃ x, s.B[e0]? = some x := ⟨_, List.getElem?_eq_getElem (by rw [← hN]; exact heN)⟩
    have hx256 : x < 256 := h0.fine.b256 x (List.mem_of_getElem? hx)
    obtain ⟨y, hy⟩ : ∃ y, y = x ^^^ mk := ⟨_, rfl⟩
    have hxy : bits BinOp.xor IntKind.u8 (x : Int) (mk : Int) = (y : Int) := by rw [hy]; exact u8_xor_nat _ _ hx256 hmkl
    obtain ⟨hg1, hg2⟩ := own_cell h0.bs hx
    obtain ⟨B', hB'⟩ : ∃ B', B' = flipB s.B (k * 128 + D0 / 8) (maskOf D0) := ⟨_, rfl⟩
    have hB2 : B' = s.B.set e0 y := by rw [hB', hy, he0, hlo, hdq, hmk]; unfold flipB; rw [← hlo, ← hdq, ← he0, List.getD_eq_getElem?_getD, hx]; rfl
    obtain ⟨t, ht⟩ : ∃ t, t = { s with B := B' } := ⟨_, rfl⟩
    have hB256 : ∀ z ∈ B', z < 256 := by rw [hB']; exact flipB_lt h0.fine.b256 _ _ (maskOf_lt _)
    have HT : Hid (RkIs (w.setCell ⟨gB, e0, none⟩ (.int .u8 (y : Int))) r gB cB vW at_ D t) := by
      rw [ht]
      refine h0.putB (Kept.setCell _ _ _ rfl) B' (by rw [hB2]; simp) hB256 ?_
      rw [hB2]
      exact own_set h0.bs e0 y (by rw [← hN]; exact heN)
    have HKT : Hid (Kept F w (w.setCell ⟨gB, e0, none⟩ (.int .u8 (y : Int)))) := Kept.setCell _ _ _ h1.2.1
    have htW : t.W = s.W := by rw [ht]
    have hs3 : s2 = { t with W := t.W.map (pokeW k D0) } := by rw [hs2', ht, hB']
    obtain ⟨wa, wc, rfl, -⟩ := h0.form
    obtain ⟨M, hM⟩ : ∃ M, M = s.W.length := ⟨_, rfl⟩
    have HM : Hid (M = t.W.length) := by show _ = _; rw [htW, hM]
    rw [← hM] at hWl HR HT
    have HMK := hid_of hmk
    have HDQ := hid_of hdq
    have hrl : r < w.heap.size := h3 r (h2 r h1.1)
    have hgl : gB < w.heap.size := h3 gB (h2 gB h1.2.1)
    have c1 := h0.cell.2.1
    rw [← hM] at c1
    have n1 : r ≠ gB := h0.ne1
    have c1' : (w.setCell ⟨gB, e0, none⟩ (.int .u8 (y : Int))).cell? ⟨r, 1, none⟩ = some (.slice wa M wc) := by rw [HT.out.cell.2.1]
    obtain ⟨w1, hw1⟩ : ∃ w1, w1 = w.setCell ⟨gB, e0, none⟩ (.int .u8 (y : Int)) := ⟨_, rfl⟩
    rw [← hw1] at HT HKT c1'
    have hnk : decide (n ≤ k) = false := decide_eq_false (by omega)
    have hk0 : decide ((k : Int) < 0) = false := decide_eq_false (by omega)
    have hd0 : decide ((D0 : Int) < 0) = false := decide_eq_false (by omega)
    have hd8 : decide ((1024 : Int) ≤ (D0 : Int)) = false := decide_eq_false (by omega)
    clear hR hs2 hfit hn h0 h1 h2 h3 h4 hs2' hN hlo hdq he0 hmk hx hy hB' hB2 ht hB256 hM c1
    go_enter Try.func48, Try.ntmps48
    go_wp2_with fail
    refine HL.out.mono ?_
    rintro e w0 ⟨rfl, rfl⟩
    go_upto_region 5 with fail
    rw [← hw1, hmk']
    have HKN := hid_of hk
    clear hw1 c0 hg1 hg2 hmk' hk
    have hs1 : w.heap.size ≤ w1.heap.size := HKT.out.size
    go_wp2_with fail
    go_loopw [49] (fun v ws => ∃ (j : Nat) (Dj : List (Nat × Nat)), j ≤ M ∧ v = .int .i64 (j : Int) ∧ Hid (RkIs ws r gB cB (.slice wa M wc) at_ Dj { t with W := pokeTo t.W k D0 j }) ∧ Hid (Kept F w ws) ∧ Hid (∀ d ∈ Dj, (G d.1 ∧ ¬ F d.1) ∨ (w.heap.size ≤ d.1 ∧ d.1 < ws.heap.size)) ∧ w.heap.size ≤ ws.heap.size) (fun v _ => M - (intOf v).toNat)
    case atStart => exact ⟨0, D, Nat.zero_le _, rfl, by show RkIs _ _ _ _ _ _ _ _; rw [pokeTo_zero]; exact HT.out, HKT, fun d hd => .inl (HR.out.2.2.2 d hd), hs1⟩
    case round =>
      obtain ⟨j, Dj, hj, rfl, hr, hkp, hDj, hsz⟩ := hrel
      obtain ⟨-, d1, -⟩ := hr.out.cell
      by_cases hjM : j < M
      · obtain ⟨p, hp⟩ : ∃ p, t.W[j]? = some p := ⟨t.W[j]'(by rw [← HM.out]; exact hjM), List.getElem?_eq_getElem _⟩
        have hp' : (pokeTo t.W k D0 j)[j]? = some p := by rw [pokeTo_get (by rw [← HM.out]; exact hjM)]; exact hp
        obtain ⟨g, c, d, e1, hdj, w0, w2, hfz, hod⟩ := hr.out.wait hp'
        obtain ⟨rfl, rfl⟩ : wa = some ⟨g, 0, none⟩ ∧ wc = c := by cases e1; exact ⟨rfl, rfl⟩
        have hp2 : p.2.length = 128 := (hr.out.fine.w p (List.mem_of_getElem? hp')).2.1
        have hp3 : ∀ x ∈ p.2, x < 256 := (hr.out.fine.w p (List.mem_of_getElem? hp')).2.2
        have hp1 : p.1 ≤ 10000 := by have e2 := (hr.out.fine.w p (List.mem_of_getElem? hp')).1; have e3 := hr.out.fine.le; omega
        obtain ⟨q, hq⟩ : ∃ q, q = p.1 := ⟨_, rfl⟩
        obtain ⟨b, hb⟩ : ∃ b, b = p.2 := ⟨_, rfl⟩
        obtain ⟨dg, hdg⟩ : ∃ dg, dg = d.1 := ⟨_, rfl⟩
        obtain ⟨dc, hdc⟩ : ∃ dc, dc = d.2 := ⟨_, rfl⟩
        rw [← hq] at w0 hp1
        rw [← hdg, ← hdc] at w2
        have HPB : Hid (Bs wr (some ⟨dg, 0, none⟩) dc b) := by rw [hdg, hdc, hb]; exact Bs.own hod
        rw [← hb] at hp2 hp3
        have HPL := hid_of hp2
        have HSU : Hid (pokeTo t.W k D0 (j + 1) = (pokeTo t.W k D0 j).set j (pokeW k D0 p)) := pokeTo_succ hp
        by_cases hqk : q = k
        · have hpw : pokeW k D0 p = (p.1, flipB b dq mk) := by unfold pokeW; rw [if_pos (by rw [← hq]; exact hqk), HDQ.out, HMK.out, hb]
          obtain ⟨x2, hx2⟩ : ∃ x, b[dq]? = some x := ⟨_, List.getElem?_eq_getElem (by rw [hp2]; exact hdq8)⟩
          have hx2l : x2 < 256 := hp3 x2 (List.mem_of_getElem? hx2)
          obtain ⟨y2, hy2⟩ : ∃ y, y = x2 ^^^ mk := ⟨_, rfl⟩
          have hxy2 : bits BinOp.xor IntKind.u8 (x2 : Int) (mk : Int) = (y2 : Int) := by rw [hy2]; exact u8_xor_nat _ _ hx2l hmkl
          have hfl : flipB b dq mk = b.set dq y2 := by unfold flipB; rw [List.getD_eq_getElem?_getD, hx2, hy2]; rfl
          have HX2 := hid_of hx2
          have HPW : Hid (pokeW k D0 p = (p.1, b.set dq y2)) := by show _ = _; rw [hpw, hfl]
          have HP' := hid_of hp'
          have HB256 : Hid (∀ z ∈ b.set dq y2, z < 256) := by rw [← hfl]; exact flipB_lt hp3 _ _ hmkl
          clear hp hp' hdj hod hp2 hp3 hq hb hdg hdc e1 hpw hx2 hy2 hfl
          subst hqk
          go_wp2_with (at_builtin; go_must (refine wpList_append_bytes wr rfl _ (.tmp 69) rfl wr.heap.size (.slice none 0 0) [] rfl (OwnBytes.nil0 _ _) (some ⟨dg, 0, none⟩) dc b (by rw [HPL.out]; rfl) HPB.out (by rw [HPL.out]; decide) (Nat.le_refl _) ?_))
          intro v9 w3 ho3 hk3 hv3
          obtain ⟨g3, c3, rfl⟩ : ∃ g c, v9 = .slice (some ⟨g, 0, none⟩) 128 c := by
            rcases ho3.out.2 with ⟨_, e⟩ | ⟨g', cap', cur, hv, -⟩
            · exfalso
              have := HPL.out
              simp at e
              rw [e] at this
              simp at this
            · exact ⟨g', cap', by rw [hv, HPL.out]⟩
          have ho3' : w3.ownsRow wr.heap.size 5 1 (.slice (some ⟨g3, 0, none⟩) 128 c3) 128 (u8s b) := by
            have e : OwnBytes w3 wr.heap.size (.slice (some ⟨g3, 0, none⟩) 128 c3) b := ho3.out
            unfold OwnBytes at e
            rw [HPL.out] at e
            exact e
          have HO3 := hid_of ho3'
          have hk3' : Kept (fun _ => False) wr w3 := hk3.out.mono (fun _ _ e => by cases e)
          have HK3 := hid_of hk3'
          obtain ⟨hc3, hfz3⟩ := own_cell ho3' HX2.out
          have hg3 : wr.heap.size ≤ g3 := (World.ownsRow.lt ho3' g3 rfl).1
          have hg3' : g3 < w3.heap.size := (World.ownsRow.lt ho3' g3 rfl).2
          have hc3l : 128 ≤ c3 := (own_cap ho3').1
          have hgl2 : g < wr.heap.size := World.block_lt_of_cell? wr _ w2
          have hrl2 : r < wr.heap.size := World.block_lt_of_cell? wr _ d1
          have ngr : g3 ≠ g := by omega
          have HW5 : Hid (Kept (fun _ => False) wr (w3.setCell ⟨g3, dq, none⟩ (.int .u8 (y2 : Int)))) := hk3'.trans' (Kept.setCell (F := fun i => i = g3) _ _ _ rfl) (fun i hi e => by omega)
          have HO5 : Hid (OwnBytes (w3.setCell ⟨g3, dq, none⟩ (.int .u8 (y2 : Int))) 0 (.slice (some ⟨g3, 0, none⟩) (b.set dq y2).length c3) (b.set dq y2)) := by
            show OwnBytes _ _ _ _
            unfold OwnBytes
            rw [List.length_set, HPL.out]
            exact own0 (own_set ho3' dq y2 hdq8)
          obtain ⟨w5, hw5⟩ : ∃ w5, w5 = w3.setCell ⟨g3, dq, none⟩ (.int .u8 (y2 : Int)) := ⟨_, rfl⟩
          rw [← hw5] at HW5 HO5
          have d5 : w5.cell? ⟨r, 1, none⟩ = some (.slice (some ⟨g, 0, none⟩) M wc) := by rw [HW5.out.cell hrl2 (fun h => h)]; exact d1
          have d6 : w5.cell? ⟨g, j * 2 + 1, none⟩ = some (.slice (some ⟨dg, 0, none⟩) 128 dc) := by rw [HW5.out.cell hgl2 (fun h => h)]; exact w2
          have f6 : w5.frozen? ⟨g, j * 2 + 1, none⟩ = false := by rw [HW5.out.frozen hgl2 (fun h => h)]; exact hfz
          have hs5 : w5.heap.size = w3.heap.size := by rw [hw5]; simp [World.setCell]
          clear ho3 hk3 hv3 ho3' hk3' HPB
          go_upto_region 11 with fail
          rw [← hw5]
          have HML : Hid (M = (pokeTo t.W q D0 j).length) := by show _ = _; rw [length_pokeTo, ← HM.out]
          have HRK : Hid (RkIs (w5.setCell ⟨g, j * 2 + 1, none⟩ (.slice (some ⟨g3, 0, none⟩) 128 c3)) r gB cB (.slice (some ⟨g, 0, none⟩) M wc) at_ (Dj.set j (g3, c3)) { t with W := pokeTo t.W q D0 (j + 1) }) := by
            rw [HSU.out, HPW.out]
            exact hr.out.setW HML.out HW5.out j p HP'.out (b.set dq y2) (by rw [List.length_set]; exact HPL.out) HB256.out g3 c3 HO5.out hg3
          have HKK : Hid (Kept F w (w5.setCell ⟨g, j * 2 + 1, none⟩ (.slice (some ⟨g3, 0, none⟩) 128 c3))) := (hkp.out.trans (HW5.out.mono (fun _ _ h => h.elim))).trans (Kept.setCell _ _ _ (HR.out.1.2.2 g rfl))
          have hszz : (w5.setCell ⟨g, j * 2 + 1, none⟩ (.slice (some ⟨g3, 0, none⟩) 128 c3)).heap.size = w3.heap.size := by rw [← hs5]; simp [World.setCell]
          have HDD : Hid (∀ d ∈ Dj.set j (g3, c3), (G d.1 ∧ ¬ F d.1) ∨ (w.heap.size ≤ d.1 ∧ d.1 < (w5.setCell ⟨g, j * 2 + 1, none⟩ (.slice (some ⟨g3, 0, none⟩) 128 c3)).heap.size)) := fun d hd => by
            rw [hszz]
            rcases List.mem_or_eq_of_mem_set hd with h3 | h3
            · rcases hDj.out d h3 with h4 | h4
              · exact .inl h4
              · exact .inr ⟨h4.1, by omega⟩
            · rw [h3]; exact .inr ⟨by show w.heap.size ≤ g3; omega, hg3'⟩
          have hsz2 : w.heap.size ≤ (w5.setCell ⟨g, j * 2 + 1, none⟩ (.slice (some ⟨g3, 0, none⟩) 128 c3)).heap.size := by omega
          clear hw5 hc3 hfz3 hszz
          go_wp2_with fail
          refine ⟨?_, by (simp [intOf]) <;> omega⟩
          first
            | exact ⟨j + 1, _, by omega, by go_num, HRK, HKK, HDD, hsz2⟩
            | ((repeat apply Exists.intro); refine ⟨?_, rfl⟩; exact ⟨j + 1, _, by omega, by go_num, HRK, HKK, HDD, hsz2⟩)
        · have hpw : pokeW k D0 p = p := by unfold pokeW; rw [if_neg (by rw [← hq]; exact hqk)]
          have HRK : Hid (RkIs wr r gB cB (.slice (some ⟨g, 0, none⟩) M wc) at_ Dj { t with W := pokeTo t.W k D0 (j + 1) }) := by
            have e : (pokeTo t.W k D0 j).set j p = pokeTo t.W k D0 j := by
              rw [List.getElem?_eq_some_iff] at hp'
              obtain ⟨h5, h6⟩ := hp'
              rw [← h6]
              exact List.set_getElem_self h5
            rw [HSU.out, hpw, e]
            exact hr.out
          have hne : ((q : Int) == (k : Int)) = false := beq_eq_false_iff_ne.2 (by omega)
          clear hp hp' hdj hod hp2 hp3 hq hb hdg hdc e1 hpw
          go_wp2_with fail
          exact ⟨⟨j + 1, _, by omega, by go_num, HRK, hkp, hDj, hsz⟩, by (simp [intOf]) <;> omega⟩
      · obtain rfl : j = M := by omega
        have HRK : Hid (RkIs wr r gB cB (.slice wa j wc) at_ Dj s2) := by
          rw [hs3, ← pokeTo_all, ← HM.out]
          exact hr.out
        go_wp2_with fail
        go_ret
        refine ⟨rfl, fun i => G i ∨ ∃ d ∈ Dj, i = d.1, ⟨gB, cB, .slice wa j wc, at_, Dj, HRK.out, HR.out.1, fun i e => .inl (HR.out.2.1 i e), ?_, ?_⟩, hkp.out, ?_⟩
        · intro i e
          rcases e with e | ⟨d, hd, rfl⟩
          · have := HR.out.2.2.1 i e; omega
          · rcases hDj.out d hd with h4 | h4
            · have := HR.out.2.2.1 _ h4.1; omega
            · exact h4.2
        · intro d hd
          refine ⟨.inr ⟨d, hd, rfl⟩, fun e => ?_⟩
          rcases hDj.out d hd with h4 | h4
          · exact h4.2 e
          · have := HR.out.2.2.1 _ (HR.out.2.1 _ e); omega
        · intro i e
          rcases e with e | ⟨d, hd, rfl⟩
          · exact .inl e
          · rcases hDj.out d hd with h4 | h4
            · exact .inl h4.1
            · exact .inr h4.1
  · have hs2' : s2 = s := by rw [hs2]; unfold Sk.pokeS; rw [if_neg hpk]
    have hR' : R = false := by rw [hR]; exact decide_eq_false hpk
    subst hR'
    rw [hs2']
    have hcase : i < 0 ∨ (0 ≤ i ∧ (n : Int) ≤ i) ∨ ((0 ≤ i ∧ i < (n : Int)) ∧ dg < 0) ∨ ((0 ≤ i ∧ i < (n : Int)) ∧ 0 ≤ dg ∧ 1024 ≤ dg) := by
      unfold Sk.pokes Sk.fits at hpk
      rw [← hn] at hpk
      omega
    clear h hn hpk hs2 hs2' hR
    rcases hcase with h1 | ⟨h1, h2⟩ | ⟨⟨h1, h2⟩, h3⟩ | ⟨⟨h1, h2⟩, h3, h4⟩
    · go_enter Try.func48, Try.ntmps48
      go_wp2_with fail
      go_ret
      exact ⟨rfl, G, HA.out, Kept.refl _ _, Sub.refl _ _⟩
    all_goals
      go_enter Try.func48, Try.ntmps48
      go_wp2_with fail
      refine HL.out.mono ?_
      rintro e w0 ⟨rfl, rfl⟩
      go_wp2_with fail
      go_ret
      exact ⟨rfl, G, HA.out, Kept.refl _ _, Sub.refl _ _⟩

end Go.Proofs.Ytjmeneddhalodaa

/- The document's own disk: Copy, From. -/
namespace Go.Proofs.Ytjmeneddhalodaa
set_option linter.unusedVariables false
set_option linter.unusedSimpArgs false
open Go.RowKit Dg

set_option maxRecDepth 100000 in
set_option maxHeartbeats 4000000 in
theorem rdcopy_any (w : World) (r : Nat) (F G : Nat → Prop) (s : Sk) (h : RkAt w r F G s) (hWl : s.W.length ≤ 100000) :
    Calls Try.prog 29 #[.pointer (some ⟨r, 0, none⟩)] w fun e w' => ∃ (x : Nat) (F' G' : Nat → Prop), e = .returned (.pointer (some ⟨x, 0, none⟩)) ∧ RkAt w' x F' G' s ∧ Below w.heap.size w w' ∧ (∀ k, F' k → w.heap.size ≤ k) ∧ Sub G' G w.heap.size ∧ Apart F G' := by
  obtain ⟨i1, hj, hy0, hy1, hy2⟩ := info_parts Try.infoW
  obtain ⟨gB, cB, vW, at_, D, h0, h1, h2, h3, h4⟩ := h
  have HR : Hid ((F r ∧ F gB ∧ ∀ k, vW.ownBlock = some k → F k) ∧ (∀ k, F k → G k) ∧ (∀ k, G k → k < w.heap.size) ∧ ∀ d ∈ D, G d.1 ∧ ¬ F d.1) := ⟨h1, h2, h3, h4⟩
  have H0 := hid_of h0
  obtain ⟨c0, c1, c2, c3, c4, c5, c6, c7⟩ := h0.cell
  obtain ⟨wa, wc, rfl, hwa⟩ := h0.form
  have hrl : r < w.heap.size := h3 r (h2 r h1.1)
  obtain ⟨w1, hw1⟩ : ∃ w1, w1 = w.alloc (.cells #[.slice (some ⟨gB, 0, none⟩) s.B.length cB, .slice wa s.W.length wc, .bool s.dead, .bool s.stop.isSome, .int .i64 at_, .int .i64 (s.reads : Int), .int .i64 (s.writes : Int), .int .i64 (s.flushes : Int)] 82) := ⟨_, rfl⟩
  have hk1 : Kept (fun _ => False) w w1 := by rw [hw1]; exact Kept.alloc _ _ _
  obtain ⟨x, hx⟩ : ∃ x, x = w.heap.size := ⟨_, rfl⟩
  have HBX : Hid (w1.heap[x]? = some (.cells #[.slice (some ⟨gB, 0, none⟩) s.B.length cB, .slice wa s.W.length wc, .bool s.dead, .bool s.stop.isSome, .int .i64 at_, .int .i64 (s.reads : Int), .int .i64 (s.writes : Int), .int .i64 (s.flushes : Int)] 82 (0, 0))) := by show _ = _; rw [hw1, hx]; exact heap_alloc_new w _
  have hs1 : w1.heap.size = x + 1 := by rw [hw1, hx]; simp
  have H1 := hid_of (h0.kept hk1 (fun h => h) (fun h => h) (fun _ _ h => h) (fun _ _ h => h))
  have HK1 := hid_of hk1
  have HBS : Hid (Bs w1 (some ⟨gB, 0, none⟩) cB s.B) := Bs.own H1.out.bs
  have hBl : s.B.length ≤ 524288 := h0.fine.le
  have hBp : 128 ≤ s.B.length := h0.fine.pos
  have d0 := H1.out.cell.1
  have hrx : r < x := by omega
  obtain ⟨M, hM⟩ : ∃ M, M = s.W.length := ⟨_, rfl⟩
  have HM := hid_of hM
  have HCL : Hid ((cellsW s.W D).length = M * 2) := by show _ = _; rw [hM]; exact length_cellsW _ _ h0.dl
  have HNIL : Hid (wa = none → M = 0 ∧ wc = 0) := fun e => by
    subst e
    rcases h0.ws.2 with ⟨e1, e2⟩ | ⟨g, cc, cur, e1, -⟩
    · exact ⟨by rw [hM]; exact e2, by simp only [Value.slice.injEq] at e1; exact e1.2.2⟩
    · simp at e1
  have HCS : Hid (CsAt w1 wa (cellsW s.W D)) := by
    intro j u hu
    rcases hwa with e | ⟨g, rfl⟩
    · have e2 := length_cellsW s.W D h0.dl
      rw [List.getElem?_eq_none (by omega)] at hu
      cases hu
    · exact ⟨g, 0, rfl, by rw [Nat.zero_add]; exact (row_cell H1.out.ws hu).1⟩
  rw [← hM] at hWl
  have hwsl : ∀ y, wa = some y → M ≠ 0 → y.block < w.heap.size := fun y hy h0' => by
    rcases hwa with e | ⟨g, e⟩
    · omega
    · rw [e] at hy
      cases hy
      subst e
      exact (World.ownsRow.lt h0.ws g rfl).2
  clear h0 h1 h2 h3 h4 hk1 hwa hM
  go_enter Try.func29, Try.ntmps29
  go_upto_region 2 with fail
  rw [← hw1, ← hx]
  have hx1 : x ≤ w.heap.size := by omega
  have hx2 : w.heap.size ≤ x := by omega
  have hs11 : w1.heap.size ≤ x + 1 := by omega
  have hs12 : x + 1 ≤ w1.heap.size := by omega
  clear hw1 hx hs1 c0 c1 c2 c3 c4 c5 c6 c7
  go_wp2_with (at_builtin; go_must (refine wpList_append_bytes w1 rfl _ (.tmp 10) rfl w1.heap.size (.slice none 0 0) [] rfl (OwnBytes.nil0 _ _) (some ⟨gB, 0, none⟩) cB s.B rfl HBS.out (by simp; omega) (Nat.le_refl _) ?_))
  intro v11 w2 ho2 hk2 hv2
  obtain ⟨g2, c2, rfl⟩ : ∃ g c, v11 = .slice (some ⟨g, 0, none⟩) s.B.length c := by
    rcases ho2.out.2 with ⟨_, e⟩ | ⟨g', cap', cur, hv, -⟩
    · exfalso
      simp at e
      rw [e] at hBp
      simp at hBp
    · exact ⟨g', cap', hv⟩
  have HO2 : Hid (OwnBytes w2 w1.heap.size (.slice (some ⟨g2, 0, none⟩) s.B.length c2) s.B) := ho2.out
  have hk2' : Kept (fun _ => False) w1 w2 := hk2.out.mono (fun _ _ e => by cases e)
  have HK2 := hid_of hk2'
  have hg2 : w1.heap.size ≤ g2 := (World.ownsRow.lt HO2.out g2 rfl).1
  have hg2' : g2 < w2.heap.size := (World.ownsRow.lt HO2.out g2 rfl).2
  have HBX2 : Hid (w2.heap[x]? = some (.cells #[.slice (some ⟨gB, 0, none⟩) s.B.length cB, .slice wa s.W.length wc, .bool s.dead, .bool s.stop.isSome, .int .i64 at_, .int .i64 (s.reads : Int), .int .i64 (s.writes : Int), .int .i64 (s.flushes : Int)] 82 (0, 0))) := by show _ = _; rw [hk2'.block x (by omega) (fun h => h)]; exact HBX.out
  have x0 : w2.cell? ⟨x, 0, none⟩ = some (.slice (some ⟨gB, 0, none⟩) s.B.length cB) := by simp [World.cell?, HBX2.out]
  have xf : w2.frozen? ⟨x, 0, none⟩ = false := by simp [World.frozen?, HBX2.out]
  obtain ⟨w3, hw3⟩ : ∃ w3, w3 = w2.setCell ⟨x, 0, none⟩ (.slice (some ⟨g2, 0, none⟩) s.B.length c2) := ⟨_, rfl⟩
  have HBX3 : Hid (w3.heap[x]? = some (.cells #[.slice (some ⟨g2, 0, none⟩) s.B.length c2, .slice wa s.W.length wc, .bool s.dead, .bool s.stop.isSome, .int .i64 at_, .int .i64 (s.reads : Int), .int .i64 (s.writes : Int), .int .i64 (s.flushes : Int)] 82 (0, 0))) := by show _ = _; rw [hw3, heap_setCell_of HBX2.out]; rfl
  have hk3 : Kept (fun i => i = x) w1 w3 := by rw [hw3]; exact (hk2'.mono (fun _ _ h => h.elim)).trans (Kept.setCell _ _ _ rfl)
  have HK3 := hid_of hk3
  have HO3 : Hid (OwnBytes w3 w1.heap.size (.slice (some ⟨g2, 0, none⟩) s.B.length c2) s.B) := by rw [hw3]; exact ownsRow_other HO2.out (Kept.setCell (F := fun i => i = x) _ _ _ rfl) (fun i e e2 => by
    have e3 : g2 = i := by simpa [Value.ownBlock] using e
    omega)
  have HCS3 : Hid (CsAt w3 wa (cellsW s.W D)) := by
    intro j u hu
    obtain ⟨b, off, rfl, hc⟩ := HCS.out j u hu
    refine ⟨b, off, rfl, ?_⟩
    have hM0 : M ≠ 0 := fun e => by
      have e2 := HCL.out
      rw [e] at e2
      rw [List.getElem?_eq_none (by omega)] at hu
      cases hu
    have e3 : b < w.heap.size := hwsl _ rfl hM0
    rw [hk3.cell (World.block_lt_of_cell? w1 _ hc) (by show b ≠ x; omega)]
    exact hc
  have y1 : w3.cell? ⟨r, 1, none⟩ = some (.slice wa M wc) := by
    rw [hk3.cell (by omega) (by omega)]
    have e := H1.out.cell.2.1
    rw [← HM.out] at e
    exact e
  have hs31 : w3.heap.size ≤ w2.heap.size := by rw [hw3]; simp [World.setCell]
  have hs32 : w2.heap.size ≤ w3.heap.size := by rw [hw3]; simp [World.setCell]
  have hs2 : w1.heap.size ≤ w2.heap.size := hk2'.size
  clear ho2 hk2 hv2 hk2' hk3 d0 HBS
  go_upto_region 3 with fail
  rw [← hw3]
  clear hw3 x0 xf
  go_wp2_with (at_builtin; go_must (refine wpList_append_cells w3 rfl _ (.tmp 16) 80 rfl w3.heap.size 96 i1 _ 2 32 Try.underlying80 hj hy0 hy1 hy2 rfl (by decide) (.slice none 0 0) 0 [] rfl (World.ownsRow_nil _ _ _ _) wa M wc (cellsW s.W D) rfl HCL.out HCS3.out HNIL.out (cellsW_one _ _) (by unfold maxLen; omega) (by omega) (Nat.le_refl _) ?_))
  intro v17 w4 ho4 hk4 hv4
  obtain ⟨a17, c17, hv17⟩ : ∃ a c, v17 = .slice a M c := by
    rcases ho4.out.2 with ⟨e, e2⟩ | ⟨g', cap', cur, hv, -⟩
    · exact ⟨none, 0, by rw [e, e2]⟩
    · exact ⟨_, _, hv⟩
  subst hv17
  have hk4' : Kept (fun _ => False) w3 w4 := hk4.out.mono (fun _ _ e => by cases e)
  have HO4 : Hid (w4.ownsRow w3.heap.size 96 2 (.slice a17 M c17) M (cellsW s.W D)) := ho4.out
  have HV4 : Hid (∀ k, (Value.slice a17 M c17).ownBlock = some k → w3.heap.size ≤ k ∧ k < w4.heap.size) := fun k e => World.ownsRow.lt HO4.out k e
  have HBX4 : Hid (w4.heap[x]? = some (.cells #[.slice (some ⟨g2, 0, none⟩) s.B.length c2, .slice wa s.W.length wc, .bool s.dead, .bool s.stop.isSome, .int .i64 at_, .int .i64 (s.reads : Int), .int .i64 (s.writes : Int), .int .i64 (s.flushes : Int)] 82 (0, 0))) := by show _ = _; rw [hk4'.block x (by omega) (fun h => h)]; exact HBX3.out
  have x1 : w4.cell? ⟨x, 1, none⟩ = some (.slice wa s.W.length wc) := by simp [World.cell?, HBX4.out]
  have xf1 : w4.frozen? ⟨x, 1, none⟩ = false := by simp [World.frozen?, HBX4.out]
  have hs4 : w3.heap.size ≤ w4.heap.size := hk4'.size
  have HKA : Hid (Kept (fun i => w.heap.size ≤ i) w (w4.setCell ⟨x, 1, none⟩ (.slice a17 M c17))) := (((HK1.out.mono (fun _ _ h => h.elim)).trans' HK3.out (fun i hi e => by omega)).trans (hk4'.mono (fun _ _ h => h.elim))).trans (Kept.setCell _ _ _ (by show w.heap.size ≤ x; omega))
  have HE : Hid (RkIs (w4.setCell ⟨x, 1, none⟩ (.slice a17 M c17)) x g2 c2 (.slice a17 M c17) at_ D s) := by
    have hset : Kept (fun i => i = x) w4 (w4.setCell ⟨x, 1, none⟩ (.slice a17 M c17)) := Kept.setCell _ _ _ rfl
    refine ⟨?_, own0 (ownsRow_other (ownsRow_other HO3.out hk4' (fun _ _ h => h)) hset (fun i e e2 => ?_)), ?_, H0.out.dl, fun j p d hp hd => ?_, H0.out.at1, H0.out.at2, H0.out.fine, by omega, ⟨fun e => ?_, fun e => ?_⟩, fun d hd => ?_⟩
    · rw [heap_setCell_of HBX4.out]; rfl
    · have e3 : g2 = i := by simpa [Value.ownBlock] using e
      omega
    · rw [← HM.out]
      exact own0 (ownsRow_other HO4.out hset (fun i e e2 => by have := (HV4.out i e).1; omega))
    · have e5 := H0.out.ds j p d hp hd
      have e6 := (World.ownsRow.lt e5 d.1 rfl).2
      exact ownsRow_other e5 HKA.out (fun i e e2 => by
        have e3 : d.1 = i := by simpa [Value.ownBlock] using e
        have e4 : w.heap.size ≤ i := e2
        omega)
    · have := (HV4.out x e).1; omega
    · have := (HV4.out g2 e).1; omega
    · have e6 := HR.out.2.2.1 _ (HR.out.2.2.2 d hd).1
      exact ⟨by omega, by omega, fun e => by have := (HV4.out _ e).1; omega⟩
  clear ho4 hk4 hv4
  go_wp2_with fail
  go_ret
  have hrs : (w4.setCell ⟨x, 1, none⟩ (.slice a17 M c17)).heap.size = w4.heap.size := by simp [World.setCell]
  refine ⟨x, fun k => k = x ∨ k = g2 ∨ (Value.slice a17 M c17).ownBlock = some k, fun k => (k = x ∨ k = g2 ∨ (Value.slice a17 M c17).ownBlock = some k) ∨ ∃ d ∈ D, k = d.1, rfl, ⟨g2, c2, _, at_, D, HE.out, ⟨.inl rfl, .inr (.inl rfl), fun k e => .inr (.inr e)⟩, fun k e => .inl e, ?_, ?_⟩, ?_, ?_, ?_, ?_⟩
  · intro k e
    rw [hrs]
    rcases e with (e | e | e) | ⟨d, hd, rfl⟩
    · omega
    · omega
    · exact (HV4.out k e).2
    · have := HR.out.2.2.1 _ (HR.out.2.2.2 d hd).1; omega
  · intro d hd
    refine ⟨.inr ⟨d, hd, rfl⟩, fun e => ?_⟩
    have e6 := HR.out.2.2.1 _ (HR.out.2.2.2 d hd).1
    rcases e with e | e | e
    · omega
    · omega
    · have := (HV4.out _ e).1; omega
  · exact ⟨HKA.out.os, HKA.out.tape, HKA.out.output, HKA.out.size, fun k hk => HKA.out.block k hk (by omega)⟩
  · intro k e
    rcases e with e | e | e
    · omega
    · omega
    · have := (HV4.out k e).1; omega
  · intro k e
    rcases e with (e | e | e) | ⟨d, hd, rfl⟩
    · exact .inr (by omega)
    · exact .inr (by omega)
    · exact .inr (by have := (HV4.out k e).1; omega)
    · exact .inl (HR.out.2.2.2 d hd).1
  · intro k hF e
    have hkl := HR.out.2.2.1 k (HR.out.2.1 k hF)
    rcases e with (e | e | e) | ⟨d, hd, rfl⟩
    · omega
    · omega
    · have := (HV4.out k e).1; omega
    · exact (HR.out.2.2.2 d hd).2 hF

end Go.Proofs.Ytjmeneddhalodaa

/- The document's own disk: From. -/
namespace Go.Proofs.Ytjmeneddhalodaa
set_option linter.unusedVariables false
set_option linter.unusedSimpArgs false
open Go.RowKit Dg

/-- Bytes that are a disk's. -/
def diskLen (n : Nat) : Prop := n % 128 = 0 ∧ 128 ≤ n ∧ n ≤ 524288
instance (n : Nat) : Decidable (diskLen n) := by unfold diskLen; infer_instance
theorem fromS_fine {b : List Nat} (h : diskLen b.length) (h256 : ∀ x ∈ b, x < 256) : (fromS b).Fine := ⟨⟨b.length / 128, by have := h; unfold diskLen at this; omega, by have := h; unfold diskLen at this; omega, by have := h; unfold diskLen at this; show b.length = _; omega⟩, h256, fun p hp => by simp [fromS] at hp⟩
set_option maxRecDepth 100000 in
set_option maxHeartbeats 4000000 in
theorem rdfrom_any (w : World) (a : Option Addr) (cap : Nat) (b : List Nat) (hb : Bs w a cap b) (h256 : ∀ x ∈ b, x < 256) (hd : diskLen b.length) :
    Calls Try.prog 32 #[.slice a b.length cap] w fun e w' => ∃ (r : Nat) (F G : Nat → Prop), e = .returned (.tuple #[.pointer (some ⟨r, 0, none⟩), .bool true]) ∧ RkAt w' r F G (fromS b) ∧ (∀ k, G k → w.heap.size ≤ k) ∧ Below w.heap.size w w' := by
  obtain ⟨h1, h2, h3⟩ := id hd
  obtain ⟨N, hN⟩ : ∃ N, N = b.length := ⟨_, rfl⟩
  have HB := hid_of hb
  have HD := hid_of hd
  have H256 := hid_of h256
  have hm : ((b.length : Int) % 128 != 0) = false := by simp; omega
  have hl1 : decide ((b.length : Int) < 128) = false := decide_eq_false (by omega)
  have hl2 : decide ((524288 : Int) < (b.length : Int)) = false := decide_eq_false (by omega)
  clear hb hd h256 hN h1
  go_enter Try.func32, Try.ntmps32
  go_wp2_with (at_builtin; go_must (refine wpList_append_bytes w rfl _ (.tmp 18) rfl w.heap.size (.slice none 0 0) [] rfl (OwnBytes.nil0 _ _) a cap b rfl HB.out (by simp; omega) (Nat.le_refl _) ?_))
  intro v w2 ho2 hk2 hv2
  obtain ⟨g2, c2, rfl⟩ : ∃ g c, v = .slice (some ⟨g, 0, none⟩) b.length c := by
    rcases ho2.out.2 with ⟨_, e⟩ | ⟨g', cap', cur, hv, -⟩
    · exfalso
      simp at e
      rw [e] at h2
      simp at h2
    · exact ⟨g', cap', hv⟩
  have HO : Hid (OwnBytes w2 w.heap.size (.slice (some ⟨g2, 0, none⟩) b.length c2) b) := ho2.out
  have HK2 : Hid (Kept (fun _ => False) w w2) := hk2.out.mono (fun _ _ e => by cases e)
  have hs2 : w.heap.size ≤ w2.heap.size := HK2.out.size
  have hg1 : w.heap.size ≤ g2 := (World.ownsRow.lt HO.out g2 rfl).1
  have hg2 : g2 < w2.heap.size := (World.ownsRow.lt HO.out g2 rfl).2
  clear ho2 hk2 hv2
  go_wp2_with fail
  go_ret2
  obtain ⟨w3, hw3⟩ : ∃ w3, w3 = w2.alloc (.cells #[.slice (some ⟨g2, 0, none⟩) b.length c2, .slice none 0 0, .bool false, .bool false, .int .i64 0, .int .i64 0, .int .i64 0, .int .i64 0] 82) := ⟨_, rfl⟩
  have hk3 : Kept (fun _ => False) w2 w3 := by rw [hw3]; exact Kept.alloc _ _ _
  have hb3 : w3.heap[w2.heap.size]? = some (.cells #[.slice (some ⟨g2, 0, none⟩) b.length c2, .slice none 0 0, .bool false, .bool false, .int .i64 0, .int .i64 0, .int .i64 0, .int .i64 0] 82 (0, 0)) := by rw [hw3]; exact heap_alloc_new w2 _
  have hs3 : w3.heap.size = w2.heap.size + 1 := by rw [hw3]; simp
  have ho3 := own0 (ownsRow_other HO.out hk3 (fun _ _ h => h))
  have hkb : Kept (fun _ => False) w w3 := HK2.out.trans hk3
  refine ⟨w2.heap.size, fun k => k = w2.heap.size ∨ k = g2, fun k => k = w2.heap.size ∨ k = g2, rfl, ⟨g2, c2, .slice none 0 0, 0, [], ?_, ⟨.inl rfl, .inr rfl, fun k e => by cases e⟩, fun k h => h, ?_, fun d hd => by simp at hd⟩, fun k h => by omega, ?_⟩
  · rw [hw3] at hb3 ho3
    exact ⟨hb3, ho3, World.ownsRow_nil _ _ _ _, rfl, fun j p d hp hd => by simp [fromS] at hp, fun k hk => by simp [fromS] at hk, by simp [fromS], fromS_fine HD.out H256.out, by omega, ⟨by simp [Value.ownBlock], by simp [Value.ownBlock]⟩, fun d hd => by simp at hd⟩
  · intro k h
    rw [← hw3, hs3]
    omega
  · rw [← hw3]
    exact ⟨hkb.os, hkb.tape, hkb.output, hkb.size, fun k hk => hkb.block k hk (fun h => h)⟩
set_option maxRecDepth 100000 in
set_option maxHeartbeats 4000000 in
theorem rdfrom_no (w : World) (a : Option Addr) (cap : Nat) (b : List Nat) (hbl : b.length ≤ 100000000) (hd : ¬ diskLen b.length) :
    Calls Try.prog 32 #[.slice a b.length cap] w fun e w' => e = .returned (.tuple #[.pointer none, .bool false]) ∧ w = w' := by
  rcases (by unfold diskLen at hd; omega : b.length % 128 ≠ 0 ∨ (b.length % 128 = 0 ∧ b.length < 128) ∨ (b.length % 128 = 0 ∧ 128 ≤ b.length ∧ 524288 < b.length)) with h | ⟨h1, h2⟩ | ⟨h1, h2, h3⟩
  · have hm : ((b.length : Int) % 128 != 0) = true := by simp; omega
    clear hd h
    go_enter Try.func32, Try.ntmps32
    go_wp2_with fail
    go_ret2
    exact ⟨rfl, rfl⟩
  all_goals
    have hm : ((b.length : Int) % 128 != 0) = false := by simp; omega
    clear hd h1
    go_enter Try.func32, Try.ntmps32
    go_wp2_with fail
    go_ret2
    exact ⟨rfl, rfl⟩

end Go.Proofs.Ytjmeneddhalodaa
