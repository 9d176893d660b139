/- The texts DwP7, DwP8, DwP9, one behind the other. -/
import Derived.Test.YtjmeneddhalodaaPart08

/- The program's disk: Crash. -/
namespace Go.Proofs.Ytjmeneddhalodaa
set_option linter.unusedVariables false
set_option linter.unusedSimpArgs false
open Go.RowKit Dg

theorem keepTo_past {B : List Nat} {W : List (Nat × List Nat)} {f : Nat → Bool} {m : Nat} (hf : ∀ j, m ≤ j → f j = false) : ∀ j, m ≤ j → keepTo B W f j = keepTo B W f m := by
  intro j hj
  induction j with
  | zero => rw [Nat.le_zero.1 hj]
  | succ j ih =>
    rcases Nat.lt_or_ge j m with h | h
    · rw [show j + 1 = m by omega]
    · rw [keepTo_skip _ _ _ _ (hf j h), ih h]
set_option maxRecDepth 100000 in
set_option maxHeartbeats 4000000 in
theorem dwcrash_any (w : World) (b : Nat) (F G : Nat → Prop) (s : Sk) (h : DwAt w b F G s) (hWl : s.W.length ≤ 100000) (a : Option Addr) (n cap : Nat) (l : List Bool) (hn : l.length = n) (hl : BlAt w a l) (hnl : n ≤ 1000000) (hf : l ≠ [] → ∀ y, a = some y → ¬ F y.block) (s2 : Sk) (hs2 : s2 = s.crashS l) :
    Calls Try.prog 18 #[.pointer (some ⟨b, 0, none⟩), .slice a n cap] w fun e w' => e = .returned (.tuple #[]) ∧ Moved DwAt w w' b F G s2 := by
  obtain ⟨x, h0, h1, h2, h3⟩ := h
  obtain ⟨L, hL⟩ : ∃ L, L = lastI s.W (s.B.length / 128) := ⟨_, rfl⟩
  rw [← hL] at h0
  have HR : Hid ((∀ k, x.own b k → F k) ∧ (∀ k, F k → G k) ∧ ∀ k, G k → k < w.heap.size) := ⟨h1, h2, h3⟩
  have H0 := hid_of h0
  obtain ⟨-, c1, -⟩ := h0.cell
  obtain ⟨wa, wc, hv, -⟩ := h0.form
  obtain ⟨M, hM⟩ : ∃ M, M = s.W.length := ⟨_, rfl⟩
  rw [hv, ← hM] at c1
  rw [← hM] at hWl
  have HM := hid_of hM
  have HV := hid_of hv
  have HLI := hid_of hL
  have HBL := hid_of hl
  have HN := hid_of hn
  have HF : Hid (l ≠ [] → ∀ y, a = some y → ¬ F y.block) := hf
  obtain ⟨f, hff⟩ : ∃ f : Nat → Bool, f = fun j => l.getD j false := ⟨_, rfl⟩
  have hs2' : s2 = { s with B := keepTo s.B s.W f s.W.length, W := [], dead := false, stop := none } := by rw [hs2, hff]; rfl
  have HS2 := hid_of hs2'
  have HFF := hid_of hff
  obtain ⟨m, hm⟩ : ∃ m, (n ≤ M ∧ m = n) ∨ (M < n ∧ m = M) := ⟨min n M, by omega⟩
  have HKE : Hid (m ≤ M ∧ m ≤ n ∧ keepTo s.B s.W f s.W.length = keepTo s.B s.W f m) := by
    refine ⟨by omega, by omega, ?_⟩
    rcases hm with ⟨e1, e2⟩ | ⟨e1, e2⟩
    · refine keepTo_past (fun j hj => ?_) _ (by omega)
      rw [hff]
      simp [List.getD, List.getElem?_eq_none (by omega : l.length ≤ j)]
    · rw [e2, hM]
  clear h0 h1 h2 h3 hL hM hv hl hn hf hs2 hs2' hff
  have hnm : n ≤ 1000000 ∧ M ≤ 100000 := ⟨hnl, hWl⟩
  rcases hm with ⟨e1, rfl⟩ | ⟨e1, rfl⟩
  all_goals
    go_enter Try.func18, Try.ntmps18
    go_wp2_with fail
    go_loopw [13] (fun v ws => ∃ j : Nat, j ≤ m ∧ v = .int .i64 (j : Int) ∧ Hid (DwIs ws b x L { s with B := keepTo s.B s.W f j }) ∧ Hid (Kept (fun k => k = x.gK) w ws)) (fun v _ => m - (intOf v).toNat)
    case atStart => exact ⟨0, Nat.zero_le _, rfl, H0.out, Kept.refl _ _⟩
    case round =>
      obtain ⟨j, hj, rfl, hr, hk⟩ := hrel
      by_cases hjm : j < m
      · have hjM := Nat.lt_of_lt_of_le hjm HKE.out.1
        have hjn := Nat.lt_of_lt_of_le hjm HKE.out.2.1
        obtain ⟨u, hu⟩ : ∃ u, l[j]? = some u := ⟨_, List.getElem?_eq_getElem (by rw [HN.out]; exact hjn)⟩
        have hne : l ≠ [] := fun e => by rw [e] at hu; simp at hu
        obtain ⟨kb, ko, rfl, hkc⟩ := (HBL.out.kept hk.out (fun _ y hy e => HF.out hne y hy (HR.out.1 _ (.inr (.inl e))))) j u hu
        have hfx : f j = u := by rw [HFF.out]; simp [List.getD, hu]
        cases u with
        | true =>
          obtain ⟨p, hp⟩ : ∃ p, s.W[j]? = some p := ⟨s.W[j]'(by rw [← HM.out]; exact hjM), List.getElem?_eq_getElem _⟩
          obtain ⟨g, c, e1', hrg, hgl, n1, n2, n3, hcl⟩ := hr.out.range hp
          obtain ⟨rfl, rfl⟩ : wa = some ⟨g, 0, none⟩ ∧ wc = c := by
            rw [HV.out] at e1'
            simp only [Value.slice.injEq] at e1'
            exact ⟨e1'.1, e1'.2.2⟩
          have d1 := hr.out.cell.2.1
          rw [HV.out, ← HM.out] at d1
          have hpf := hr.out.fine.w p (List.mem_of_getElem? hp)
          obtain ⟨C, hC⟩ : ∃ C, C = (cellsP p).toArray := ⟨_, rfl⟩
          have HKP := hid_of (dwkeep_is wr b x L _ hr.out p (List.mem_of_getElem? hp) C hC _ rfl)
          have HKT : Hid (keepTo s.B s.W f (j + 1) = keepB (keepTo s.B s.W f j) p) := keepTo_succ _ _ _ _ _ hp hfx
          have HPL := hid_of hpf.2.1
          have HRG := hid_of hrg
          have HC := hid_of hC
          clear hpf e1' hrg hC hp n1 n2 n3 hcl hu hfx hne
          go_wp2_with (refine wpList_load_dw rfl (.tmp 26) rfl g (j * 129) rfl p HRG.out HPL.out C HC.out ?_)
          refine HKP.out.mono ?_
          rintro e w5 ⟨rfl, hr5, hk5⟩
          have HR5 : Hid (DwIs w5 b x L { s with B := keepTo s.B s.W f (j + 1) }) := by rw [HKT.out]; exact hr5
          have HK5 : Hid (Kept (fun k => k = x.gK) w w5) := hk.out.trans hk5
          clear hr5 hk5 HKP
          go_wp2_with fail
          exact ⟨⟨j + 1, by omega, by go_num, HR5, HK5⟩, by (simp [intOf]) <;> omega⟩
        | false =>
          have HR5 : Hid (DwIs wr b x L { s with B := keepTo s.B s.W f (j + 1) }) := by rw [keepTo_skip _ _ _ _ hfx]; exact hr.out
          clear hu hfx hne
          go_wp2_with fail
          exact ⟨⟨j + 1, by omega, by go_num, HR5, hk⟩, by (simp [intOf]) <;> omega⟩
      · obtain rfl : j = m := by omega
        have HFO := hid_of (dwforget_is wr b x L _ hr.out (by rw [← HM.out]; exact hnm.2))
        go_wp2_with fail
        refine HFO.out.mono ?_
        rintro e w5 ⟨rfl, hr5, hk5⟩
        obtain ⟨-, -, -, d3, d4, d5, -⟩ := hr5.cell
        have f3 := hr5.froz 3
        have f4 := hr5.froz 4
        have f5 := hr5.froz 5
        have HM6 : Hid (Moved DwAt w (((w5.setCell ⟨b, 3, none⟩ (.bool false)).setCell ⟨b, 4, none⟩ (.int .i64 0)).setCell ⟨b, 5, none⟩ (.bool false)) b F G s2) := by
          obtain ⟨w6, hw6⟩ : ∃ w6, w6 = ((w5.setCell ⟨b, 3, none⟩ (.bool false)).setCell ⟨b, 4, none⟩ (.int .i64 0)).setCell ⟨b, 5, none⟩ (.bool false) := ⟨_, rfl⟩
          rw [← hw6]
          have hke : Kept (fun k => k = b) w5 w6 := by rw [hw6]; exact ((Kept.setCell (F := fun k => k = b) _ _ _ rfl).trans (Kept.setCell _ _ _ rfl)).trans (Kept.setCell _ _ _ rfl)
          have hfin := (keepTo_fine (s := s) ⟨H0.out.fine.n, H0.out.fine.b256, H0.out.fine.w⟩ f s.W.length (Nat.le_refl _)).1
          have hb2 : s2.B.length / 128 = s.B.length / 128 := by rw [HS2.out]; show (keepTo s.B s.W f s.W.length).length / 128 = _; rw [hfin]
          have hsB : s2.B = keepTo s.B s.W f j := by rw [HS2.out]; exact HKE.out.2.2
          have hfin3 : DwIs w6 b { { x with vW := .slice none 0 0 } with left := 0 } (zeroTo s.W L s.W.length) s2 := by
            refine hr5.put (s' := s2) (x' := { { x with vW := .slice none 0 0 } with left := 0 }) hke hsB (by rw [HS2.out]) rfl ?_ (by rw [HS2.out]; intro k e; cases e) ⟨by show (0 : Int) ≤ 0; decide, by show (0 : Int) ≤ 9223372036854775807; decide⟩
            rw [hw6, heap_setCell_of (heap_setCell_of (heap_setCell_of hr5.box _) _) _, HS2.out]
            rfl
          refine Moved.of (x := x) HR.out.1 HR.out.2.1 HR.out.2.2 hfin3 ?_ (fun k e => .inl (own_nil e)) ?_
          · rw [HLI.out, zeroTo_end, hb2, HS2.out]
          · exact ((hk.out.own (fun k e => .inr (.inl e))).trans (hk5.own (fun k e => by rcases e with e | e; exact .inl e; exact .inr (.inr e)))).trans (hke.own (fun k e => .inl e))
        clear hr5 hk5 HFO
        go_wp2_with fail
        go_end0
        exact ⟨rfl, HM6.out⟩

end Go.Proofs.Ytjmeneddhalodaa

/- The program's disk: Poke. -/
namespace Go.Proofs.Ytjmeneddhalodaa
set_option linter.unusedVariables false
set_option linter.unusedSimpArgs false
open Go.RowKit Dg

theorem cellsV_set : ∀ {W : List (Nat × List Nat)}, (∀ p ∈ W, p.2.length = 128) → ∀ (j : Nat) (p : Nat × List Nat), W[j]? = some p → ∀ (i y : Nat), i < 128 → cellsV (W.set j (p.1, p.2.set i y)) = (cellsV W).set (j * 129 + 1 + i) (.int .u8 (y : Int))
  | [], _, j, p, h, _, _, _ => by simp at h
  | q :: W, hW, 0, p, h, i, y, hi => by
    simp at h
    subst h
    have h2 := length_cellsP (hW _ (List.mem_cons_self ..))
    unfold cellsV
    rw [List.set_cons_zero, List.flatMap_cons, List.flatMap_cons, Nat.zero_mul, Nat.zero_add, List.set_append_left _ _ (by rw [h2]; omega)]
    congr 1
    unfold cellsP
    rw [Nat.add_comm, List.set_cons_succ]
    simp [u8s]
  | q :: W, hW, j + 1, p, h, i, y, hi => by
    have h1 := cellsV_set (W := W) (fun q hq => hW q (List.mem_cons_of_mem _ hq)) j p (by simpa using h) i y hi
    have h2 := length_cellsP (hW q (List.mem_cons_self ..))
    unfold cellsV at h1 ⊢
    rw [List.set_cons_succ, List.flatMap_cons, List.flatMap_cons, h1, List.set_append_right _ _ (by rw [h2]; omega), h2, show (j + 1) * 129 + 1 + i - 129 = j * 129 + 1 + i by omega]
/-- A byte of a write that waits is turned. -/
theorem DwIs.setW {w : World} {b : Nat} {x : DwB} {L : List Int} {s : Sk} (h : DwIs w b x L s) {j : Nat} {p : Nat × List Nat} (hp : s.W[j]? = some p) (g c : Nat) (hv : x.vW = .slice (some ⟨g, 0, none⟩) s.W.length c) (i y : Nat) (hi : i < 128) (hy : y < 256) :
    DwIs (w.setCell ⟨g, j * 129 + 1 + i, none⟩ (.int .u8 (y : Int))) b x L { s with W := s.W.set j (p.1, p.2.set i y) } := by
  have hne := h.ne2
  rw [hv] at hne
  have n1 : g ≠ b := fun e => hne.1 (by rw [← e]; rfl)
  have n2 : g ≠ x.gK := fun e => hne.2.1 (by rw [← e]; rfl)
  have n3 : g ≠ x.gL := fun e => hne.2.2 (by rw [← e]; rfl)
  have hk : Kept (fun k => k = g) w (w.setCell ⟨g, j * 129 + 1 + i, none⟩ (.int .u8 (y : Int))) := Kept.setCell _ _ _ rfl
  have h128 : ∀ p ∈ s.W, p.2.length = 128 := fun p hp => (h.fine.w p hp).2.1
  have hws := h.ws
  refine ⟨?_, ownsRow_other h.bs hk (fun k e => by cases e; exact fun e => n2 e.symm), ownsRow_other h.ls hk (fun k e => by cases e; exact fun e => n3 e.symm), ?_, h.at1, h.at2, ⟨h.fine.n, h.fine.b256, fun q hq => ?_⟩, h.ne1, h.ne2⟩
  · rw [hk.block b (Array.getElem?_eq_some_iff.1 h.box).1 (fun e => n1 e.symm)]
    exact h.box
  · show World.ownsRow _ _ _ _ _ (s.W.set j _).length _
    rw [List.length_set, cellsV_set h128 j p hp i y hi, hv]
    rw [hv] at hws
    exact ownsRow_setk hws _ _
  · obtain ⟨f1, f2, f3⟩ := h.fine.w p (List.mem_of_getElem? hp)
    rcases List.mem_or_eq_of_mem_set hq with e | e
    · exact h.fine.w q e
    · rw [e]
      refine ⟨f1, by show (p.2.set i y).length = 128; rw [List.length_set]; exact f2, fun z hz => ?_⟩
      rcases List.mem_or_eq_of_mem_set hz with e2 | e2
      · exact f3 z e2
      · rw [e2]; exact hy
set_option maxRecDepth 100000 in
set_option maxHeartbeats 4000000 in
theorem dwturn_any (w : World) (g o c D0 dq mk x y : Nat) (hdq : dq = D0 / 8) (hD : D0 < 1024) (hmk : mk = maskOf D0) (hc : w.cell? ⟨g, o + dq, none⟩ = some (.int .u8 (x : Int))) (hfz : w.frozen? ⟨g, o + dq, none⟩ = false) (hx : x < 256) (hy : y = x ^^^ mk) :
    Calls Try.prog 43 #[.slice (some ⟨g, o, none⟩) 128 c, .int .i64 (D0 : Int)] w fun e w' => e = .returned (.tuple #[]) ∧ w' = w.drew.setCell ⟨g, o + dq, none⟩ (.int .u8 (y : Int)) := by
  have hdq' : (D0 : Int) / 8 = (dq : Int) := by omega
  have hdq8 : dq < 128 := by omega
  have hmk' : (128 : Int) / 2 ^ (D0 % 8) = (mk : Int) := by rw [hmk]; unfold maskOf; push_cast; rfl
  have hmkl : mk < 256 := by rw [hmk]; exact maskOf_lt _
  have hxy : bits BinOp.xor IntKind.u8 (x : Int) (mk : Int) = (y : Int) := by rw [hy]; exact u8_xor_nat _ _ hx hmkl
  clear hdq hmk hy
  go_enter Try.func43, Try.ntmps43
  go_region
  all_goals
    go_wp2_with fail
    go_end0
    exact ⟨rfl, rfl⟩
set_option maxRecDepth 100000 in
set_option maxHeartbeats 4000000 in
theorem dwpoke_any (w : World) (b : Nat) (F G : Nat → Prop) (s : Sk) (h : DwAt w b F G s) (i dg : Int) (hi : I64 i) (hdg : I64 dg) (hWl : s.W.length ≤ 100000) (R : Bool) (hR : R = decide (s.pokes i dg)) (s2 : Sk) (hs2 : s2 = s.pokeS i dg) :
    Calls Try.prog 22 #[.pointer (some ⟨b, 0, none⟩), .int .i64 i, .int .i64 dg] w fun e w' => e = .returned (.bool R) ∧ Moved DwAt w w' b F G s2 := by
  obtain ⟨x, h0, h1, h2, h3⟩ := h
  obtain ⟨L, hL⟩ : ∃ L, L = lastI s.W (s.B.length / 128) := ⟨_, rfl⟩
  rw [← hL] at h0
  have HR : Hid ((∀ k, x.own b k → F k) ∧ (∀ k, F k → G k) ∧ ∀ k, G k → k < w.heap.size) := ⟨h1, h2, h3⟩
  have H0 := hid_of h0
  have HLI := hid_of hL
  have HH := hid_of (dwhas_is w b x L s h0 i hi _ rfl)
  obtain ⟨hd1, hd2⟩ := hdg
  by_cases hpk : s.pokes i dg
  · obtain ⟨hfit, hdg0, hdg1⟩ := hpk
    obtain ⟨k, rfl, hk⟩ := hfit.nat
    have hroom := hfit.room
    obtain ⟨D0, rfl⟩ : ∃ D0 : Nat, dg = (D0 : Int) := ⟨dg.toNat, by omega⟩
    have hs2' : s2 = { s with B := flipB s.B (k * 128 + D0 / 8) (maskOf D0), W := s.W.map (pokeW k D0) } := by
      rw [hs2]; unfold Sk.pokeS; rw [if_pos ⟨hfit, hdg0, hdg1⟩]; rfl
    have hR' : R = true := by rw [hR]; exact decide_eq_true ⟨hfit, hdg0, hdg1⟩
    subst hR'
    rw [decide_eq_true hfit] at HH
    obtain ⟨lo, hlo⟩ : ∃ lo, lo = k * 128 := ⟨_, rfl⟩
    obtain ⟨cc, hcc⟩ : ∃ cc, cc = x.cK - lo := ⟨_, rfl⟩
    have HSE := hid_of (dwsector_is w b x L s h0 k hroom lo cc hlo hcc)
    obtain ⟨dq, hdq⟩ : ∃ dq, dq = D0 / 8 := ⟨_, rfl⟩
    have hdq8 : dq < 128 := by omega
    obtain ⟨mk, hmk⟩ : ∃ mk, mk = maskOf D0 := ⟨_, rfl⟩
    have hmkl : mk < 256 := by rw [hmk]; exact maskOf_lt _
    have heN : lo + dq < s.B.length := by omega
    obtain ⟨z, hz⟩ : ∃ z, s.B[lo + dq]? = some z := ⟨_, List.getElem?_eq_getElem heN⟩
    have hz256 : z < 256 := h0.fine.b256 z (List.mem_of_getElem? hz)
    obtain ⟨hg1, hg2⟩ := own_cell h0.bs hz
    obtain ⟨y, hy⟩ : ∃ y, y = z ^^^ mk := ⟨_, rfl⟩
    have HT := hid_of (dwturn_any w x.gK lo cc D0 dq mk z y hdq (by omega) hmk hg1 hg2 hz256 hy)
    obtain ⟨t, ht⟩ : ∃ t, t = { s with B := flipB s.B (k * 128 + D0 / 8) (maskOf D0) } := ⟨_, rfl⟩
    have hB2 : flipB s.B (k * 128 + D0 / 8) (maskOf D0) = s.B.set (lo + dq) y := by rw [hy, hlo, hdq, hmk]; unfold flipB; rw [← hlo, ← hdq, List.getD_eq_getElem?_getD, hz]; rfl
    have HD1 : Hid (DwIs (w.drew.setCell ⟨x.gK, lo + dq, none⟩ (.int .u8 (y : Int))) b x L t) := by
      have hks : Kept (fun k => k = x.gK) w.drew (w.drew.setCell ⟨x.gK, lo + dq, none⟩ (.int .u8 (y : Int))) := Kept.setCell _ _ _ rfl
      have hkd : Kept (fun _ => False) w w.drew := (Kept.refl _ _).drew
      rw [ht]
      refine (h0.kept hkd (fun _ _ h => h)).putB hks _ (length_flipB _ _ _) (flipB_lt h0.fine.b256 _ _ (maskOf_lt _)) ?_
      rw [hB2]
      exact own_set (h0.kept hkd (fun _ _ h => h)).bs (lo + dq) y heN
    have HKT : Hid (Kept (x.own b) w (w.drew.setCell ⟨x.gK, lo + dq, none⟩ (.int .u8 (y : Int)))) := ((Kept.refl _ _).drew.trans (Kept.setCell (F := fun k => k = x.gK) _ _ _ rfl)).own (fun k e => .inr (.inl e))
    obtain ⟨w1, hw1⟩ : ∃ w1, w1 = w.drew.setCell ⟨x.gK, lo + dq, none⟩ (.int .u8 (y : Int)) := ⟨_, rfl⟩
    rw [← hw1] at HT HD1 HKT
    have htW : t.W = s.W := by rw [ht]
    have hs3 : s2 = { t with W := t.W.map (pokeW k D0) } := by rw [hs2', ht]
    obtain ⟨wa, wc, hv, -⟩ := h0.form
    obtain ⟨M, hM⟩ : ∃ M, M = s.W.length := ⟨_, rfl⟩
    have HM : Hid (M = t.W.length) := by show _ = _; rw [htW, hM]
    have HV : Hid (x.vW = .slice wa M wc) := by show _ = _; rw [hv, hM]
    have c1 := HD1.out.cell.2.1
    rw [HV.out] at c1
    have HMK := hid_of hmk
    have HDQ := hid_of hdq
    have HS3 := hid_of hs3
    have HTB : Hid (t.B.length = s.B.length ∧ t.W = s.W) := by show _ ∧ _; rw [ht]; exact ⟨length_flipB _ _ _, rfl⟩
    have hkl : k ≤ 4096 := by have := h0.fine.le; omega
    rw [← hM] at hWl
    have hd0 : decide ((D0 : Int) < 0) = false := decide_eq_false (by omega)
    have hd8 : decide ((1024 : Int) ≤ (D0 : Int)) = false := decide_eq_false (by omega)
    clear hR hs2 hfit h0 h1 h2 h3 hs2' hlo hcc hdq hmk hz hy hg1 hg2 hB2 ht hM hv hL hs3 htW hk hroom heN hz256
    go_enter Try.func22, Try.ntmps22
    go_wp2_with fail
    refine HH.out.mono ?_
    rintro e w0 ⟨rfl, rfl⟩
    go_wp2_with fail
    refine HSE.out.mono ?_
    rintro e w0 ⟨rfl, rfl⟩
    go_wp2_with fail
    refine HT.out.mono ?_
    rintro e w0 ⟨rfl, rfl⟩
    clear hw1 HH HSE HT
    go_wp2_with fail
    go_loopw [30] (fun v ws => ∃ j : Nat, j ≤ M ∧ v = .int .i64 (j : Int) ∧ Hid (DwIs ws b x L { t with W := pokeTo t.W k D0 j }) ∧ Hid (Kept (x.own b) w ws)) (fun v _ => M - (intOf v).toNat)
    case atStart => exact ⟨0, Nat.zero_le _, rfl, by show DwIs _ _ _ _ _; rw [pokeTo_zero]; exact HD1.out, HKT⟩
    case round =>
      obtain ⟨j, hj, rfl, hr, hkp⟩ := hrel
      by_cases hjM : j < M
      · obtain ⟨p, hp⟩ : ∃ p, t.W[j]? = some p := ⟨t.W[j]'(by rw [← HM.out]; exact hjM), List.getElem?_eq_getElem _⟩
        have hp' : (pokeTo t.W k D0 j)[j]? = some p := by rw [pokeTo_get (by rw [← HM.out]; exact hjM)]; exact hp
        obtain ⟨g, c, e1, hrg, hgl, n1, n2, n3, hcl⟩ := hr.out.range hp'
        have hml : (pokeTo t.W k D0 j).length = M := by rw [length_pokeTo, ← HM.out]
        change x.vW = .slice (some ⟨g, 0, none⟩) (pokeTo t.W k D0 j).length c at e1
        rw [hml] at e1
        obtain ⟨rfl, rfl⟩ : wa = some ⟨g, 0, none⟩ ∧ wc = c := by
          rw [HV.out] at e1
          simp only [Value.slice.injEq] at e1
          exact ⟨e1.1, e1.2.2⟩
        have hpf := hr.out.fine.w p (List.mem_of_getElem? hp')
        have hp2 := hpf.2.1
        have hp3 := hpf.2.2
        have d1 := hr.out.cell.2.1
        rw [HV.out] at d1
        obtain ⟨q, hq⟩ : ∃ q, q = p.1 := ⟨_, rfl⟩
        have hq0 : wr.cell? ⟨g, j * 129, none⟩ = some (.int .i64 (q : Int)) := by
          have e := hrg 0 _ (show (cellsP p)[0]? = some (.int .i64 (p.1 : Int)) from rfl)
          rw [hq]; exact e
        have hq1 : q ≤ 10000 := by have e2 := hpf.1; have e3 := hr.out.fine.le; omega
        have HSU : Hid (pokeTo t.W k D0 (j + 1) = (pokeTo t.W k D0 j).set j (pokeW k D0 p)) := pokeTo_succ hp
        by_cases hqk : q = k
        · obtain ⟨x2, hx2⟩ : ∃ x, p.2[dq]? = some x := ⟨_, List.getElem?_eq_getElem (by rw [hp2]; exact hdq8)⟩
          have hx2l : x2 < 256 := hp3 x2 (List.mem_of_getElem? hx2)
          obtain ⟨y2, hy2⟩ : ∃ y, y = x2 ^^^ mk := ⟨_, rfl⟩
          have hy2l : y2 < 256 := by rw [hy2]; exact xor_lt256 hx2l hmkl
          have hpw : pokeW k D0 p = (p.1, p.2.set dq y2) := by
            unfold pokeW
            rw [if_pos (by rw [← hq]; exact hqk), ← HDQ.out, ← HMK.out]
            unfold flipB
            rw [List.getD_eq_getElem?_getD, hx2, hy2]; rfl
          have hcx : wr.cell? ⟨g, j * 129 + 1 + dq, none⟩ = some (.int .u8 (x2 : Int)) := by
            have e := hrg (1 + dq) (.int .u8 (x2 : Int)) (by unfold cellsP; rw [Nat.add_comm, List.getElem?_cons_succ, u8s_get, hx2]; rfl)
            rw [show j * 129 + 1 + dq = j * 129 + (1 + dq) by omega]; exact e
          have hfz : wr.frozen? ⟨g, j * 129 + 1 + dq, none⟩ = false := by
            have hws := hr.out.ws
            rw [HV.out] at hws
            rcases hws.2 with ⟨e, _⟩ | ⟨g', cap, cur, e, _, hh, -⟩
            · cases e
            · cases e; simp [World.frozen?, hh]
          have HT := hid_of (dwturn_any wr g (j * 129 + 1) 128 D0 dq mk x2 y2 HDQ.out (by omega) HMK.out hcx hfz hx2l hy2)
          have HEND : Hid (DwIs (wr.drew.setCell ⟨g, j * 129 + 1 + dq, none⟩ (.int .u8 (y2 : Int))) b x L { t with W := pokeTo t.W k D0 (j + 1) } ∧ Kept (x.own b) w (wr.drew.setCell ⟨g, j * 129 + 1 + dq, none⟩ (.int .u8 (y2 : Int)))) := by
            refine ⟨?_, hkp.out.trans ((Kept.refl _ _).drew.trans (Kept.setCell _ _ _ (.inr (.inr (.inr (by rw [HV.out]; rfl))))))⟩
            rw [HSU.out, hpw]
            exact (hr.out.kept (X := fun _ => False) (Kept.refl _ _).drew (fun _ _ h => h)).setW hp' g wc (by rw [HV.out]; show _ = Value.slice _ (pokeTo t.W k D0 j).length _; rw [hml]) dq y2 hdq8 hy2l
          have hsl := slice_arr g (j * 129 + 1)
          clear hp hp' e1 hrg hgl n1 n2 n3 hcl hml hpf hp2 hp3 hq hx2 hx2l hy2 hy2l hpw hcx hfz
          subst hqk
          go_wp2_with fail
          refine HT.out.mono ?_
          rintro e w5 ⟨rfl, hw5⟩
          rw [← hw5] at HEND
          clear hw5 HT
          go_wp2_with fail
          exact ⟨⟨j + 1, by omega, by go_num, HEND.out.1, HEND.out.2⟩, by (simp [intOf]) <;> omega⟩
        · have hpw : pokeW k D0 p = p := by unfold pokeW; rw [if_neg (by rw [← hq]; exact hqk)]
          have HRK : Hid (DwIs wr b x L { t with W := pokeTo t.W k D0 (j + 1) }) := by
            have e : (pokeTo t.W k D0 j).set j p = pokeTo t.W k D0 j := by
              rw [List.getElem?_eq_some_iff] at hp'
              obtain ⟨h5, h6⟩ := hp'
              rw [← h6]
              exact List.set_getElem_self h5
            rw [HSU.out, hpw, e]
            exact hr.out
          have hne : ((q : Int) == (k : Int)) = false := beq_eq_false_iff_ne.2 (by omega)
          clear hp hp' e1 hrg hgl n1 n2 n3 hcl hml hpf hp2 hp3 hq hpw
          go_wp2_with fail
          exact ⟨⟨j + 1, by omega, by go_num, HRK, hkp⟩, by (simp [intOf]) <;> omega⟩
      · obtain rfl : j = M := by omega
        have HM6 : Hid (Moved DwAt w wr b F G s2) := by
          have hfin : DwIs wr b x L s2 := by
            have e := hr.out
            rw [HM.out, pokeTo_all] at e
            rw [HS3.out]; exact e
          refine Moved.of (x := x) HR.out.1 HR.out.2.1 HR.out.2.2 hfin ?_ (fun k e => .inl e) hkp.out
          rw [HLI.out, HS3.out]
          show _ = lastI (t.W.map (pokeW k D0)) (t.B.length / 128)
          rw [lastI_map t.W (pokeW k D0) (fun p => by unfold pokeW; split <;> rfl), HTB.out.1, HTB.out.2]
        go_wp2_with fail
        go_ret
        exact ⟨rfl, HM6.out⟩
  · have hs2' : s2 = s := by rw [hs2]; unfold Sk.pokeS; rw [if_neg hpk]
    have hR' : R = false := by rw [hR]; exact decide_eq_false hpk
    subst hR'
    rw [hs2']
    have HM6 : Hid (Moved DwAt w w b F G s) := Moved.of (x := x) h1 h2 h3 h0 hL (fun k e => .inl e) (Kept.refl _ _)
    have hcase : ¬ s.fits i ∨ (s.fits i ∧ dg < 0) ∨ (s.fits i ∧ 0 ≤ dg ∧ 1024 ≤ dg) := by
      unfold Sk.pokes at hpk
      by_cases hf : s.fits i
      · by_cases h5 : dg < 0
        · exact .inr (.inl ⟨hf, h5⟩)
        · exact .inr (.inr ⟨hf, by omega, Decidable.byContradiction fun h6 => hpk ⟨hf, by omega, by omega⟩⟩)
      · exact .inl hf
    clear h0 h1 h2 h3 hpk hs2 hs2' hR hL
    rcases hcase with hf | ⟨hf, h3⟩ | ⟨hf, h3, h4⟩
    · rw [decide_eq_false hf] at HH
      clear hf
      go_enter Try.func22, Try.ntmps22
      go_wp2_with fail
      refine HH.out.mono ?_
      rintro e w0 ⟨rfl, rfl⟩
      go_wp2_with fail
      go_ret
      exact ⟨rfl, HM6.out⟩
    · rw [decide_eq_true hf] at HH
      have hb : decide (dg < 0) = true := decide_eq_true h3
      clear hf
      go_enter Try.func22, Try.ntmps22
      go_wp2_with fail
      refine HH.out.mono ?_
      rintro e w0 ⟨rfl, rfl⟩
      go_wp2_with fail
      go_ret
      exact ⟨rfl, HM6.out⟩
    · rw [decide_eq_true hf] at HH
      have hb : decide (dg < 0) = false := decide_eq_false (by omega)
      have hb2 : decide (1024 ≤ dg) = true := decide_eq_true h4
      clear hf
      go_enter Try.func22, Try.ntmps22
      go_wp2_with fail
      refine HH.out.mono ?_
      rintro e w0 ⟨rfl, rfl⟩
      go_wp2_with fail
      go_ret
      exact ⟨rfl, HM6.out⟩

end Go.Proofs.Ytjmeneddhalodaa

/- The program's disk: Read. -/
namespace Go.Proofs.Ytjmeneddhalodaa
set_option linter.unusedVariables false
set_option linter.unusedSimpArgs false
open Go.RowKit Dg

/-- The bytes of a write that lie in the list. -/
theorem bs_of_range {w : World} {g off : Nat} {p : Nat × List Nat} (h : w.rangeAt g off (cellsP p)) (hp : p.2.length = 128) : Bs w (some ⟨g, off + 1, none⟩) 128 p.2 := by
  refine ⟨⟨some ⟨g, off + 1, none⟩, 128, rfl, fun j y hy => ⟨g, off + 1, rfl, ?_⟩⟩, by rw [hp]; decide, fun e => by cases e⟩
  have e := h (1 + j) (.int .u8 (y : Int)) (by unfold cellsP; rw [Nat.add_comm, List.getElem?_cons_succ, u8s_get, hy]; rfl)
  rw [show off + 1 + j = off + (1 + j) by omega]
  exact e
set_option maxRecDepth 100000 in
set_option maxHeartbeats 4000000 in
theorem dwread_any (w : World) (b : Nat) (F G : Nat → Prop) (s : Sk) (h : DwAt w b F G s) (i : Int) (hi : I64 i) (hc : s.reads ≤ 1000000) (hWl : s.W.length ≤ 100000) (R : List Nat × Int) (hR : R = s.readR i) :
    Calls Try.prog 15 #[.pointer (some ⟨b, 0, none⟩), .int .i64 i] w fun e w' => ∃ v, e = .returned (.tuple #[v, .int .i64 R.2]) ∧ WholeB w' w.heap.size v R.1 ∧ ∃ F' G' : Nat → Prop, DwAt w' b F' G' (s.readS i) ∧ Kept F w w' ∧ Sub F' F w.heap.size ∧ Sub G' G w.heap.size ∧ ∀ k, v.ownBlock = some k → ¬ G' k := by
  have HA := hid_of h
  obtain ⟨x, h0, h1, h2, h3⟩ := h
  have HH := hid_of (dwhas_is w b x _ s h0 i hi _ rfl)
  have HR : Hid ((∀ k, x.own b k → F k) ∧ (∀ k, F k → G k) ∧ ∀ k, G k → k < w.heap.size) := ⟨h1, h2, h3⟩
  obtain ⟨hi1, hi2⟩ := hi
  by_cases hfit : s.fits i
  · rw [decide_eq_true hfit] at HH
    unfold Sk.readR at hR
    rw [if_neg (fun x => x hfit)] at hR
    have c5 := h0.cell.2.2.2.2.2.1
    rcases hd : s.dead with _ | _
    · obtain ⟨k, rfl, hk⟩ := hfit.nat
      have hroom := hfit.room
      obtain ⟨s1, hs1⟩ : ∃ s1, s1 = s.readS (k : Int) := ⟨_, rfl⟩
      have hs2 : s1 = { s with reads := s.reads + 1 } := by rw [hs1]; unfold Sk.readS; rw [if_pos ⟨hfit, hd⟩]
      rw [← hs1]
      rw [hd] at hR c5
      simp only [Bool.false_eq_true, if_false] at hR
      rw [Int.toNat_natCast] at hR
      have c6 := h0.cell.2.2.2.2.2.2.1
      have f6 := h0.froz 6
      have HAD := hid_of (aadd_any ⟨b, 6, none⟩ (s.reads : Int) 1 w c6 f6 (by omega) (by omega) (by decide) (by decide))
      obtain ⟨w6, hw6⟩ : ∃ w6, w6 = w.setCell ⟨b, 6, none⟩ (.int .i64 ((s.reads : Int) + 1)) := ⟨_, rfl⟩
      rw [← hw6] at HAD
      have hk6 : Kept (fun k => k = b) w w6 := by rw [hw6]; exact Kept.setCell _ _ _ rfl
      have hL1 : lastI s.W (s.B.length / 128) = lastI s1.W (s1.B.length / 128) := by rw [hs2]
      have H6 : Hid (DwIs w6 b x (lastI s1.W (s1.B.length / 128)) s1) := by
        rw [← hL1]
        refine h0.put (s' := s1) hk6 (by rw [hs2]) (by rw [hs2]) rfl ?_ (by rw [hs2]; exact h0.at1) h0.at2
        rw [hw6, heap_setCell_of h0.box, hs2]
        rfl
      have HW1 : Hid (s1.W = s.W ∧ s1.B = s.B) := by rw [hs2]; exact ⟨rfl, rfl⟩
      have HEND : Hid (∀ w2 v, WholeB w2 w6.heap.size v (s.now k) → Kept (fun _ => False) w6 w2 → WholeB w2 w.heap.size v R.1 ∧ ∃ F' G' : Nat → Prop, DwAt w2 b F' G' s1 ∧ Kept F w w2 ∧ Sub F' F w.heap.size ∧ Sub G' G w.heap.size ∧ ∀ k, v.ownBlock = some k → ¬ G' k) := fun w2 v e1 e2 => by
        refine ⟨by rw [hR]; exact e1.base hk6.size, F, G, ⟨x, H6.out.kept e2 (fun _ _ h => h), HR.out.1, HR.out.2.1, fun k e => Nat.lt_of_lt_of_le (HR.out.2.2 k e) (Nat.le_trans hk6.size e2.size)⟩, (hk6.mono (fun k _ e => HR.out.1 k (.inl e))).trans (e2.mono (fun _ _ h => h.elim)), Sub.refl _ _, Sub.refl _ _, fun k e e3 => ?_⟩
        have := (World.ownsRow.lt e1.own k e).1
        have h4 := HR.out.2.2 k e3
        have := hk6.size
        omega
      have hR2 : R.2 = 0 := by rw [hR]
      have HR2 := hid_of hR2
      obtain ⟨n, hn⟩ : ∃ n, n = s.B.length / 128 := ⟨_, rfl⟩
      have hkn : k < n := by rw [hn]; exact hk
      have hnl : n ≤ 4096 := by have := h0.fine.le; omega
      obtain ⟨N, hN⟩ : ∃ N, N = lastN s.W k s.W.length := ⟨_, rfl⟩
      have hNM : N ≤ s.W.length := by rw [hN]; exact lastN_le _ _ _
      have hc2 : w6.cell? ⟨b, 2, none⟩ = some (.slice (some ⟨x.gL, 0, none⟩) n x.cL) := by
        have e := H6.out.cell.2.2.1
        rw [HW1.out.2, ← hn] at e
        exact e
      have hcN : w6.cell? ⟨x.gL, k, none⟩ = some (.int .i64 (N : Int)) := by
        refine (dwi_cell (x := (N : Int)) H6.out.ls ?_).1
        rw [HW1.out.1, HW1.out.2, ← hn, lastI_get hkn, hN]
      by_cases hN0 : N = 0
      · have hno := lastN_none s.W k _ (Nat.le_refl _) (by rw [← hN]; exact hN0)
        have hnow : s.now k = sec s.B k := by unfold Sk.now; rw [hno.1]; rfl
        obtain ⟨lo, hlo⟩ : ∃ lo, lo = k * 128 := ⟨_, rfl⟩
        obtain ⟨cc, hcc⟩ : ∃ cc, cc = x.cK - lo := ⟨_, rfl⟩
        have HSE := hid_of (dwsector_is w6 b x _ s1 H6.out k (by rw [HW1.out.2]; exact hroom) lo cc hlo hcc)
        have hbs : Bs w6 (some ⟨x.gK, lo, none⟩) cc (sec s.B k) := by
          have e := (Bs.own H6.out.bs).mid (lo := k * 128) (m := 128) (by rw [HW1.out.2]; exact hroom) (by decide)
          rw [HW1.out.2] at e
          rw [hcc, hlo]; exact e
        have HBC := hid_of (bclone_whole w6 (some ⟨x.gK, lo, none⟩) 128 cc (sec s.B k) (length_sec hroom) (by decide) (by decide) hbs)
        rw [← hnow] at HBC
        subst hN0
        clear h0 h1 h2 h3 hc hfit hd hR hs1 hs2 hN hno hnow hlo hcc hbs hroom hk hn hw6 c6 f6 hNM hk6 hL1 hR2
        go_enter Try.func15, Try.ntmps15
        go_wp2_with fail
        refine HH.out.mono ?_
        rintro e w0 ⟨rfl, rfl⟩
        go_wp2_with fail
        refine HAD.out.mono ?_
        rintro e w0 ⟨rfl, rfl⟩
        go_wp2_with fail
        refine HSE.out.mono ?_
        rintro e w0 ⟨rfl, rfl⟩
        go_wp2_with fail
        refine HBC.out.mono ?_
        rintro e w2 ⟨g, cap, rfl, ho, hk⟩
        have HF := hid_of (HEND.out w2 _ ho hk)
        clear ho hk HBC
        go_wp2_with fail
        go_ret2
        rw [HR2.out]
        exact ⟨_, rfl, HF.out⟩
      · obtain ⟨p, hp, hp1, hlw⟩ := lastN_hit s.W k _ (Nat.le_refl _) (by rw [← hN]; exact hN0)
        have hnow : s.now k = p.2 := by unfold Sk.now; rw [hlw]; rfl
        obtain ⟨j, hj⟩ : ∃ j, j = N - 1 := ⟨_, rfl⟩
        rw [← hN, ← hj] at hp
        have hp6 : s1.W[j]? = some p := by rw [HW1.out.1]; exact hp
        obtain ⟨g, c, e1, hrg, hgl, n1, n2, n3, hcl⟩ := H6.out.range hp6
        have hp2 : p.2.length = 128 := (h0.fine.w p (List.mem_of_getElem? hp)).2.1
        obtain ⟨M, hM⟩ : ∃ M, M = s.W.length := ⟨_, rfl⟩
        have hc1 : w6.cell? ⟨b, 1, none⟩ = some (.slice (some ⟨g, 0, none⟩) M c) := by
          have e := H6.out.cell.2.1
          rw [e1, HW1.out.1, ← hM] at e
          exact e
        have HBC := hid_of (bclone_whole w6 (some ⟨g, j * 129 + 1, none⟩) 128 128 p.2 hp2 (by decide) (by decide) (bs_of_range hrg hp2))
        rw [← hnow] at HBC
        have hjN : (N : Int) - 1 = (j : Int) := by omega
        have hN1 : 0 < N := by omega
        have hjM : j < M := by rw [hM]; omega
        have hML : M ≤ 100000 := by rw [hM]; exact hWl
        have hsl := slice_arr g (j * 129 + 1)
        clear h0 h1 h2 h3 hc hfit hd hR hs1 hs2 hN hp hp1 hlw hnow hj hp6 e1 hrg hgl n1 n2 n3 hcl hp2 hM hroom hk hn hw6 c6 f6 hNM hk6 hL1 hR2 hN0 hWl
        go_enter Try.func15, Try.ntmps15
        go_wp2_with fail
        refine HH.out.mono ?_
        rintro e w0 ⟨rfl, rfl⟩
        go_wp2_with fail
        refine HAD.out.mono ?_
        rintro e w0 ⟨rfl, rfl⟩
        go_wp2_with fail
        refine HBC.out.mono ?_
        rintro e w2 ⟨g2, cap, rfl, ho, hk⟩
        have HF := hid_of (HEND.out w2 _ ho hk)
        clear ho hk HBC
        go_wp2_with fail
        go_ret2
        rw [HR2.out]
        exact ⟨_, rfl, HF.out⟩
    · rw [hd] at hR c5
      simp only [if_true] at hR
      subst hR
      have hs2 : s.readS i = s := by unfold Sk.readS; rw [if_neg (fun x => by rw [hd] at x; cases x.2)]
      rw [hs2]
      clear h0 h1 h2 h3 hd hfit hs2
      go_enter Try.func15, Try.ntmps15
      go_wp2_with fail
      refine HH.out.mono ?_
      rintro e w0 ⟨rfl, rfl⟩
      go_wp2_with fail
      go_ret2
      exact ⟨_, rfl, WholeB.nil _ _, F, G, HA.out, Kept.refl _ _, Sub.refl _ _, Sub.refl _ _, fun k e => by cases e⟩
  · rw [decide_eq_false hfit] at HH
    have hs2 : s.readS i = s := by unfold Sk.readS; rw [if_neg (fun x => hfit x.1)]
    rw [hs2]
    unfold Sk.readR at hR
    rw [if_pos hfit] at hR
    subst hR
    clear h0 h1 h2 h3 hfit hs2
    go_enter Try.func15, Try.ntmps15
    go_wp2_with fail
    refine HH.out.mono ?_
    rintro e w0 ⟨rfl, rfl⟩
    go_wp2_with fail
    go_ret2
    exact ⟨_, rfl, WholeB.nil _ _, F, G, HA.out, Kept.refl _ _, Sub.refl _ _, Sub.refl _ _, fun k e => by cases e⟩

end Go.Proofs.Ytjmeneddhalodaa
