/- The texts DwPC, DwPD, DkTwo, DkPlay, DkActs, DkRow, one behind the other. -/
import Derived.Test.YtjmeneddhalodaaPart08
import Derived.Test.YtjmeneddhalodaaPart05
import Derived.Test.YtjmeneddhalodaaPart01
import Derived.Deep.Grids

/- The program's disk: Clone. -/
namespace Go.Proofs.Ytjmeneddhalodaa
set_option linter.unusedVariables false
set_option linter.unusedSimpArgs false
open Go.RowKit Dg

theorem form_of_row {w : World} {base : Nat} {e : TypeId} {size : Nat} {v : Value} {n : Nat} {xs : List Value} (h : w.ownsRow base e size v n xs) : ∃ a c, v = .slice a n c := by
  rcases h.2 with ⟨rfl, hn⟩ | ⟨g, cap, cur, rfl, -⟩
  · exact ⟨none, 0, by rw [hn]⟩
  · exact ⟨_, _, rfl⟩
theorem oneC_i (l : List Int) : ∀ u ∈ i64s l, u.oneCell' = true := by
  intro u hu
  obtain ⟨x, -, rfl⟩ := List.mem_map.1 hu
  rfl
set_option maxRecDepth 100000 in
set_option maxHeartbeats 4000000 in
theorem dwclone_any (w : World) (b : Nat) (F G : Nat → Prop) (s : Sk) (h : DwAt w b F G s) (hWl : s.W.length ≤ 100000) :
    Calls Try.prog 28 #[.pointer (some ⟨b, 0, none⟩)] w fun e w' => ∃ (c : Nat) (F' G' : Nat → Prop), e = .returned (.pointer (some ⟨c, 0, none⟩)) ∧ DwAt w' c F' G' s ∧ Below w.heap.size w w' ∧ (∀ k, F' k → w.heap.size ≤ k) ∧ Sub G' G w.heap.size ∧ Apart F G' := by
  obtain ⟨x, h0, h1, h2, h3⟩ := h
  obtain ⟨L, hL⟩ : ∃ L, L = lastI s.W (s.B.length / 128) := ⟨_, rfl⟩
  rw [← hL] at h0
  obtain ⟨c0, c1, c2, c3, c4, c5, c6, c7, c8⟩ := h0.cell
  obtain ⟨wa, wc, hv, -⟩ := h0.form
  have H0 := hid_of h0
  have HR : Hid ((∀ k, x.own b k → F k) ∧ (∀ k, F k → G k) ∧ ∀ k, G k → k < w.heap.size) := ⟨h1, h2, h3⟩
  have HLI := hid_of hL
  obtain ⟨N, hN⟩ : ∃ N, N = s.B.length := ⟨_, rfl⟩
  obtain ⟨n, hn⟩ : ∃ n, n = s.B.length / 128 := ⟨_, rfl⟩
  obtain ⟨M, hM⟩ : ∃ M, M = s.W.length := ⟨_, rfl⟩
  obtain ⟨st, hst⟩ : ∃ st, st = s.stop.isSome := ⟨_, rfl⟩
  obtain ⟨dd, hdd⟩ : ∃ dd, dd = s.dead := ⟨_, rfl⟩
  obtain ⟨r1, hr1⟩ : ∃ r, r = s.reads := ⟨_, rfl⟩
  obtain ⟨r2, hr2⟩ : ∃ r, r = s.writes := ⟨_, rfl⟩
  obtain ⟨r3, hr3⟩ : ∃ r, r = s.flushes := ⟨_, rfl⟩
  rw [← hN] at c0
  rw [hv, ← hM] at c1
  rw [← hn] at c2
  rw [← hst] at c3
  rw [← hdd] at c5
  rw [← hr1] at c6
  rw [← hr2] at c7
  rw [← hr3] at c8
  have hbl : b < w.heap.size := (Array.getElem?_eq_some_iff.1 h0.box).1
  have hle := h0.fine.le
  have hpos := h0.fine.pos
  have HBS : Hid (Bs w (some ⟨x.gK, 0, none⟩) x.cK s.B) := Bs.own h0.bs
  have HWS : Hid (w.ownsRow 0 75 129 (.slice wa M wc) M (cellsV s.W)) := by have e := h0.ws; rw [hv, ← hM] at e; exact e
  have HLS : Hid (w.ownsRow 0 3 1 (.slice (some ⟨x.gL, 0, none⟩) n x.cL) n (i64s L)) := by
    have e : w.ownsRow 0 3 1 (.slice (some ⟨x.gL, 0, none⟩) (s.B.length / 128) x.cL) L.length (i64s L) := h0.ls
    rw [h0.cap.2.2, ← hn] at e
    exact e
  have HBC := hid_of (bclone_whole w.drew (some ⟨x.gK, 0, none⟩) N x.cK s.B hN.symm (by omega) (by omega) (HBS.out.kept (F := fun _ => False) (Kept.refl _ _).drew (fun _ _ _ h => h)))
  have HEQ : Hid (N = s.B.length ∧ n = s.B.length / 128 ∧ M = s.W.length ∧ st = s.stop.isSome ∧ dd = s.dead ∧ r1 = s.reads ∧ r2 = s.writes ∧ r3 = s.flushes) := ⟨hN, hn, hM, hst, hdd, hr1, hr2, hr3⟩
  have hML : M ≤ 100000 := by rw [hM]; exact hWl
  have hnl : n ≤ 100000 := by omega
  have HCELL : Hid (∀ W : World, Kept (fun _ => False) w W → W.cell? ⟨b, 0, none⟩ = some (.slice (some ⟨x.gK, 0, none⟩) N x.cK) ∧ W.cell? ⟨b, 1, none⟩ = some (.slice wa M wc) ∧ W.cell? ⟨b, 2, none⟩ = some (.slice (some ⟨x.gL, 0, none⟩) n x.cL) ∧ W.cell? ⟨b, 3, none⟩ = some (.bool st) ∧ W.cell? ⟨b, 4, none⟩ = some (.int .i64 x.left) ∧ W.cell? ⟨b, 5, none⟩ = some (.bool dd)) := fun W hk => by
    rw [hk.cell hbl (fun h => h), hk.cell hbl (fun h => h), hk.cell hbl (fun h => h), hk.cell hbl (fun h => h), hk.cell hbl (fun h => h), hk.cell hbl (fun h => h)]
    exact ⟨c0, c1, c2, c3, c4, c5⟩
  have HCNT : Hid (∀ W : World, Kept (fun _ => False) w W → W.cell? ⟨b, 6, none⟩ = some (.int .i64 (r1 : Int)) ∧ W.cell? ⟨b, 7, none⟩ = some (.int .i64 (r2 : Int)) ∧ W.cell? ⟨b, 8, none⟩ = some (.int .i64 (r3 : Int))) := fun W hk => by
    rw [hk.cell hbl (fun h => h), hk.cell hbl (fun h => h), hk.cell hbl (fun h => h)]
    exact ⟨c6, c7, c8⟩
  clear h0 h1 h2 h3 hL hv hN hn hM hst hdd hr1 hr2 hr3 hle hpos hWl c6 c7 c8
  go_enter Try.func28, Try.ntmps28
  go_upto_region 1 with fail
  go_region_held (fun W => W.cell? ⟨b, 0, none⟩ = some (.slice (some ⟨x.gK, 0, none⟩) N x.cK) ∧ W.cell? ⟨b, 1, none⟩ = some (.slice wa M wc) ∧ W.cell? ⟨b, 2, none⟩ = some (.slice (some ⟨x.gL, 0, none⟩) n x.cL) ∧ W.cell? ⟨b, 3, none⟩ = some (.bool st) ∧ W.cell? ⟨b, 4, none⟩ = some (.int .i64 x.left) ∧ W.cell? ⟨b, 5, none⟩ = some (.bool dd)) (first | assumption | go_keep) (first
    | (go_at_call 39; refine HBC.out.mono ?_; rintro e w2 ⟨g2, cap2, rfl, ho2, hk2⟩; have HK2 : Hid (Kept (fun _ => False) w w2) := (Kept.refl _ _).drew.trans hk2; have HO2 := hid_of ho2; have hcc := HCELL.out w2 HK2.out; clear ho2 hk2)
    | (go_at_call 55; refine (clw_any w2 _ M _ (ownsRow_other HWS.out HK2.out (fun _ _ h => h)) (cellsV_cell _) hML).mono ?_; rintro e w3 ⟨v3, rfl, ho3, hk3⟩; obtain ⟨a3, cap3, rfl⟩ := form_of_row ho3; have HK3 : Hid (Kept (fun _ => False) w w3) := HK2.out.trans hk3; have HK23 := hid_of hk3; have HO3 := hid_of ho3; have hcc := HCELL.out w3 HK3.out; clear ho3 hk3)
    | (go_at_call 56; refine (cli_any w3 _ n _ (ownsRow_other HLS.out HK3.out (fun _ _ h => h)) (oneC_i _) hnl).mono ?_; rintro e w4 ⟨v4, rfl, ho4, hk4⟩; obtain ⟨a4, cap4, rfl⟩ := form_of_row ho4; have HK4 : Hid (Kept (fun _ => False) w w4) := HK3.out.trans hk4; have HK34 := hid_of hk4; have HO4 := hid_of ho4; have hcc := HCELL.out w4 HK4.out; clear ho4 hk4))
  have hn1 : 0 < n := by have e := HEQ.out.2.1; have := H0.out.fine.pos; omega
  obtain ⟨g4, rfl⟩ : ∃ g, a4 = some ⟨g, 0, none⟩ := by
    rcases HO4.out.2 with ⟨_, e⟩ | ⟨g', cap', cur, e, -⟩
    · omega
    · cases e; exact ⟨_, rfl⟩
  clear hcc
  obtain ⟨w5, hw5⟩ : ∃ w5, w5 = w4.alloc (.cells #[.slice (some ⟨g2, 0, none⟩) N cap2, .slice a3 M cap3, .slice (some ⟨g4, 0, none⟩) n cap4, .bool st, .int .i64 x.left, .bool dd, .int .i64 0, .int .i64 0, .int .i64 0] 72) := ⟨_, rfl⟩
  obtain ⟨cN, hcN⟩ : ∃ cN, cN = w4.heap.size := ⟨_, rfl⟩
  have HX5 : Hid (w5.heap[cN]? = some (.cells #[.slice (some ⟨g2, 0, none⟩) N cap2, .slice a3 M cap3, .slice (some ⟨g4, 0, none⟩) n cap4, .bool st, .int .i64 x.left, .bool dd, .int .i64 0, .int .i64 0, .int .i64 0] 72 (0, 0))) := by show _ = _; rw [hw5, hcN]; exact heap_alloc_new w4 _
  have hk5 : Kept (fun _ => False) w4 w5 := by rw [hw5]; exact Kept.alloc _ _ _
  have HKB5 : Hid (Kept (fun _ => False) w w5.drew) := (HK4.out.trans hk5).drew
  have HC5 := hid_of (HCNT.out w5.drew HKB5.out)
  have hcell5 : w5.drew.cell? ⟨cN, 6, none⟩ = some (.int .i64 0) ∧ w5.drew.frozen? ⟨cN, 6, none⟩ = false := by
    have e : w5.drew.heap[cN]? = _ := HX5.out
    simp [World.cell?, World.frozen?, e]
  have HF5 := hid_of hcell5
  have HK45 := hid_of hk5
  clear hk5 hcell5
  go_upto_region 2 with fail
  rw [← hw5, ← hcN]
  have HCN : Hid (cN = w4.heap.size) := hcN
  clear hw5 hcN
  go_region_with (first
    | (go_at_call 58; refine (aload_any ⟨b, 6, none⟩ (r1 : Int) w5.drew HC5.out.1).mono ?_; rintro e wl ⟨rfl, rfl⟩)
    | (go_at_call 57; refine (astore_any ⟨cN, 6, none⟩ (r1 : Int) _ w5.drew HF5.out.1 HF5.out.2).mono ?_; rintro e w6 ⟨rfl, hw6⟩; have HWE6 := hid_of hw6; clear hw6))
  have hbc : b ≠ cN := fun e => by have e2 := HCN.out; have := HK4.out.size; omega
  have HX6 : Hid (w6.heap[cN]? = some (.cells #[.slice (some ⟨g2, 0, none⟩) N cap2, .slice a3 M cap3, .slice (some ⟨g4, 0, none⟩) n cap4, .bool st, .int .i64 x.left, .bool dd, .int .i64 (r1 : Int), .int .i64 0, .int .i64 0] 72 (0, 0))) := by
    show _ = _
    rw [HWE6.out, heap_setCell_of (w := w5.drew) HX5.out]
    rfl
  have HK56 : Hid (Kept (fun j => j = cN) w5 w6) := by show Kept _ _ _; rw [HWE6.out]; exact (Kept.refl _ _).drew.trans (Kept.setCell _ _ _ rfl)
  have HC6 : Hid (w6.drew.cell? ⟨b, 7, none⟩ = some (.int .i64 (r2 : Int))) := by
    show _ = _
    have e : w6.drew.cell? ⟨b, 7, none⟩ = w5.cell? ⟨b, 7, none⟩ := HK56.out.drew.cell (by have := HK4.out.size; have := HK45.out.size; omega) hbc
    rw [e]; exact HC5.out.2.1
  have hcell6 : w6.drew.cell? ⟨cN, 7, none⟩ = some (.int .i64 0) ∧ w6.drew.frozen? ⟨cN, 7, none⟩ = false := by
    have e : w6.drew.heap[cN]? = _ := HX6.out
    simp [World.cell?, World.frozen?, e]
  have HF6 := hid_of hcell6
  clear hcell6
  go_upto_region 3 with fail
  go_region_with (first
    | (go_at_call 58; refine (aload_any ⟨b, 7, none⟩ (r2 : Int) w6.drew HC6.out).mono ?_; rintro e wl ⟨rfl, rfl⟩)
    | (go_at_call 57; refine (astore_any ⟨cN, 7, none⟩ (r2 : Int) _ w6.drew HF6.out.1 HF6.out.2).mono ?_; rintro e w7 ⟨rfl, hw7⟩; have HWE7 := hid_of hw7; clear hw7))
  have HX7 : Hid (w7.heap[cN]? = some (.cells #[.slice (some ⟨g2, 0, none⟩) N cap2, .slice a3 M cap3, .slice (some ⟨g4, 0, none⟩) n cap4, .bool st, .int .i64 x.left, .bool dd, .int .i64 (r1 : Int), .int .i64 (r2 : Int), .int .i64 0] 72 (0, 0))) := by
    show _ = _
    rw [HWE7.out, heap_setCell_of (w := w6.drew) HX6.out]
    rfl
  have HK57 : Hid (Kept (fun j => j = cN) w5 w7) := by show Kept _ _ _; rw [HWE7.out]; exact HK56.out.drew.trans (Kept.setCell _ _ _ rfl)
  have HC7 : Hid (w7.drew.cell? ⟨b, 8, none⟩ = some (.int .i64 (r3 : Int))) := by
    show _ = _
    have e : w7.drew.cell? ⟨b, 8, none⟩ = w5.cell? ⟨b, 8, none⟩ := HK57.out.drew.cell (by have := HK4.out.size; have := HK45.out.size; omega) hbc
    rw [e]; exact HC5.out.2.2
  have hcell7 : w7.drew.cell? ⟨cN, 8, none⟩ = some (.int .i64 0) ∧ w7.drew.frozen? ⟨cN, 8, none⟩ = false := by
    have e : w7.drew.heap[cN]? = _ := HX7.out
    simp [World.cell?, World.frozen?, e]
  have HF7 := hid_of hcell7
  clear hcell7
  go_upto_region 4 with fail
  go_region_with (first
    | (go_at_call 58; refine (aload_any ⟨b, 8, none⟩ (r3 : Int) w7.drew HC7.out).mono ?_; rintro e wl ⟨rfl, rfl⟩)
    | (go_at_call 57; refine (astore_any ⟨cN, 8, none⟩ (r3 : Int) _ w7.drew HF7.out.1 HF7.out.2).mono ?_; rintro e w8 ⟨rfl, hw8⟩; have HWE8 := hid_of hw8; clear hw8))
  have HX8 : Hid (w8.heap[cN]? = some (.cells #[.slice (some ⟨g2, 0, none⟩) N cap2, .slice a3 M cap3, .slice (some ⟨g4, 0, none⟩) n cap4, .bool st, .int .i64 x.left, .bool dd, .int .i64 (r1 : Int), .int .i64 (r2 : Int), .int .i64 (r3 : Int)] 72 (0, 0))) := by
    show _ = _
    rw [HWE8.out, heap_setCell_of (w := w7.drew) HX7.out]
    rfl
  have HK58 : Hid (Kept (fun j => j = cN) w5 w8) := by show Kept _ _ _; rw [HWE8.out]; exact HK57.out.drew.trans (Kept.setCell _ _ _ rfl)
  go_wp2_with fail
  go_ret
  have hsz2 := HK2.out.size
  have hsz3 := HK23.out.size
  have hsz4 := HK34.out.size
  have hsz5 := HK45.out.size
  have hsz8 := HK58.out.size
  have hcn := HCN.out
  have l2 := World.ownsRow.lt HO2.out.own g2 rfl
  have l2' : w.heap.size ≤ g2 ∧ g2 < w2.heap.size := l2
  have l4 := World.ownsRow.lt HO4.out g4 rfl
  have l3 : ∀ j, (Value.slice a3 M cap3).ownBlock = some j → w2.heap.size ≤ j ∧ j < w3.heap.size := fun j e => World.ownsRow.lt HO3.out j e
  have hcl : cN < w8.heap.size := (Array.getElem?_eq_some_iff.1 HX8.out).1
  obtain ⟨q1, q2, q3, q4, q5, q6, q7, q8⟩ := HEQ.out
  have k28 : Kept (fun j => j = cN) w2 w8 := (((HK23.out.trans HK34.out).trans HK45.out).mono (fun _ _ h => h.elim)).trans HK58.out
  have k38 : Kept (fun j => j = cN) w3 w8 := ((HK34.out.trans HK45.out).mono (fun _ _ h => h.elim)).trans HK58.out
  have k48 : Kept (fun j => j = cN) w4 w8 := (HK45.out.mono (fun _ _ h => h.elim)).trans HK58.out
  have hown : ∀ j, (⟨g2, cap2, .slice a3 M cap3, g4, cap4, x.left⟩ : DwB).own cN j → w.heap.size ≤ j ∧ j < w8.heap.size := fun j e => by
    rcases e with e | e | e | e
    · change j = cN at e; omega
    · change j = g2 at e; omega
    · change j = g4 at e; omega
    · have := l3 j e; omega
  refine ⟨cN, fun j => (⟨g2, cap2, .slice a3 M cap3, g4, cap4, x.left⟩ : DwB).own cN j, fun j => (⟨g2, cap2, .slice a3 M cap3, g4, cap4, x.left⟩ : DwB).own cN j, rfl, ⟨⟨g2, cap2, .slice a3 M cap3, g4, cap4, x.left⟩, ?_, fun _ h => h, fun _ h => h, fun j e => (hown j e).2⟩, ?_, fun j e => (hown j e).1, fun j e => .inr (hown j e).1, fun j e e2 => ?_⟩
  · rw [← HLI.out]
    refine ⟨?_, ?_, ?_, ?_, H0.out.at1, H0.out.at2, H0.out.fine, ⟨by show cN ≠ g2; omega, by show cN ≠ g4; omega, by show g2 ≠ g4; omega⟩, ⟨fun e => by have := l3 _ e; omega, fun e => by have := l3 _ e; change w2.heap.size ≤ g2 ∧ _ at this; omega, fun e => by have := l3 _ e; change _ ∧ g4 < w3.heap.size at this; omega⟩⟩
    · show _ = some (Obj.cells #[.slice _ s.B.length _, _, .slice _ (s.B.length / 128) _, .bool s.stop.isSome, _, .bool s.dead, .int .i64 (s.reads : Int), .int .i64 (s.writes : Int), .int .i64 (s.flushes : Int)] _ _)
      rw [← q2, ← q1, ← q4, ← q5, ← q6, ← q7, ← q8]
      exact HX8.out
    · have e := HO2.out.own
      rw [q1] at e
      exact own0 (ownsRow_other e k28 (fun j e2 => by cases e2; show g2 ≠ cN; omega))
    · show World.ownsRow _ _ _ _ (.slice _ (s.B.length / 128) _) L.length _
      rw [H0.out.cap.2.2, ← q2]
      exact own0 (ownsRow_other HO4.out k48 (fun j e2 => by cases e2; show g4 ≠ cN; omega))
    · show World.ownsRow _ _ _ _ (.slice a3 M cap3) s.W.length _
      rw [← q3]
      exact own0 (ownsRow_other HO3.out k38 (fun j e2 => by have := l3 j e2; omega))
  · have hall : Kept (fun j => j = cN) w w8 := ((HK4.out.trans HK45.out).mono (fun _ _ h => h.elim)).trans HK58.out
    exact hall.below_of (Below.refl _ _) (fun j e => by omega) (Nat.le_refl _)
  · have e3 := HR.out.2.2 j (HR.out.2.1 j e)
    have e4 := (hown j e2).1
    omega

end Go.Proofs.Ytjmeneddhalodaa

/- The program's disk is a disk: the bundle. -/
namespace Go.Proofs.Ytjmeneddhalodaa
set_option linter.unusedVariables false
set_option linter.unusedSimpArgs false
open Go.RowKit Dg

theorem dskW : Dsk DwAt where
  arms := fun h => h.arms
  keep := fun h hk hX => h.keep hk hX
  newB := fun w n h1 h2 => dwnew_any w n h1 h2
  writeB := fun w b F G s i a n cap l h hi hn hb h256 hnl hf hc hWl => dwwrite_any w b F G s h i hi a n cap l hn hb h256 hnl hf hc hWl _ rfl _ rfl
  waitB := fun w b F G s n h hn => by
    obtain ⟨x, h0, -⟩ := h
    exact (dwwait_is w b x _ s h0 n hn).mono fun e w' ⟨h1, h2⟩ => ⟨h1, 0, h2 ▸ rfl⟩
  crashB := fun w b F G s a n cap l h hn hl hnl hf hWl => dwcrash_any w b F G s h hWl a n cap l hn hl hnl hf _ rfl
  imageB := fun w b F G s h => by
    obtain ⟨x, h0, h1, h2, h3⟩ := h
    exact (dwimage_is w b x _ s h0).mono fun e w' ⟨v, e1, e2, e3⟩ => ⟨v, e1, e2, ⟨x, h0.kept e3 (fun _ _ h => h), h1, h2, fun k e => Nat.lt_of_lt_of_le (h3 k e) e3.size⟩, e3⟩
theorem dskNewNo : DNewNo := fun w n h hi => dwnew_no w n h hi
theorem dskFrom : DFrom DwAt := fun w a n cap l hl hb h256 hd => dwfrom_any w a n cap l hl hb h256 hd
theorem dskFromNo : DFromNo := fun w a n cap l hl hb hn hd => dwfrom_no w a n cap l hl hb hn hd
theorem dskLen : DLen DwAt := fun w b F G s n h hn => by
  obtain ⟨x, h0, -⟩ := h
  exact (dwlen_is w b x _ s h0 n hn).mono fun e w' ⟨h1, h2⟩ => ⟨h1, 0, h2 ▸ rfl⟩
theorem dskDead : DDead DwAt := fun w b F G s q h hq => by
  obtain ⟨x, h0, -⟩ := h
  exact (dwdead_is w b x _ s h0 q hq).mono fun e w' ⟨h1, h2⟩ => ⟨h1, 0, h2 ▸ rfl⟩
theorem dskCounts : DCounts DwAt := fun w b F G s h => by
  obtain ⟨x, h0, -⟩ := h
  exact dwcounts_is w b x _ s h0
theorem dskRead : DRead DwAt := fun w b F G s i h hi hc hWl => dwread_any w b F G s h i hi hc hWl _ rfl
theorem dskFlush : DFlush DwAt := fun w b F G s h hc hWl => dwflush_any w b F G s h hc hWl _ rfl _ rfl
theorem dskStop : DStop DwAt := fun w b F G s a h ha => by
  obtain ⟨x, h0, h1, h2, h3⟩ := h
  exact (dwstop_is w b x _ s h0 a ha).mono fun e w' ⟨e1, ⟨m, e2⟩, e3⟩ => ⟨e1, Moved.of (x := x) h1 h2 h3 e2 rfl (fun k e => .inl e) (e3.own (fun k e => .inl e))⟩
theorem dskPoke : DPoke DwAt := fun w b F G s i dg h hi hd hWl => dwpoke_any w b F G s h i dg hi hd hWl _ rfl _ rfl
theorem dskClone : DClone DwAt := fun w b F G s h hWl => dwclone_any w b F G s h hWl

end Go.Proofs.Ytjmeneddhalodaa

/- Two disks beside each other, the program's and the document's: a call on one of them leaves the other one as it was. -/
namespace Go.Proofs.Ytjmeneddhalodaa
set_option linter.unusedVariables false
set_option linter.unusedSimpArgs false
open Go.RowKit Dg

/-- The program's disk d has s, the document's r has t; since w0 nothing was turned but what was theirs; the blocks X are none of theirs. -/
def Two (Di : DiP) (w0 : World) (F0 G0 F20 G20 X : Nat → Prop) (w : World) (d r : Nat) (s t : Sk) : Prop :=
  ∃ F G F2 G2 : Nat → Prop, Di w d F G s ∧ RkAt w r F2 G2 t ∧ Apart F G2 ∧ Apart F2 G ∧ (Sub F F0 w0.heap.size ∧ Sub G G0 w0.heap.size ∧ Sub F2 F20 w0.heap.size ∧ Sub G2 G20 w0.heap.size) ∧ Kept (fun k => F0 k ∨ F20 k) w0 w ∧ ∀ k, X k → (¬ G k ∧ ¬ G2 k) ∧ k < w.heap.size
theorem Two.first {Di : DiP} (C : Dsk Di) {w : World} {d r : Nat} {s t : Sk} {F G F2 G2 X : Nat → Prop} (h1 : Di w d F G s) (h2 : RkAt w r F2 G2 t) (h3 : Apart F G2) (h4 : Apart F2 G) (hX : ∀ k, X k → (¬ G k ∧ ¬ G2 k) ∧ k < w.heap.size) : Two Di w F G F2 G2 X w d r s t :=
  ⟨F, G, F2, G2, h1, h2, h3, h4, ⟨Sub.refl _ _, Sub.refl _ _, Sub.refl _ _, Sub.refl _ _⟩, Kept.refl _ _, hX⟩
theorem Two.fine {Di : DiP} (C : Dsk Di) {w0 w : World} {d r : Nat} {s t : Sk} {F0 G0 F20 G20 X : Nat → Prop} (h : Two Di w0 F0 G0 F20 G20 X w d r s t) : s.Fine ∧ t.Fine ∧ w0.heap.size ≤ w.heap.size := by
  obtain ⟨F, G, F2, G2, h1, h2, -, -, -, hk, -⟩ := h
  exact ⟨(C.arms h1).1, h2.arms.1, hk.size⟩
/-- A step that turns none of theirs. -/
theorem Two.keep {Di : DiP} (C : Dsk Di) {w0 w w' : World} {d r : Nat} {s t : Sk} {F0 G0 F20 G20 X Y : Nat → Prop} (h : Two Di w0 F0 G0 F20 G20 X w d r s t) (hk : Kept (fun k => w.heap.size ≤ k) w w') (hY : ∀ k, Y k → X k ∨ (w.heap.size ≤ k ∧ k < w'.heap.size)) : Two Di w0 F0 G0 F20 G20 Y w' d r s t := by
  obtain ⟨F, G, F2, G2, h1, h2, h3, h4, h5, h6, h7⟩ := h
  have a1 := C.arms h1
  have a2 := h2.arms
  refine ⟨F, G, F2, G2, C.keep h1 hk (fun k e e2 => by have := a1.2.2 k e; omega), h2.keep hk (fun k e e2 => by have := a2.2.2.2 k e; omega), h3, h4, h5, h6.trans' hk (fun i hi e => by have := h6.size; omega), fun k e => ?_⟩
  rcases hY k e with e1 | ⟨e1, e2⟩
  · have := h7 k e1
    exact ⟨this.1, Nat.lt_of_lt_of_le this.2 hk.size⟩
  · exact ⟨⟨fun f => by have := a1.2.2 k f; omega, fun f => by have := a2.2.2.2 k f; omega⟩, e2⟩
/-- A step that turns a block of X alone. -/
theorem Two.mine {Di : DiP} (C : Dsk Di) {w0 w w' : World} {d r : Nat} {s t : Sk} {F0 G0 F20 G20 X : Nat → Prop} (h : Two Di w0 F0 G0 F20 G20 X w d r s t) (g : Nat) (hk : Kept (fun k => k = g) w w') (hn : w0.heap.size ≤ g) (hg : X g) : Two Di w0 F0 G0 F20 G20 X w' d r s t := by
  obtain ⟨F, G, F2, G2, h1, h2, h3, h4, h5, h6, h7⟩ := h
  obtain ⟨⟨n1, n2⟩, -⟩ := h7 g hg
  refine ⟨F, G, F2, G2, C.keep h1 hk (fun k e e2 => n1 (e2 ▸ e)), h2.keep hk (fun k e e2 => n2 (e2 ▸ e)), h3, h4, h5, h6.trans' hk (fun i hi e => by omega), fun k e => ⟨(h7 k e).1, Nat.lt_of_lt_of_le (h7 k e).2 hk.size⟩⟩
theorem Two.less {Di : DiP} {w0 w : World} {d r : Nat} {s t : Sk} {F0 G0 F20 G20 X Y : Nat → Prop} (h : Two Di w0 F0 G0 F20 G20 X w d r s t) (hY : ∀ k, Y k → X k) : Two Di w0 F0 G0 F20 G20 Y w d r s t := by
  obtain ⟨F, G, F2, G2, h1, h2, h3, h4, h5, h6, h7⟩ := h
  exact ⟨F, G, F2, G2, h1, h2, h3, h4, h5, h6, fun k e => h7 k (hY k e)⟩
/-- A call on the program's disk. -/
theorem Two.left {Di : DiP} (C : Dsk Di) {w0 w : World} {d r f : Nat} {s s' t : Sk} {F0 G0 F20 G20 X : Nat → Prop} {args : Array Value} {P : Ending → Prop} (h : Two Di w0 F0 G0 F20 G20 X w d r s t)
    (hc : ∀ F G : Nat → Prop, Di w d F G s → (∀ k, X k → ¬ F k) → Calls Try.prog f args w fun e w' => P e ∧ Moved Di w w' d F G s') :
    Calls Try.prog f args w fun e w' => P e ∧ Two Di w0 F0 G0 F20 G20 X w' d r s' t ∧ Kept (fun k => ¬ X k) w w' := by
  obtain ⟨F, G, F2, G2, h1, h2, h3, h4, ⟨h5, h6, h7, h8⟩, h9, h10⟩ := h
  have a1 := C.arms h1
  have a2 := h2.arms
  refine (hc F G h1 (fun k e f => (h10 k e).1.1 (a1.2.1 k f))).mono ?_
  rintro e w' ⟨hP, F', G', m1, m2, m3, m4⟩
  refine ⟨hP, ⟨F', G', F2, G2, m1, h2.keep m2 (fun k e1 e2 => h3 k e2 e1), h3.grow m3 a2.2.2.2, h4.grow' m4 (fun k e => a2.2.2.2 k (a2.2.2.1 k e)), ⟨m3.trans h5 h9.size, m4.trans h6 h9.size, h7, h8⟩, h9.trans' m2 (fun i hi e => by rcases h5 i e with e1 | e1; exact .inl e1; omega), fun k e => ⟨⟨fun f => ?_, (h10 k e).1.2⟩, Nat.lt_of_lt_of_le (h10 k e).2 m2.size⟩⟩, m2.mono (fun i hi e e2 => (h10 i e2).1.1 (a1.2.1 i e))⟩
  rcases m4 k f with f1 | f1
  · exact (h10 k e).1.1 f1
  · have := (h10 k e).2; omega
/-- A call on the document's disk. -/
theorem Two.right {Di : DiP} (C : Dsk Di) {w0 w : World} {d r f : Nat} {s t t' : Sk} {F0 G0 F20 G20 X : Nat → Prop} {args : Array Value} {P : Ending → Prop} (h : Two Di w0 F0 G0 F20 G20 X w d r s t)
    (hc : ∀ F G : Nat → Prop, RkAt w r F G t → (∀ k, X k → ¬ F k) → Calls Try.prog f args w fun e w' => P e ∧ Moved RkAt w w' r F G t') :
    Calls Try.prog f args w fun e w' => P e ∧ Two Di w0 F0 G0 F20 G20 X w' d r s t' ∧ Kept (fun k => ¬ X k) w w' := by
  obtain ⟨F, G, F2, G2, h1, h2, h3, h4, ⟨h5, h6, h7, h8⟩, h9, h10⟩ := h
  have a1 := C.arms h1
  have a2 := h2.arms
  refine (hc F2 G2 h2 (fun k e f => (h10 k e).1.2 (a2.2.2.1 k f))).mono ?_
  rintro e w' ⟨hP, F', G', m1, m2, m3, m4⟩
  refine ⟨hP, ⟨F, G, F', G', C.keep h1 m2 (fun k e1 e2 => h4 k e2 e1), m1, h3.grow' m4 (fun k e => a1.2.2 k (a1.2.1 k e)), h4.grow m3 a1.2.2, ⟨h5, h6, m3.trans h7 h9.size, m4.trans h8 h9.size⟩, h9.trans' m2 (fun i hi e => by rcases h7 i e with e1 | e1; exact .inr e1; omega), fun k e => ⟨⟨(h10 k e).1.1, fun f => ?_⟩, Nat.lt_of_lt_of_le (h10 k e).2 m2.size⟩⟩, m2.mono (fun i hi e e2 => (h10 i e2).1.2 (a2.2.2.1 i e))⟩
  rcases m4 k f with f1 | f1
  · exact (h10 k e).1.2 f1
  · have := (h10 k e).2; omega

/-- The calls of both, one by one. -/
theorem two_dwrite {Di : DiP} (C : Dsk Di) {w0 w : World} {d r : Nat} {s t : Sk} {F0 G0 F20 G20 X : Nat → Prop} (h : Two Di w0 F0 G0 F20 G20 X w d r s t) (i : Int) (hi : I64 i) (a : Option Addr) (n cap : Nat) (l : List Nat) (hn : l.length = n) (hb : Bs w a cap l) (h256 : ∀ x ∈ l, x < 256) (hl : n ≤ 1000000) (hX : l ≠ [] → ∀ y, a = some y → X y.block) (hc : s.writes ≤ 1000000) (hW : s.W.length ≤ 100000) (R : Int) (hR : R = s.writeR i l) (s' : Sk) (hs : s' = s.writeS i l) :
    Calls Try.prog 12 #[.pointer (some ⟨d, 0, none⟩), .int .i64 i, .slice a n cap] w fun e w' => e = .returned (.int .i64 R) ∧ Two Di w0 F0 G0 F20 G20 X w' d r s' t ∧ Kept (fun k => ¬ X k) w w' := by
  subst hR hs
  exact h.left C (P := fun e => e = .returned (.int .i64 (s.writeR i l))) (fun F G hD hXF => C.writeB w d F G s i a n cap l hD hi hn hb h256 hl (fun hne y hy => hXF _ (hX hne y hy)) hc hW)
theorem two_rwrite {Di : DiP} (C : Dsk Di) {w0 w : World} {d r : Nat} {s t : Sk} {F0 G0 F20 G20 X : Nat → Prop} (h : Two Di w0 F0 G0 F20 G20 X w d r s t) (i : Int) (hi : I64 i) (a : Option Addr) (n cap : Nat) (l : List Nat) (hn : l.length = n) (hb : Bs w a cap l) (h256 : ∀ x ∈ l, x < 256) (hl : n ≤ 1000000) (hX : l ≠ [] → ∀ y, a = some y → X y.block) (hc : t.writes ≤ 1000000) (hW : t.W.length ≤ 100000) (R : Int) (hR : R = t.writeR i l) (t' : Sk) (ht : t' = t.writeS i l) :
    Calls Try.prog 50 #[.pointer (some ⟨r, 0, none⟩), .int .i64 i, .slice a n cap] w fun e w' => e = .returned (.int .i64 R) ∧ Two Di w0 F0 G0 F20 G20 X w' d r s t' ∧ Kept (fun k => ¬ X k) w w' := by
  subst hn
  exact h.right C (P := fun e => e = .returned (.int .i64 R)) (fun F G hD hXF => rdwrite_any w r F G t hD i hi a cap l hb h256 hl (fun hne y hy => hXF _ (hX hne y hy)) hc hW R hR t' ht)
theorem two_dcrash {Di : DiP} (C : Dsk Di) {w0 w : World} {d r : Nat} {s t : Sk} {F0 G0 F20 G20 X : Nat → Prop} (h : Two Di w0 F0 G0 F20 G20 X w d r s t) (a : Option Addr) (n cap : Nat) (l : List Bool) (hn : l.length = n) (hb : BlAt w a l) (hl : n ≤ 1000000) (hX : l ≠ [] → ∀ y, a = some y → X y.block) (hW : s.W.length ≤ 100000) (s' : Sk) (hs : s' = s.crashS l) :
    Calls Try.prog 18 #[.pointer (some ⟨d, 0, none⟩), .slice a n cap] w fun e w' => e = .returned (.tuple #[]) ∧ Two Di w0 F0 G0 F20 G20 X w' d r s' t ∧ Kept (fun k => ¬ X k) w w' := by
  subst hs
  exact h.left C (P := fun e => e = .returned (.tuple #[])) (fun F G hD hXF => C.crashB w d F G s a n cap l hD hn hb hl (fun hne y hy => hXF _ (hX hne y hy)) hW)
theorem two_rcrash {Di : DiP} (C : Dsk Di) {w0 w : World} {d r : Nat} {s t : Sk} {F0 G0 F20 G20 X : Nat → Prop} (h : Two Di w0 F0 G0 F20 G20 X w d r s t) (a : Option Addr) (n cap : Nat) (l : List Bool) (hn : l.length = n) (hb : BlAt w a l) (hl : n ≤ 1000000) (hX : l ≠ [] → ∀ y, a = some y → X y.block) (hW : t.W.length ≤ 100000) (t' : Sk) (ht : t' = t.crashS l) :
    Calls Try.prog 47 #[.pointer (some ⟨r, 0, none⟩), .slice a n cap] w fun e w' => e = .returned (.tuple #[]) ∧ Two Di w0 F0 G0 F20 G20 X w' d r s t' ∧ Kept (fun k => ¬ X k) w w' := by
  subst hn
  exact h.right C (P := fun e => e = .returned (.tuple #[])) (fun F G hD hXF => (rdcrash_any w r F G t hD (by omega) a cap l hb hl (fun hne y hy => hXF _ (hX hne y hy)) t' ht).mono fun e w' ⟨h1, h2, h3⟩ => ⟨h1, F, G, h2, h3, Sub.refl _ _, Sub.refl _ _⟩)
theorem two_dstop {Di : DiP} (C : Dsk Di) (CS : DStop Di) {w0 w : World} {d r : Nat} {s t : Sk} {F0 G0 F20 G20 X : Nat → Prop} (h : Two Di w0 F0 G0 F20 G20 X w d r s t) (a : Int) (ha : I64 a) :
    Calls Try.prog 11 #[.pointer (some ⟨d, 0, none⟩), .int .i64 a] w fun e w' => e = .returned (.tuple #[]) ∧ Two Di w0 F0 G0 F20 G20 X w' d r (s.stopS a) t ∧ Kept (fun k => ¬ X k) w w' :=
  h.left C (P := fun e => e = .returned (.tuple #[])) (fun F G hD hXF => CS w d F G s a hD ha)
theorem two_rstop {Di : DiP} (C : Dsk Di) {w0 w : World} {d r : Nat} {s t : Sk} {F0 G0 F20 G20 X : Nat → Prop} (h : Two Di w0 F0 G0 F20 G20 X w d r s t) (a : Int) (ha : I64 a) :
    Calls Try.prog 46 #[.pointer (some ⟨r, 0, none⟩), .int .i64 a] w fun e w' => e = .returned (.tuple #[]) ∧ Two Di w0 F0 G0 F20 G20 X w' d r s (t.stopS a) ∧ Kept (fun k => ¬ X k) w w' :=
  h.right C (P := fun e => e = .returned (.tuple #[])) (fun F G hD hXF => (rdstop_any w r F G t hD a ha).mono fun e w' ⟨h1, h2, h3⟩ => ⟨h1, F, G, h2, h3, Sub.refl _ _, Sub.refl _ _⟩)
theorem two_dflush {Di : DiP} (C : Dsk Di) (CF : DFlush Di) {w0 w : World} {d r : Nat} {s t : Sk} {F0 G0 F20 G20 X : Nat → Prop} (h : Two Di w0 F0 G0 F20 G20 X w d r s t) (hc : s.flushes ≤ 1000000) (hW : s.W.length ≤ 100000) :
    Calls Try.prog 16 #[.pointer (some ⟨d, 0, none⟩)] w fun e w' => e = .returned (.int .i64 s.flushR) ∧ Two Di w0 F0 G0 F20 G20 X w' d r s.flushS t ∧ Kept (fun k => ¬ X k) w w' :=
  h.left C (P := fun e => e = .returned (.int .i64 s.flushR)) (fun F G hD hXF => CF w d F G s hD hc hW)
theorem two_rflush {Di : DiP} (C : Dsk Di) {w0 w : World} {d r : Nat} {s t : Sk} {F0 G0 F20 G20 X : Nat → Prop} (h : Two Di w0 F0 G0 F20 G20 X w d r s t) (hc : t.flushes ≤ 1000000) (hW : t.W.length ≤ 100000) :
    Calls Try.prog 45 #[.pointer (some ⟨r, 0, none⟩)] w fun e w' => e = .returned (.int .i64 t.flushR) ∧ Two Di w0 F0 G0 F20 G20 X w' d r s t.flushS ∧ Kept (fun k => ¬ X k) w w' :=
  h.right C (P := fun e => e = .returned (.int .i64 t.flushR)) (fun F G hD hXF => (rdflush_any w r F G t hD hc (by omega) _ rfl _ rfl).mono fun e w' ⟨h1, h2, h3⟩ => ⟨h1, F, G, h2, h3, Sub.refl _ _, Sub.refl _ _⟩)
theorem two_dpoke {Di : DiP} (C : Dsk Di) (CP : DPoke Di) {w0 w : World} {d r : Nat} {s t : Sk} {F0 G0 F20 G20 X : Nat → Prop} (h : Two Di w0 F0 G0 F20 G20 X w d r s t) (i dg : Int) (hi : I64 i) (hd : I64 dg) (hW : s.W.length ≤ 100000) :
    Calls Try.prog 22 #[.pointer (some ⟨d, 0, none⟩), .int .i64 i, .int .i64 dg] w fun e w' => e = .returned (.bool (decide (s.pokes i dg))) ∧ Two Di w0 F0 G0 F20 G20 X w' d r (s.pokeS i dg) t ∧ Kept (fun k => ¬ X k) w w' :=
  h.left C (P := fun e => e = .returned (.bool (decide (s.pokes i dg)))) (fun F G hD hXF => CP w d F G s i dg hD hi hd hW)
theorem two_rpoke {Di : DiP} (C : Dsk Di) {w0 w : World} {d r : Nat} {s t : Sk} {F0 G0 F20 G20 X : Nat → Prop} (h : Two Di w0 F0 G0 F20 G20 X w d r s t) (i dg : Int) (hi : I64 i) (hd : I64 dg) (hW : t.W.length ≤ 100000) :
    Calls Try.prog 48 #[.pointer (some ⟨r, 0, none⟩), .int .i64 i, .int .i64 dg] w fun e w' => e = .returned (.bool (decide (t.pokes i dg))) ∧ Two Di w0 F0 G0 F20 G20 X w' d r s (t.pokeS i dg) ∧ Kept (fun k => ¬ X k) w w' :=
  h.right C (P := fun e => e = .returned (.bool (decide (t.pokes i dg)))) (fun F G hD hXF => (rdpoke_any w r F G t hD i dg hi hd hW _ rfl _ rfl).mono fun e w' ⟨h1, G', h2, h3, h4⟩ => ⟨h1, F, G', h2, h3, Sub.refl _ _, h4⟩)

theorem two_dread {Di : DiP} (C : Dsk Di) (CR : DRead Di) {w0 w : World} {d r : Nat} {s t : Sk} {F0 G0 F20 G20 X : Nat → Prop} (h : Two Di w0 F0 G0 F20 G20 X w d r s t) (i : Int) (hi : I64 i) (hc : s.reads ≤ 1000000) (hW : s.W.length ≤ 100000) :
    Calls Try.prog 15 #[.pointer (some ⟨d, 0, none⟩), .int .i64 i] w fun e w' => ∃ v, e = .returned (.tuple #[v, .int .i64 (s.readR i).2]) ∧ WholeB w' w.heap.size v (s.readR i).1 ∧ Two Di w0 F0 G0 F20 G20 (fun k => X k ∨ v.ownBlock = some k) w' d r (s.readS i) t ∧ Kept (fun k => ¬ X k) w w' := by
  obtain ⟨F, G, F2, G2, h1, h2, h3, h4, ⟨h5, h6, h7, h8⟩, h9, h10⟩ := h
  have a1 := C.arms h1
  have a2 := h2.arms
  refine (CR w d F G s i h1 hi hc hW).mono ?_
  rintro e w' ⟨v, rfl, hv, F', G', m1, m2, m3, m4, m5⟩
  refine ⟨v, rfl, hv, ⟨F', G', F2, G2, m1, h2.keep m2 (fun k e1 e2 => h3 k e2 e1), h3.grow m3 a2.2.2.2, h4.grow' m4 (fun k e => a2.2.2.2 k (a2.2.2.1 k e)), ⟨m3.trans h5 h9.size, m4.trans h6 h9.size, h7, h8⟩, h9.trans' m2 (fun i hi e => by rcases h5 i e with e1 | e1; exact .inl e1; omega), fun k e => ?_⟩, m2.mono (fun i hi e e2 => (h10 i e2).1.1 (a1.2.1 i e))⟩
  rcases e with e | e
  · refine ⟨⟨fun f => ?_, (h10 k e).1.2⟩, Nat.lt_of_lt_of_le (h10 k e).2 m2.size⟩
    rcases m4 k f with f1 | f1
    · exact (h10 k e).1.1 f1
    · have := (h10 k e).2; omega
  · have hlt := World.ownsRow.lt hv.own k e
    exact ⟨⟨m5 k e, fun f => by have := a2.2.2.2 k f; omega⟩, hlt.2⟩
theorem two_rread {Di : DiP} (C : Dsk Di) {w0 w : World} {d r : Nat} {s t : Sk} {F0 G0 F20 G20 X : Nat → Prop} (h : Two Di w0 F0 G0 F20 G20 X w d r s t) (i : Int) (hi : I64 i) (hc : t.reads ≤ 1000000) (hW : t.W.length ≤ 100000) :
    Calls Try.prog 44 #[.pointer (some ⟨r, 0, none⟩), .int .i64 i] w fun e w' => ∃ v, e = .returned (.tuple #[v, .int .i64 (t.readR i).2]) ∧ OwnBytes w' w.heap.size v (t.readR i).1 ∧ Two Di w0 F0 G0 F20 G20 X w' d r s (t.readS i) ∧ Kept (fun k => ¬ X k) w w' := by
  obtain ⟨F, G, F2, G2, h1, h2, h3, h4, ⟨h5, h6, h7, h8⟩, h9, h10⟩ := h
  have a1 := C.arms h1
  have a2 := h2.arms
  refine (rdread_any w r F2 G2 t h2 i hi hc (by omega) _ rfl).mono ?_
  rintro e w' ⟨v, rfl, hv, m1, m2⟩
  refine ⟨v, rfl, hv, ⟨F, G, F2, G2, C.keep h1 m2 (fun k e1 e2 => h4 k e2 e1), m1, h3, h4, ⟨h5, h6, h7, h8⟩, h9.trans' m2 (fun i hi e => by rcases h7 i e with e1 | e1; exact .inr e1; omega), fun k e => ⟨(h10 k e).1, Nat.lt_of_lt_of_le (h10 k e).2 m2.size⟩⟩, m2.mono (fun i hi e e2 => (h10 i e2).1.2 (a2.2.2.1 i e))⟩
/-- What can be read of the document's disk. -/
theorem Two.fields {Di : DiP} {w0 w : World} {d r : Nat} {s t : Sk} {F0 G0 F20 G20 X : Nat → Prop} (h : Two Di w0 F0 G0 F20 G20 X w d r s t) : ∃ gB cB wa wc, w.cell? ⟨r, 0, none⟩ = some (.slice (some ⟨gB, 0, none⟩) t.B.length cB) ∧ w.cell? ⟨r, 1, none⟩ = some (.slice wa t.W.length wc) ∧ w.cell? ⟨r, 2, none⟩ = some (.bool t.dead) ∧ w.cell? ⟨r, 5, none⟩ = some (.int .i64 (t.reads : Int)) ∧ w.cell? ⟨r, 6, none⟩ = some (.int .i64 (t.writes : Int)) ∧ w.cell? ⟨r, 7, none⟩ = some (.int .i64 (t.flushes : Int)) ∧ SlAt w (.slice (some ⟨gB, 0, none⟩) t.B.length cB) t.B := by
  obtain ⟨F, G, F2, G2, -, ⟨gB, cB, vW, at_, D, h0, -⟩, -⟩ := h
  obtain ⟨c0, c1, c2, c3, c4, c5, c6, c7⟩ := h0.cell
  obtain ⟨wa, wc, rfl, -⟩ := h0.form
  exact ⟨gB, cB, wa, wc, c0, c1, c2, c5, c6, c7, SlAt.of_owns h0.bs⟩
theorem Two.draws {Di : DiP} (C : Dsk Di) {w0 w : World} {d r : Nat} {s t : Sk} {F0 G0 F20 G20 X : Nat → Prop} (h : Two Di w0 F0 G0 F20 G20 X w d r s t) (n : Nat) : Two Di w0 F0 G0 F20 G20 X (w.drewN n) d r s t :=
  h.keep C ⟨rfl, rfl, rfl, Nat.le_refl _, fun _ _ _ => rfl⟩ (fun k e => .inl e)

theorem drewN_more (w : World) (a b : Nat) : ∃ c, (w.drewN a).drewN b = w.drewN c := ⟨a + b, by simp [World.drewN, Nat.add_assoc]⟩
/-- What only reads, inside a region that draws, too. -/
theorem two_counts {Di : DiP} (C : Dsk Di) (CC : DCounts Di) {w0 w : World} {d r : Nat} {s t : Sk} {F0 G0 F20 G20 X : Nat → Prop} (h : Two Di w0 F0 G0 F20 G20 X w d r s t) (x y z : Nat) (hx : x = s.reads ∧ y = s.writes ∧ z = s.flushes) :
    Calls Try.prog 52 #[.pointer (some ⟨d, 0, none⟩)] w fun e w' => e = .returned (.tuple #[.int .i64 (x : Int), .int .i64 (y : Int), .int .i64 (z : Int)]) ∧ ∃ n, w' = w.drewN n := by
  obtain ⟨rfl, rfl, rfl⟩ := hx
  obtain ⟨F, G, F2, G2, h1, -⟩ := h
  exact CC w d F G s h1
theorem two_dead {Di : DiP} (C : Dsk Di) (CD : DDead Di) {w0 w : World} {d r : Nat} {s t : Sk} {F0 G0 F20 G20 X : Nat → Prop} (h : Two Di w0 F0 G0 F20 G20 X w d r s t) (k : Nat) (x : Bool) (hx : x = s.dead) :
    Calls Try.prog 14 #[.pointer (some ⟨d, 0, none⟩)] (w.drewN k) fun e w' => e = .returned (.bool x) ∧ ∃ n, w' = w.drewN n := by
  obtain ⟨F, G, F2, G2, h1, -⟩ := h
  exact (CD (w.drewN k) d F G s x (C.draws h1 k) hx).mono fun e w' ⟨e1, n, e2⟩ => ⟨e1, by rw [e2]; exact drewN_more w k n⟩
theorem two_wait {Di : DiP} (C : Dsk Di) {w0 w : World} {d r : Nat} {s t : Sk} {F0 G0 F20 G20 X : Nat → Prop} (h : Two Di w0 F0 G0 F20 G20 X w d r s t) (k x : Nat) (hx : x = s.W.length) :
    Calls Try.prog 17 #[.pointer (some ⟨d, 0, none⟩)] (w.drewN k) fun e w' => e = .returned (.int .i64 (x : Int)) ∧ ∃ n, w' = w.drewN n := by
  obtain ⟨F, G, F2, G2, h1, -⟩ := h
  exact (C.waitB (w.drewN k) d F G s x (C.draws h1 k) hx).mono fun e w' ⟨e1, n, e2⟩ => ⟨e1, by rw [e2]; exact drewN_more w k n⟩
theorem two_len {Di : DiP} (C : Dsk Di) (CL : DLen Di) {w0 w : World} {d r : Nat} {s t : Sk} {F0 G0 F20 G20 X : Nat → Prop} (h : Two Di w0 F0 G0 F20 G20 X w d r s t) (k x : Nat) (hx : x = s.B.length / 128) :
    Calls Try.prog 53 #[.pointer (some ⟨d, 0, none⟩)] (w.drewN k) fun e w' => e = .returned (.int .i64 (x : Int)) ∧ ∃ n, w' = w.drewN n := by
  obtain ⟨F, G, F2, G2, h1, -⟩ := h
  exact (CL (w.drewN k) d F G s x (C.draws h1 k) hx).mono fun e w' ⟨e1, n, e2⟩ => ⟨e1, by rw [e2]; exact drewN_more w k n⟩
theorem two_rlen {Di : DiP} (C : Dsk Di) {w0 w : World} {d r : Nat} {s t : Sk} {F0 G0 F20 G20 X : Nat → Prop} (h : Two Di w0 F0 G0 F20 G20 X w d r s t) (k x : Nat) (hx : x = t.B.length / 128) :
    Calls Try.prog 54 #[.pointer (some ⟨r, 0, none⟩)] (w.drewN k) fun e w' => e = .returned (.int .i64 (x : Int)) ∧ ∃ n, w' = w.drewN n := by
  obtain ⟨F, G, F2, G2, -, h2, -⟩ := h
  exact (rdlen_any (w.drewN k) r F2 G2 t (h2.keep (X := fun _ => False) ⟨rfl, rfl, rfl, Nat.le_refl _, fun _ _ _ => rfl⟩ (fun _ _ h => h)) x hx).mono fun e w' ⟨e1, e2⟩ => ⟨e1, k, e2.symm⟩
/-- A row of X was turned. -/
theorem Two.mineV {Di : DiP} (C : Dsk Di) {w0 w w' : World} {d r : Nat} {s t : Sk} {F0 G0 F20 G20 X : Nat → Prop} (h : Two Di w0 F0 G0 F20 G20 X w d r s t) (v : Value) (hk : Kept (fun k => v.ownBlock = some k) w w') (hv : ∀ k, v.ownBlock = some k → X k ∧ w0.heap.size ≤ k) : Two Di w0 F0 G0 F20 G20 X w' d r s t := by
  cases e : v.ownBlock with
  | none => exact h.keep C (hk.mono (fun k _ f => by rw [e] at f; cases f)) (fun k f => .inl f)
  | some g => exact h.mine C g (hk.mono (fun k _ f => by rw [e] at f; cases f; rfl)) (hv g e).2 (hv g e).1

end Go.Proofs.Ytjmeneddhalodaa

/- 'play': the same calls on both disks answer alike. -/
namespace Go.Proofs.Ytjmeneddhalodaa
set_option linter.unusedVariables false
set_option linter.unusedSimpArgs false
open Go.RowKit Dg

/-- A call, as plain data. -/
structure Act1 where
  do_ : Int
  i : Int
  n : Int
  B : List Nat
  K : List Bool
/-- One call in memory, all of it below B0. -/
def ActAt (w : World) (B0 : Nat) (a : Option Addr) (j : Nat) (x : Act1) : Prop := ∃ (b off : Nat) (ba : Option Addr) (bc : Nat) (ka : Option Addr) (kc : Nat), a = some ⟨b, off, none⟩ ∧ b < B0 ∧
  (w.cell? ⟨b, off + j * 5, none⟩ = some (.int .i64 x.do_) ∧ w.cell? ⟨b, off + j * 5 + 1, none⟩ = some (.int .i64 x.i) ∧ w.cell? ⟨b, off + j * 5 + 2, none⟩ = some (.int .i64 x.n) ∧ w.cell? ⟨b, off + j * 5 + 3, none⟩ = some (.slice ba x.B.length bc) ∧ w.cell? ⟨b, off + j * 5 + 4, none⟩ = some (.slice ka x.K.length kc)) ∧
  (I64 x.do_ ∧ I64 x.i ∧ I64 x.n) ∧ (Bs w ba bc x.B ∧ (∀ y ∈ x.B, y < 256) ∧ (x.B ≠ [] → ∀ y, ba = some y → y.block < B0)) ∧ (BlAt w ka x.K ∧ (x.K ≠ [] → ∀ y, ka = some y → y.block < B0) ∧ x.K.length ≤ kc ∧ kc ≤ 9223372036854775807)
/-- Calls in memory. -/
def ActsK (w : World) (B0 : Nat) (a : Option Addr) (L : List Act1) : Prop := ∀ j x, L[j]? = some x → ActAt w B0 a j x
theorem ActAt.kept {w w' : World} {B0 : Nat} {a : Option Addr} {j : Nat} {x : Act1} (h : ActAt w B0 a j x) (hB : B0 ≤ w.heap.size) {F : Nat → Prop} (hk : Kept F w w') (hF : ∀ k, k < B0 → ¬ F k) : ActAt w' B0 a j x := by
  obtain ⟨b, off, ba, bc, ka, kc, h1, h2, ⟨c0, c1, c2, c3, c4⟩, h3, ⟨h4, h5, h6⟩, h7, h8, h9⟩ := h
  refine ⟨b, off, ba, bc, ka, kc, h1, h2, ⟨?_, ?_, ?_, ?_, ?_⟩, h3, ⟨h4.kept hk (fun hne k e => ?_), h5, h6⟩, h7.kept hk (fun hne y hy => hF _ (h8 hne y hy)), h8, h9⟩
  · rw [hk.cell (by omega) (hF b h2)]; exact c0
  · rw [hk.cell (by omega) (hF b h2)]; exact c1
  · rw [hk.cell (by omega) (hF b h2)]; exact c2
  · rw [hk.cell (by omega) (hF b h2)]; exact c3
  · rw [hk.cell (by omega) (hF b h2)]; exact c4
  · cases ha : ba with
    | none => rw [ha] at e; cases e
    | some y => rw [ha] at e; cases e; exact hF _ (h6 hne y ha)
/-- How often it was used. -/
def Sk.used (s : Sk) (c : Nat) : Prop := s.reads ≤ c ∧ s.writes ≤ c ∧ s.flushes ≤ c ∧ s.W.length ≤ c
theorem Sk.used.up {s : Sk} {c c' : Nat} (h : s.used c) (hc : c ≤ c') : s.used c' := ⟨Nat.le_trans h.1 hc, Nat.le_trans h.2.1 hc, Nat.le_trans h.2.2.1 hc, Nat.le_trans h.2.2.2 hc⟩
theorem Sk.used.arm {s : Sk} {c : Nat} (h : s.used c) : s.arm.used c := by unfold Sk.arm; split <;> exact h
theorem Sk.used.read {s : Sk} {c : Nat} (h : s.used c) (i : Int) : (s.readS i).used (c + 1) := by
  unfold Sk.readS
  split
  · exact ⟨Nat.add_le_add_right h.1 1, Nat.le_succ_of_le h.2.1, Nat.le_succ_of_le h.2.2.1, Nat.le_succ_of_le h.2.2.2⟩
  · exact h.up (Nat.le_succ _)
theorem Sk.used.write {s : Sk} {c : Nat} (h : s.used c) (i : Int) (b : List Nat) : (s.writeS i b).used (c + 1) := by
  unfold Sk.writeS
  split
  · exact h.up (Nat.le_succ _)
  · split
    · exact h.arm.up (Nat.le_succ _)
    · have h1 := s.arm_counts
      exact ⟨by show s.arm.reads ≤ _; rw [h1.1]; exact Nat.le_succ_of_le h.1, Nat.add_le_add_right h.2.1 1, by show s.arm.flushes ≤ _; rw [h1.2.2]; exact Nat.le_succ_of_le h.2.2.1, by show (s.W ++ _).length ≤ _; rw [List.length_append]; exact Nat.add_le_add_right h.2.2.2 1⟩
theorem Sk.used.flush {s : Sk} {c : Nat} (h : s.used c) : s.flushS.used (c + 1) := by
  unfold Sk.flushS
  split
  · exact h.arm.up (Nat.le_succ _)
  · have h1 := s.arm_counts
    exact ⟨by show s.arm.reads ≤ _; rw [h1.1]; exact Nat.le_succ_of_le h.1, by show s.arm.writes ≤ _; rw [h1.2.1]; exact Nat.le_succ_of_le h.2.1, Nat.add_le_add_right h.2.2.1 1, Nat.zero_le _⟩
theorem Sk.used.stop {s : Sk} {c : Nat} (h : s.used c) (a : Int) : (s.stopS a).used (c + 1) := Sk.used.up (s := s.stopS a) h (Nat.le_succ _)
theorem Sk.used.crash {s : Sk} {c : Nat} (h : s.used c) (l : List Bool) : (s.crashS l).used (c + 1) := ⟨Nat.le_succ_of_le h.1, Nat.le_succ_of_le h.2.1, Nat.le_succ_of_le h.2.2.1, Nat.zero_le _⟩
theorem Sk.used.poke {s : Sk} {c : Nat} (h : s.used c) (i dg : Int) : (s.pokeS i dg).used (c + 1) := by
  unfold Sk.pokeS
  split
  · exact ⟨Nat.le_succ_of_le h.1, Nat.le_succ_of_le h.2.1, Nat.le_succ_of_le h.2.2.1, by show (s.W.map _).length ≤ _; rw [List.length_map]; exact Nat.le_succ_of_le h.2.2.2⟩
  · exact h.up (Nat.le_succ _)
set_option maxRecDepth 100000 in
set_option maxHeartbeats 1000000 in
theorem spoil_none (w : World) :
    Calls Try.prog 33 #[.slice none 0 0] w fun e w' => e = .returned (.tuple #[]) ∧ w = w' := by
  go_enter Try.func33, Try.ntmps33
  go_wp2
  go_loopw [10] (fun i wr => i = .int .i64 0 ∧ w = wr) (fun i _ => 0)
  case atStart => exact ⟨rfl, rfl⟩
  case round =>
    obtain ⟨rfl, rfl⟩ := hrel
    go_wp2
    go_end0
    exact ⟨rfl, rfl⟩
/-- Spoil of a row that is whole. -/
theorem spoil_whole (w : World) (base : Nat) (v : Value) (l : List Nat) (h : WholeB w base v l) :
    Calls Try.prog 33 #[v] w fun e w' => e = .returned (.tuple #[]) ∧ Kept (fun k => v.ownBlock = some k) w w' := by
  rcases h with ⟨rfl, rfl⟩ | ⟨g, X, rfl, hb, hr, ht, hl, hm⟩
  · refine (spoil_none w).mono ?_
    rintro e w' ⟨rfl, rfl⟩
    exact ⟨rfl, Kept.refl _ _⟩
  · refine (spoil_row w g X.length l.length (u8s X) hr (fun u hu => ?_) (by show _ = _; simp) (by unfold maxLen at hm; omega) hl).mono ?_
    · obtain ⟨x, -, rfl⟩ := List.mem_map.1 hu
      exact ⟨_, rfl⟩
    · rintro e w' ⟨rfl, hk⟩
      exact ⟨rfl, hk.mono (fun k _ e => by rw [e]; rfl)⟩

end Go.Proofs.Ytjmeneddhalodaa

/- A slice of calls with slices inside that came in. -/
namespace Go.Proofs.Ytjmeneddhalodaa
set_option linter.unusedVariables false
set_option linter.unusedSimpArgs false
open Go.ChangeShapes Go.WideShapes Go.ChangeAt Go.RowKit Go.Deep Dg

instance : Inhabited Act1 := ⟨⟨0, 0, 0, [], []⟩⟩
theorem Try.cellsAct : Try.prog.cellsOf 84 = 5 := by kernel_rfl
theorem Try.cellsI : Try.prog.cellsOf 3 = 1 := by kernel_rfl
theorem Try.cellsBy : Try.prog.cellsOf 30 = 1 := by kernel_rfl
theorem Try.cellsBo : Try.prog.cellsOf 22 = 1 := by kernel_rfl
theorem cells5_of {w : World} {base : Nat} {a : Addr} {cs : List Value} (h : w.cells? base a 5 = some cs) : ∃ x y z u v, cs = [x, y, z, u, v] ∧ w.cell? a = some x ∧ w.cell? (a.add 1) = some y ∧ w.cell? (a.add 2) = some z ∧ w.cell? (a.add 3) = some u ∧ w.cell? (a.add 4) = some v := by
  unfold World.cells? at h
  split at h
  · have e : List.range 5 = [0, 1, 2, 3, 4] := by decide
    rw [e] at h
    simp only [List.mapM_cons, List.mapM_nil, Option.bind_eq_bind, Option.pure_def] at h
    have e0 : a.add 0 = a := by simp [Addr.add]
    rw [e0] at h
    cases h0 : w.cell? a with
    | none => simp [h0] at h
    | some x =>
      cases h1 : w.cell? (a.add 1) with
      | none => simp [h0, h1] at h
      | some y =>
        cases h2 : w.cell? (a.add 2) with
        | none => simp [h0, h1, h2] at h
        | some z =>
          cases h3 : w.cell? (a.add 3) with
          | none => simp [h0, h1, h2, h3] at h
          | some u =>
            cases h4 : w.cell? (a.add 4) with
            | none => simp [h0, h1, h2, h3, h4] at h
            | some v =>
              simp [h0, h1, h2, h3, h4] at h
              exact ⟨x, y, z, u, v, h.symm, rfl, rfl, rfl, rfl, rfl⟩
  · cases h
/-- The bytes of a row that came in. -/
theorem IsRow.all {w : World} {a : Option Addr} {len cap : Nat} {zs : List Int} (hr : IsRow .u8 w a len cap zs) : ∃ l : List Nat, l.length = len ∧ (∀ x ∈ l, x < 256) ∧ Bs w a cap l ∧ (l ≠ [] → ∀ y, a = some y → y.block < w.heap.size) := by
  obtain ⟨l, h1, h2, h3, -⟩ := Bs.of_row (n := len) hr
  refine ⟨l, by omega, h2, h3, fun hne y hy => ?_⟩
  exact SlAt.lt h3.at_ hne y.block (by rw [hy]; rfl)
set_option maxRecDepth 100000 in
theorem open_actsK {H : Type} {enc : TypeId × Value → H} {W : World} {a : Option Addr} {len cap : Nat} {d : DataW H} {p : List MemPlace}
    (h : DataW.Trod enc Try.prog W 0 (fun _ => true) true 49 (.slice a len cap) d p) : len ≤ maxLen ∧ ∃ L : List Act1, L.length = len ∧ ActsK W W.heap.size a L := by
  obtain ⟨fuel, hf⟩ := h
  rcases open_slice Try.underlying49 hf with ⟨hcs, _⟩ | ⟨x, l, c, m, n, D, Pl, hcs, _, hl, hm, hmm, _, hcell⟩
  · simp [Value.cells] at hcs
    obtain ⟨rfl, rfl, rfl⟩ := hcs
    exact ⟨by decide, [], rfl, fun j x hx => by simp at hx⟩
  · simp [Value.cells] at hcs
    obtain ⟨rfl, rfl, rfl⟩ := hcs
    refine ⟨by omega, ?_⟩
    have hlm : len ≤ m := by rw [hmm]; split <;> omega
    have key : ∀ i, i < len → ∃ t : Act1, ActAt W W.heap.size (some x) i t := by
      intro i hi
      have hx : x.spot = none := by
        obtain ⟨cs0, hc0, _⟩ := hcell 0 (by omega)
        rw [Try.cellsAct] at hc0
        obtain ⟨_, _, _, _, _, _, h0, _, _⟩ := cells5_of hc0
        have := spot_of_cell h0
        simpa [Addr.add] using this
      obtain ⟨b, off, s⟩ := x
      simp at hx
      subst hx
      obtain ⟨cs, hc, ht⟩ := hcell i (by omega)
      rw [Try.cellsAct] at hc
      obtain ⟨y0, y1, y2, y3, y4, rfl, h0, h1, h2, h3, h4⟩ := cells5_of hc
      have hadd : (⟨b, off, none⟩ : Addr).add (i * 5) = ⟨b, off + i * 5, none⟩ := by simp [Addr.add]
      rw [hadd] at h0 h1 h2 h3 h4
      have ha : ∀ k, (⟨b, off + i * 5, none⟩ : Addr).add k = ⟨b, off + i * 5 + k, none⟩ := fun k => by simp [Addr.add]
      rw [ha] at h1 h2 h3 h4
      obtain ⟨xs, n', _, _, _, hxl, hff⟩ := DataW.trod_struct Try.underlying84 ht
      have g0 : DataW.trod enc Try.prog W 0 (fun _ => true) true n' 3 (List.take (Try.prog.cellsOf 3) (List.drop 0 [y0, y1, y2, y3, y4])) = xs[0]? := hff 0 _ rfl
      have g1 : DataW.trod enc Try.prog W 0 (fun _ => true) true n' 3 (List.take (Try.prog.cellsOf 3) (List.drop 1 [y0, y1, y2, y3, y4])) = xs[1]? := hff 1 _ rfl
      have g2 : DataW.trod enc Try.prog W 0 (fun _ => true) true n' 3 (List.take (Try.prog.cellsOf 3) (List.drop 2 [y0, y1, y2, y3, y4])) = xs[2]? := hff 2 _ rfl
      have g3 : DataW.trod enc Try.prog W 0 (fun _ => true) true n' 30 (List.take (Try.prog.cellsOf 30) (List.drop 3 [y0, y1, y2, y3, y4])) = xs[3]? := hff 3 _ rfl
      have g4 : DataW.trod enc Try.prog W 0 (fun _ => true) true n' 22 (List.take (Try.prog.cellsOf 22) (List.drop 4 [y0, y1, y2, y3, y4])) = xs[4]? := hff 4 _ rfl
      have hx5 : xs.length = 5 := hxl
      match xs, hx5 with
      | [z0, z1, z2, z3, z4], _ =>
        simp only [List.getElem?_cons_zero, List.getElem?_cons_succ] at g0 g1 g2 g3 g4
        rw [Try.cellsI] at g0 g1 g2
        rw [Try.cellsBy] at g3
        rw [Try.cellsBo] at g4
        obtain ⟨n0, e0, _, w0⟩ := DataW.trod_int Try.underlying3 g0
        obtain ⟨n1, e1, _, w1⟩ := DataW.trod_int Try.underlying3 g1
        obtain ⟨n2, e2, _, w2⟩ := DataW.trod_int Try.underlying3 g2
        simp at e0 e1 e2
        subst e0 e1 e2
        have k3 : ∃ ba bl bc zs, y3 = .slice ba bl bc ∧ IsRow .u8 W ba bl bc zs := by
          rcases open_ints Try.underlying30 Try.underlying5 (by kernel_rfl) g3 with ⟨hcs, _⟩ | ⟨x', l', c', zs, hcs, _, hl', hm', hz', _, hcell', hwz'⟩
          · simp at hcs
            exact ⟨none, 0, 0, [], hcs, .inl ⟨rfl, rfl, rfl, rfl⟩⟩
          · simp at hcs
            exact ⟨some x', l', c', zs, hcs, .inr ⟨_, rfl, hl', hm', by simpa using hz', hcell', hwz'⟩⟩
        have k4 : ∃ (ka : Option Addr) (kl kc : Nat) (K : List Bool), y4 = .slice ka kl kc ∧ K.length = kl ∧ BlAt W ka K ∧ kl ≤ kc ∧ kc ≤ maxLen := by
          rcases open_bools Try.underlying22 Try.underlying4 (by kernel_rfl) g4 with ⟨hcs, _⟩ | ⟨x', l', c', B, hcs, _, hl', hm', _, hcell'⟩
          · simp at hcs
            exact ⟨none, 0, 0, [], hcs, rfl, BlAt.nil _ _, by decide, by decide⟩
          · simp at hcs
            refine ⟨some x', l', c', (List.range l').map B, hcs, by simp, fun j u hu => ?_, hl', hm'⟩
            rw [List.getElem?_map] at hu
            obtain ⟨k, hk, rfl⟩ := Option.map_eq_some_iff.1 hu
            have hjk : j < l' ∧ k = j := by
              rw [List.getElem?_eq_some_iff] at hk
              obtain ⟨h5, h6⟩ := hk
              simp at h5 h6
              exact ⟨h5, h6.symm⟩
            obtain ⟨hj, rfl⟩ := hjk
            have hsp : x'.spot = none := by
              have := spot_of_cell (hcell' 0 (by omega))
              simpa [Addr.add] using this
            obtain ⟨b', off', s'⟩ := x'
            simp at hsp
            subst hsp
            have e := hcell' k (by omega)
            have hadd' : (⟨b', off', none⟩ : Addr).add k = ⟨b', off' + k, none⟩ := by simp [Addr.add]
            rw [hadd'] at e
            exact ⟨b', off', rfl, e⟩
        obtain ⟨ba, bl, bc, zs, rfl, hrow⟩ := k3
        obtain ⟨ka, kl, kc, K, rfl, hKl, hKB, hk1, hk2⟩ := k4
        obtain ⟨l, hll, h256, hBs, hBx⟩ := hrow.all
        refine ⟨⟨n0, n1, n2, l, K⟩, b, off, ba, bc, ka, kc, rfl, World.block_lt_of_cell? W _ h0, ⟨h0, h1, h2, by rw [hll]; exact h3, by rw [hKl]; exact h4⟩, ⟨wf_i64 w0, wf_i64 w1, wf_i64 w2⟩, ⟨hBs, h256, hBx⟩, hKB, fun hne y hy => hKB.lt hne y hy, by rw [hKl]; exact hk1, by unfold maxLen at hk2; omega⟩
    obtain ⟨f, hf'⟩ := choose_lt key
    refine ⟨(List.range len).map f, by simp, fun j t ht => ?_⟩
    rw [List.getElem?_map] at ht
    obtain ⟨k, hk, rfl⟩ := Option.map_eq_some_iff.1 ht
    rw [List.getElem?_eq_some_iff] at hk
    obtain ⟨h5, h6⟩ := hk
    simp at h5 h6
    subst h6
    exact hf' j h5

end Go.Proofs.Ytjmeneddhalodaa

/- A slice of bools that came in. -/
namespace Go.Proofs.Ytjmeneddhalodaa
set_option linter.unusedVariables false
set_option linter.unusedSimpArgs false
open Go.ChangeShapes Go.WideShapes Go.ChangeAt Go.RowKit Go.Deep Dg

theorem open_boolsB {H : Type} {enc : TypeId × Value → H} {W : World} {a : Option Addr} {len cap : Nat} {d : DataW H} {p : List MemPlace}
    (h : DataW.Trod enc Try.prog W 0 (fun _ => true) true 22 (.slice a len cap) d p) : ∃ K : List Bool, K.length = len ∧ BlAt W a K ∧ len ≤ cap ∧ cap ≤ maxLen := by
  obtain ⟨fuel, hf⟩ := h
  rcases open_bools Try.underlying22 Try.underlying4 (by kernel_rfl) hf with ⟨hcs, _⟩ | ⟨x', l', c', B, hcs, _, hl', hm', _, hcell'⟩
  · simp [Value.cells] at hcs
    obtain ⟨rfl, rfl, rfl⟩ := hcs
    exact ⟨[], rfl, BlAt.nil _ _, by decide, by decide⟩
  · simp [Value.cells] at hcs
    obtain ⟨rfl, rfl, rfl⟩ := hcs
    refine ⟨(List.range len).map B, by simp, fun j u hu => ?_, hl', hm'⟩
    rw [List.getElem?_map] at hu
    obtain ⟨k, hk, rfl⟩ := Option.map_eq_some_iff.1 hu
    have hjk : j < len ∧ k = j := by
      rw [List.getElem?_eq_some_iff] at hk
      obtain ⟨h5, h6⟩ := hk
      simp at h5 h6
      exact ⟨h5, h6.symm⟩
    obtain ⟨hj, rfl⟩ := hjk
    have hsp : x'.spot = none := by
      have := spot_of_cell (hcell' 0 (by omega))
      simpa [Addr.add] using this
    obtain ⟨b', off', s'⟩ := x'
    simp at hsp
    subst hsp
    have e := hcell' k (by omega)
    have hadd' : (⟨b', off', none⟩ : Addr).add k = ⟨b', off' + k, none⟩ := by simp [Addr.add]
    rw [hadd'] at e
    exact ⟨b', off', rfl, e⟩

end Go.Proofs.Ytjmeneddhalodaa
