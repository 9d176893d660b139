/- The texts DkMem, DkRef1, DkRef2, DkRef3, DkRef4, Bools, DkRef5, AppCells, one behind the other. -/
import Derived.Test.YtjmeneddhalodaaPart02
import Derived.Test.YtjmeneddhalodaaPart01
import Derived.Laws.AppendOwnNone

/- The document's own disk in memory. -/
namespace Go.Proofs.Ytjmeneddhalodaa
set_option linter.unusedVariables false
set_option linter.unusedSimpArgs false
open Go.RowKit Dg

/-- A set of blocks that grew by new ones alone. -/
def Sub (A B : Nat → Prop) (n : Nat) : Prop := ∀ k, A k → B k ∨ n ≤ k
theorem Sub.refl (A : Nat → Prop) (n : Nat) : Sub A A n := fun _ h => .inl h
theorem Sub.trans {A B C : Nat → Prop} {n m : Nat} (h : Sub A B m) (k : Sub B C n) (hn : n ≤ m) : Sub A C n := fun i hi => by
  rcases h i hi with h1 | h1
  · exact k i h1
  · exact .inr (Nat.le_trans hn h1)
def Apart (A B : Nat → Prop) : Prop := ∀ k, A k → ¬ B k
theorem Apart.grow {A A' B : Nat → Prop} {n : Nat} (h : Apart A B) (hA : Sub A' A n) (hB : ∀ k, B k → k < n) : Apart A' B := fun k h1 h2 => by
  rcases hA k h1 with h3 | h3
  · exact h k h3 h2
  · have := hB k h2; omega
theorem Apart.grow' {A B B' : Nat → Prop} {n : Nat} (h : Apart A B) (hB : Sub B' B n) (hA : ∀ k, A k → k < n) : Apart A B' := fun k h1 h2 => by
  rcases hB k h2 with h3 | h3
  · exact h k h1 h3
  · have := hA k h1; omega

/-- The cells of writes that wait: the sector, and where its bytes lie. -/
def cellsW : List (Nat × List Nat) → List (Nat × Nat) → List Value
  | p :: W, d :: D => .int .i64 (p.1 : Int) :: .slice (some ⟨d.1, 0, none⟩) 128 d.2 :: cellsW W D
  | _, _ => []
theorem length_cellsW : ∀ (W : List (Nat × List Nat)) (D : List (Nat × Nat)), D.length = W.length → (cellsW W D).length = W.length * 2
  | [], [], _ => rfl
  | p :: W, d :: D, h => by
    have := length_cellsW W D (by simpa using h)
    simp only [cellsW, List.length_cons, this]
    omega
  | [], d :: D, h => by simp at h
  | p :: W, [], h => by simp at h
theorem cellsW_get : ∀ (W : List (Nat × List Nat)) (D : List (Nat × Nat)) (j : Nat) (p : Nat × List Nat) (d : Nat × Nat), W[j]? = some p → D[j]? = some d → (cellsW W D)[j * 2]? = some (.int .i64 (p.1 : Int)) ∧ (cellsW W D)[j * 2 + 1]? = some (.slice (some ⟨d.1, 0, none⟩) 128 d.2)
  | [], _, j, p, d, h, _ => by simp at h
  | _ :: _, [], j, p, d, _, h => by simp at h
  | q :: W, e :: D, 0, p, d, h, h' => by
    simp at h h'
    subst h h'
    exact ⟨rfl, rfl⟩
  | q :: W, e :: D, j + 1, p, d, h, h' => by
    have := cellsW_get W D j p d (by simpa using h) (by simpa using h')
    rw [show (j + 1) * 2 = j * 2 + 2 by omega]
    exact this
theorem cellsW_append : ∀ (W : List (Nat × List Nat)) (D : List (Nat × Nat)) (p : Nat × List Nat) (d : Nat × Nat), D.length = W.length → cellsW (W ++ [p]) (D ++ [d]) = cellsW W D ++ [.int .i64 (p.1 : Int), .slice (some ⟨d.1, 0, none⟩) 128 d.2]
  | [], [], p, d, _ => rfl
  | q :: W, e :: D, p, d, h => by
    have := cellsW_append W D p d (by simpa using h)
    simp only [List.cons_append, cellsW, this]
  | [], d :: D, _, _, h => by simp at h
  | p :: W, [], _, _, h => by simp at h
theorem cellsW_one : ∀ (W : List (Nat × List Nat)) (D : List (Nat × Nat)), ∀ u ∈ cellsW W D, u.oneCell' = true
  | [], D, u, h => by cases D <;> simp [cellsW] at h
  | _ :: _, [], u, h => by simp [cellsW] at h
  | p :: W, d :: D, u, h => by
    simp only [cellsW, List.mem_cons] at h
    rcases h with rfl | rfl | h
    · rfl
    · rfl
    · exact cellsW_one W D u h

/-- A disk of the document's: its fields, its bytes, its writes. -/
structure RkIs (w : World) (r gB cB : Nat) (vW : Value) (at_ : Int) (D : List (Nat × Nat)) (s : Sk) : Prop where
  box : w.heap[r]? = some (.cells #[.slice (some ⟨gB, 0, none⟩) s.B.length cB, vW, .bool s.dead, .bool s.stop.isSome, .int .i64 at_, .int .i64 (s.reads : Int), .int .i64 (s.writes : Int), .int .i64 (s.flushes : Int)] 82 (0, 0))
  bs : OwnBytes w 0 (.slice (some ⟨gB, 0, none⟩) s.B.length cB) s.B
  ws : w.ownsRow 0 96 2 vW s.W.length (cellsW s.W D)
  dl : D.length = s.W.length
  ds : ∀ (j : Nat) (p : Nat × List Nat) (d : Nat × Nat), s.W[j]? = some p → D[j]? = some d → OwnBytes w 0 (.slice (some ⟨d.1, 0, none⟩) p.2.length d.2) p.2
  at1 : ∀ k : Nat, s.stop = some k → at_ = (k : Int)
  at2 : -(s.writes : Int) ≤ at_ ∧ at_ ≤ 9223372036854775807
  fine : s.Fine
  ne1 : r ≠ gB
  ne2 : vW.ownBlock ≠ some r ∧ vW.ownBlock ≠ some gB
  ne3 : ∀ d ∈ D, d.1 ≠ r ∧ d.1 ≠ gB ∧ vW.ownBlock ≠ some d.1
/-- It lies in blocks F that it may turn, and G that it reads. -/
def RkAt (w : World) (r : Nat) (F G : Nat → Prop) (s : Sk) : Prop :=
  ∃ (gB cB : Nat) (vW : Value) (at_ : Int) (D : List (Nat × Nat)), RkIs w r gB cB vW at_ D s ∧ (F r ∧ F gB ∧ ∀ k, vW.ownBlock = some k → F k) ∧ (∀ k, F k → G k) ∧ (∀ k, G k → k < w.heap.size) ∧ ∀ d ∈ D, G d.1 ∧ ¬ F d.1
theorem RkIs.kept {w w' : World} {r gB cB : Nat} {vW : Value} {at_ : Int} {D : List (Nat × Nat)} {s : Sk} {X : Nat → Prop} (h : RkIs w r gB cB vW at_ D s) (hk : Kept X w w') (h1 : ¬ X r) (h2 : ¬ X gB) (h3 : ∀ k, vW.ownBlock = some k → ¬ X k) (h4 : ∀ d ∈ D, ¬ X d.1) : RkIs w' r gB cB vW at_ D s :=
  { h with
    box := by rw [hk.block r (Array.getElem?_eq_some_iff.1 h.box).1 h1]; exact h.box
    bs := ownsRow_other h.bs hk (fun k e => by cases e; exact h2)
    ws := ownsRow_other h.ws hk h3
    ds := fun j p d hp hd => ownsRow_other (h.ds j p d hp hd) hk (fun k e => by cases e; exact h4 d (List.mem_of_getElem? hd)) }
theorem RkAt.keep {w w' : World} {r : Nat} {F G X : Nat → Prop} {s : Sk} (h : RkAt w r F G s) (hk : Kept X w w') (hX : ∀ k, G k → ¬ X k) : RkAt w' r F G s := by
  obtain ⟨gB, cB, vW, at_, D, h0, ⟨hF1, hF2, hF3⟩, hFG, hG, hD⟩ := h
  exact ⟨gB, cB, vW, at_, D, h0.kept hk (hX _ (hFG _ hF1)) (hX _ (hFG _ hF2)) (fun k e => hX _ (hFG _ (hF3 k e))) (fun d hd => hX _ (hD d hd).1), ⟨hF1, hF2, hF3⟩, hFG, fun k hk' => Nat.lt_of_lt_of_le (hG k hk') hk.size, hD⟩
theorem RkIs.cell {w : World} {r gB cB : Nat} {vW : Value} {at_ : Int} {D : List (Nat × Nat)} {s : Sk} (h : RkIs w r gB cB vW at_ D s) :
    w.cell? ⟨r, 0, none⟩ = some (.slice (some ⟨gB, 0, none⟩) s.B.length cB) ∧ w.cell? ⟨r, 1, none⟩ = some vW ∧ w.cell? ⟨r, 2, none⟩ = some (.bool s.dead) ∧ w.cell? ⟨r, 3, none⟩ = some (.bool s.stop.isSome) ∧ w.cell? ⟨r, 4, none⟩ = some (.int .i64 at_) ∧
    w.cell? ⟨r, 5, none⟩ = some (.int .i64 (s.reads : Int)) ∧ w.cell? ⟨r, 6, none⟩ = some (.int .i64 (s.writes : Int)) ∧ w.cell? ⟨r, 7, none⟩ = some (.int .i64 (s.flushes : Int)) := by
  simp [World.cell?, h.box]
theorem RkIs.froz {w : World} {r gB cB : Nat} {vW : Value} {at_ : Int} {D : List (Nat × Nat)} {s : Sk} (h : RkIs w r gB cB vW at_ D s) (o : Nat) : w.frozen? ⟨r, o, none⟩ = false := by
  simp [World.frozen?, h.box]
theorem RkIs.form {w : World} {r gB cB : Nat} {vW : Value} {at_ : Int} {D : List (Nat × Nat)} {s : Sk} (h : RkIs w r gB cB vW at_ D s) : ∃ a c, vW = .slice a s.W.length c ∧ (s.W.length = 0 ∨ ∃ g, a = some ⟨g, 0, none⟩) := by
  rcases h.ws.2 with ⟨rfl, hn⟩ | ⟨g, cap, cur, rfl, r⟩
  · exact ⟨none, 0, by rw [hn], .inl hn⟩
  · exact ⟨_, _, rfl, .inr ⟨g, rfl⟩⟩
/-- A cell of a row of which all cells are known, of any size. -/
theorem row_cell {w : World} {base : Nat} {e : TypeId} {size g n c j : Nat} {xs : List Value} {u : Value} (h : w.ownsRow base e size (.slice (some ⟨g, 0, none⟩) n c) n xs) (hu : xs[j]? = some u) : w.cell? ⟨g, j, none⟩ = some u ∧ w.frozen? ⟨g, j, none⟩ = false := by
  rcases h.2 with ⟨e1, _⟩ | ⟨g', cap', cur, hv, hgb, hh, hncap, hm, hcs, htake⟩
  · cases e1
  · cases hv
    refine ⟨?_, by simp [World.frozen?, hh]⟩
    rw [← htake, List.getElem?_take] at hu
    split at hu
    · simp [World.cell?, hh]
      simpa using hu
    · cases hu
/-- The j-th write that waits. -/
theorem RkIs.wait {w : World} {r gB cB : Nat} {vW : Value} {at_ : Int} {D : List (Nat × Nat)} {s : Sk} (h : RkIs w r gB cB vW at_ D s) {j : Nat} {p : Nat × List Nat} (hj : s.W[j]? = some p) :
    ∃ (g c : Nat) (d : Nat × Nat), vW = .slice (some ⟨g, 0, none⟩) s.W.length c ∧ D[j]? = some d ∧ w.cell? ⟨g, j * 2, none⟩ = some (.int .i64 (p.1 : Int)) ∧ w.cell? ⟨g, j * 2 + 1, none⟩ = some (.slice (some ⟨d.1, 0, none⟩) 128 d.2) ∧ w.frozen? ⟨g, j * 2 + 1, none⟩ = false ∧ OwnBytes w 0 (.slice (some ⟨d.1, 0, none⟩) p.2.length d.2) p.2 := by
  have hjl : j < s.W.length := (List.getElem?_eq_some_iff.1 hj).1
  have hd : D[j]? = some (D[j]'(by rw [h.dl]; exact hjl)) := List.getElem?_eq_getElem _
  obtain ⟨a, c, rfl, h0⟩ := h.form
  obtain ⟨g, rfl⟩ : ∃ g, a = some ⟨g, 0, none⟩ := by rcases h0 with h0 | h0; omega; exact h0
  obtain ⟨h1, h2⟩ := cellsW_get s.W D j p _ hj hd
  exact ⟨g, c, _, rfl, hd, (row_cell h.ws h1).1, (row_cell h.ws h2).1, (row_cell h.ws h2).2, h.ds j p _ hj hd⟩

end Go.Proofs.Ytjmeneddhalodaa

/- The document's own disk: New, Len, stopped, Stop. -/
namespace Go.Proofs.Ytjmeneddhalodaa
set_option linter.unusedVariables false
set_option linter.unusedSimpArgs false
open Go.RowKit Dg

theorem own0 {w : World} {base : Nat} {e : TypeId} {size : Nat} {v : Value} {n : Nat} {xs : List Value} (h : w.ownsRow base e size v n xs) : w.ownsRow 0 e size v n xs := ownsRow_base h (Nat.zero_le _)
set_option maxRecDepth 100000 in
set_option maxHeartbeats 1000000 in
theorem rdnew_any (w : World) (n : Nat) (h1 : 1 ≤ n) (h2 : n ≤ 4096) :
    Calls Try.prog 26 #[.int .i64 (n : Int)] w fun e w' => ∃ (r : Nat) (F G : Nat → Prop), e = .returned (.tuple #[.pointer (some ⟨r, 0, none⟩), .bool true]) ∧ RkAt w' r F G (newS n) ∧ (∀ k, G k → w.heap.size ≤ k) ∧ Below w.heap.size w w' := by
  obtain ⟨i0, hi, hz0, hz1, hz2⟩ := info_parts Try.info5
  obtain ⟨N, hN⟩ : ∃ N, N = n * 128 := ⟨_, rfl⟩
  have hNN : (n : Int) * 128 = (N : Int) := by omega
  have hNl : N ≤ 1000000 := by omega
  have HNN := hid_of hN
  clear hN
  go_enter Try.func26, Try.ntmps26
  go_wp2_with (at_make; refine wpList_make_full _ rfl _ _ 30 rfl w.heap.size 5 i0 (.int .u8 0) 1 Try.underlying30 hi hz0 hz1 _ _ _ _ N rfl rfl rfl rfl (by rw [hz2]; omega) (by unfold maxLen; omega) (Nat.le_refl _) ?_)
  intro w2 hown hgr
  have HB2 : Hid (Below w.heap.size w w2) := (Below.refl _ _).grown hgr (Nat.le_refl _) (fun k hk => by cases hk)
  have HO : Hid (w2.ownsRow w.heap.size 5 1 (.slice (some ⟨w.heap.size, 0, none⟩) N N) N (u8s (List.replicate N 0))) := by have e := made_zeros N; rw [Nat.mul_one] at e; rw [← e]; exact hown
  clear hown hgr
  go_wp2_with fail
  go_ret2
  have hs2 : w.heap.size < w2.heap.size := (World.ownsRow.lt HO.out _ rfl).2
  obtain ⟨w3, hw3⟩ : ∃ w3, w3 = w2.alloc (.cells #[.slice (some ⟨w.heap.size, 0, none⟩) N N, .slice none 0 0, .bool false, .bool false, .int .i64 0, .int .i64 0, .int .i64 0, .int .i64 0] 82) := ⟨_, rfl⟩
  have hk3 : Kept (fun _ => False) w2 w3 := by rw [hw3]; exact Kept.alloc _ _ _
  have hb3 : w3.heap[w2.heap.size]? = some (.cells #[.slice (some ⟨w.heap.size, 0, none⟩) N N, .slice none 0 0, .bool false, .bool false, .int .i64 0, .int .i64 0, .int .i64 0, .int .i64 0] 82 (0, 0)) := by rw [hw3]; exact heap_alloc_new w2 _
  have hs3 : w3.heap.size = w2.heap.size + 1 := by rw [hw3]; simp
  refine ⟨w2.heap.size, fun k => k = w2.heap.size ∨ k = w.heap.size, fun k => k = w2.heap.size ∨ k = w.heap.size, rfl, ⟨w.heap.size, N, .slice none 0 0, 0, [], ?_, ⟨.inl rfl, .inr rfl, fun k e => by cases e⟩, fun k h => h, ?_, fun d hd => by simp at hd⟩, fun k h => by omega, HB2.out.alloc (by omega) _⟩
  · have hl : (newS n).B.length = N := by simp [newS, HNN.out]
    have hB : (newS n).B = List.replicate N 0 := by simp [newS, HNN.out]
    have ho3 := own0 (ownsRow_other HO.out hk3 (fun _ _ h => h))
    rw [hw3] at hb3 ho3
    refine ⟨by rw [hl]; exact hb3, by unfold OwnBytes; rw [hl, hB]; exact ho3, World.ownsRow_nil _ _ _ _, rfl, fun j p d hp hd => by simp [newS] at hp, fun k hk => by simp [newS] at hk, by simp [newS], newS_fine h1 h2, by omega, ⟨by simp [Value.ownBlock], by simp [Value.ownBlock]⟩, fun d hd => by simp at hd⟩
  · intro k h
    rw [← hw3, hs3]
    omega
set_option maxRecDepth 100000 in
set_option maxHeartbeats 1000000 in
theorem rdnew_no (w : World) (n : Int) (h : ¬ (1 ≤ n ∧ n ≤ 4096)) :
    Calls Try.prog 26 #[.int .i64 n] w fun e w' => e = .returned (.tuple #[.pointer none, .bool false]) ∧ w = w' := by
  rcases (by omega : n < 1 ∨ (1 ≤ n ∧ 4096 < n)) with h1 | ⟨h1, h2⟩
  all_goals
    clear h
    go_enter Try.func26, Try.ntmps26
    go_wp2_with fail
    go_ret2
    exact ⟨rfl, rfl⟩
set_option maxRecDepth 100000 in
set_option maxHeartbeats 1000000 in
theorem rdlen_any (w : World) (r : Nat) (F G : Nat → Prop) (s : Sk) (h : RkAt w r F G s) (n : Nat) (hn : n = s.B.length / 128) :
    Calls Try.prog 54 #[.pointer (some ⟨r, 0, none⟩)] w fun e w' => e = .returned (.int .i64 (n : Int)) ∧ w = w' := by
  obtain ⟨gB, cB, vW, at_, D, h0, -⟩ := h
  obtain ⟨c0, -⟩ := h0.cell
  obtain ⟨N, hN⟩ : ∃ N, N = s.B.length := ⟨_, rfl⟩
  have hNl : N ≤ 524288 := by rw [hN]; exact h0.fine.le
  rw [← hN] at c0 hn
  have hq : (N : Int) / 128 = (n : Int) := by omega
  clear h0 hn hN
  go_enter Try.func54, Try.ntmps54
  go_wp2
  go_ret
  exact ⟨rfl, rfl⟩

/-- A field is written. -/
theorem RkIs.put {w : World} {r gB cB : Nat} {vW : Value} {at_ : Int} {D : List (Nat × Nat)} {s : Sk} (h : RkIs w r gB cB vW at_ D s) (o : Nat) (u : Value) (at' : Int) (s' : Sk) (hB : s'.B = s.B) (hW : s'.W = s.W)
    (hbox : (#[.slice (some ⟨gB, 0, none⟩) s.B.length cB, vW, .bool s.dead, .bool s.stop.isSome, .int .i64 at_, .int .i64 (s.reads : Int), .int .i64 (s.writes : Int), .int .i64 (s.flushes : Int)] : Array Value).setIfInBounds o u = #[.slice (some ⟨gB, 0, none⟩) s.B.length cB, vW, .bool s'.dead, .bool s'.stop.isSome, .int .i64 at', .int .i64 (s'.reads : Int), .int .i64 (s'.writes : Int), .int .i64 (s'.flushes : Int)])
    (h1 : ∀ k : Nat, s'.stop = some k → at' = (k : Int)) (h2 : -(s'.writes : Int) ≤ at' ∧ at' ≤ 9223372036854775807) : RkIs (w.setCell ⟨r, o, none⟩ u) r gB cB vW at' D s' := by
  have hk : Kept (fun k => k = r) w (w.setCell ⟨r, o, none⟩ u) := Kept.setCell _ _ _ rfl
  have hf : s'.Fine := ⟨by rw [hB]; exact h.fine.n, by rw [hB]; exact h.fine.b256, by rw [hB, hW]; exact h.fine.w⟩
  refine ⟨?_, by rw [hB]; exact ownsRow_other h.bs hk (fun k e => by cases e; exact fun e => h.ne1 e.symm), by rw [hW]; exact ownsRow_other h.ws hk (fun k e e2 => h.ne2.1 (by rw [e, e2])), by rw [hW]; exact h.dl, fun j p d hp hd => ?_, h1, h2, hf, h.ne1, h.ne2, h.ne3⟩
  · rw [heap_setCell_of h.box, hbox, hB]
  · rw [hW] at hp
    exact ownsRow_other (h.ds j p d hp hd) hk (fun k e => by cases e; exact (h.ne3 d (List.mem_of_getElem? hd)).1)
theorem RkAt.arms {w : World} {r : Nat} {F G : Nat → Prop} {s : Sk} (h : RkAt w r F G s) : s.Fine ∧ F r ∧ (∀ k, F k → G k) ∧ ∀ k, G k → k < w.heap.size := by
  obtain ⟨gB, cB, vW, at_, D, h0, ⟨hF1, -⟩, hFG, hG, -⟩ := h
  exact ⟨h0.fine, hF1, hFG, hG⟩
set_option maxRecDepth 100000 in
set_option maxHeartbeats 1000000 in
theorem rdstopped_any (w : World) (r : Nat) (F G : Nat → Prop) (s : Sk) (h : RkAt w r F G s) :
    Calls Try.prog 60 #[.pointer (some ⟨r, 0, none⟩)] w fun e w' => e = .returned (.bool s.arm.dead) ∧ RkAt w' r F G s.arm ∧ Kept F w w' := by
  obtain ⟨gB, cB, vW, at_, D, h0, h1, h2, h3, h4⟩ := h
  obtain ⟨c0, c1, c2, c3, c4, c5, c6, c7⟩ := h0.cell
  have f2 := h0.froz 2
  have H0 := hid_of h0
  have HR : Hid ((F r ∧ F gB ∧ ∀ k, vW.ownBlock = some k → F k) ∧ (∀ k, F k → G k) ∧ (∀ k, G k → k < w.heap.size) ∧ ∀ d ∈ D, G d.1 ∧ ¬ F d.1) := ⟨h1, h2, h3, h4⟩
  rcases hst : s.stop with _ | k
  · have e : s.arm = s := by unfold Sk.arm; rw [hst]; rfl
    rw [e]
    rw [hst] at c3
    change _ = some (Value.bool false) at c3
    clear h0 h1 h2 h3 h4 hst e
    go_enter Try.func60, Try.ntmps60
    go_wp2
    go_ret
    exact ⟨rfl, ⟨gB, cB, vW, at_, D, H0.out, HR.out⟩, Kept.refl _ _⟩
  · have ha := h0.at1 k hst
    rw [hst] at c3
    change _ = some (Value.bool true) at c3
    by_cases hk : k = 0
    · subst hk
      have e : s.arm = { s with dead := true } := by unfold Sk.arm; rw [hst]; rfl
      rw [e]
      rw [ha] at c4
      change _ = some (Value.int .i64 0) at c4
      have H1 : Hid (RkIs (w.setCell ⟨r, 2, none⟩ (.bool true)) r gB cB vW at_ D { s with dead := true }) := h0.put 2 _ at_ _ rfl rfl rfl h0.at1 h0.at2
      clear h0 h1 h2 h3 h4 hst e ha
      go_enter Try.func60, Try.ntmps60
      go_wp2
      go_ret
      exact ⟨rfl, ⟨gB, cB, vW, at_, D, H1.out, HR.out.1, HR.out.2.1, fun k hk => by simpa [World.setCell] using HR.out.2.2.1 k hk, HR.out.2.2.2⟩, Kept.setCell _ _ _ HR.out.1.1⟩
    · have e : s.arm = s := by unfold Sk.arm; rw [hst, if_neg (by simpa using hk)]
      rw [e]
      have hne : (at_ == 0) = false := beq_eq_false_iff_ne.2 (by rw [ha]; omega)
      clear h0 h1 h2 h3 h4 hst e ha
      go_enter Try.func60, Try.ntmps60
      go_wp2
      go_ret
      exact ⟨rfl, ⟨gB, cB, vW, at_, D, H0.out, HR.out⟩, Kept.refl _ _⟩
set_option maxRecDepth 100000 in
set_option maxHeartbeats 1000000 in
theorem rdstop_any (w : World) (r : Nat) (F G : Nat → Prop) (s : Sk) (h : RkAt w r F G s) (a : Int) (ha : I64 a) :
    Calls Try.prog 46 #[.pointer (some ⟨r, 0, none⟩), .int .i64 a] w fun e w' => e = .returned (.tuple #[]) ∧ RkAt w' r F G (s.stopS a) ∧ Kept F w w' := by
  obtain ⟨gB, cB, vW, at_, D, h0, h1, h2, h3, h4⟩ := h
  have f3 := h0.froz 3
  have f4 := h0.froz 4
  obtain ⟨c0, c1, c2, c3, c4, c5, c6, c7⟩ := h0.cell
  have HR : Hid ((F r ∧ F gB ∧ ∀ k, vW.ownBlock = some k → F k) ∧ (∀ k, F k → G k) ∧ (∀ k, G k → k < w.heap.size) ∧ ∀ d ∈ D, G d.1 ∧ ¬ F d.1) := ⟨h1, h2, h3, h4⟩
  obtain ⟨ha1, ha2⟩ := ha
  have H1 : Hid (∀ m : Int, m = (a.toNat : Int) → RkIs ((w.setCell ⟨r, 3, none⟩ (.bool true)).setCell ⟨r, 4, none⟩ (.int .i64 m)) r gB cB vW m D (s.stopS a)) := fun m hm => by
    have hk : Kept (fun k => k = r) w ((w.setCell ⟨r, 3, none⟩ (.bool true)).setCell ⟨r, 4, none⟩ (.int .i64 m)) := (Kept.setCell (F := fun k => k = r) _ _ _ rfl).trans (Kept.setCell _ _ _ rfl)
    refine ⟨?_, ownsRow_other h0.bs hk (fun k e => by cases e; exact fun e => h0.ne1 e.symm), ownsRow_other h0.ws hk (fun k e e2 => h0.ne2.1 (by rw [e, e2])), h0.dl, fun j p d hp hd => ownsRow_other (h0.ds j p d hp hd) hk (fun k e => by cases e; exact (h0.ne3 d (List.mem_of_getElem? hd)).1), fun k hk => ?_, ?_, s.stopS_fine h0.fine a, h0.ne1, h0.ne2, h0.ne3⟩
    · rw [heap_setCell_of (heap_setCell_of h0.box _)]
      rfl
    · have e : a.toNat = k := by simpa [Sk.stopS] using hk
      rw [hm, e]
    · rw [hm]
      exact ⟨by show -((s.writes : Nat) : Int) ≤ _; omega, by omega⟩
  have HK : Hid (∀ m : Value, Kept F w ((w.setCell ⟨r, 3, none⟩ (.bool true)).setCell ⟨r, 4, none⟩ m)) := fun m => (Kept.setCell (F := F) _ _ _ h1.1).trans (Kept.setCell _ _ _ h1.1)
  clear h0 h1 h2 h3 h4
  rcases (by omega : a < 0 ∨ 0 ≤ a) with hneg | hpos
  · go_enter Try.func46, Try.ntmps46
    go_wp2
    go_end0
    exact ⟨rfl, ⟨gB, cB, vW, 0, D, H1.out 0 (by omega), HR.out.1, HR.out.2.1, fun k hk => by simpa [World.setCell] using HR.out.2.2.1 k hk, HR.out.2.2.2⟩, HK.out _⟩
  · go_enter Try.func46, Try.ntmps46
    go_wp2
    go_end0
    exact ⟨rfl, ⟨gB, cB, vW, a, D, H1.out a (by omega), HR.out.1, HR.out.2.1, fun k hk => by simpa [World.setCell] using HR.out.2.2.1 k hk, HR.out.2.2.2⟩, HK.out _⟩

end Go.Proofs.Ytjmeneddhalodaa

/- The document's own disk: Read. -/
namespace Go.Proofs.Ytjmeneddhalodaa
set_option linter.unusedVariables false
set_option linter.unusedSimpArgs false
open Go.RowKit Dg

/-- b[lo:hi] of a row of bytes. -/
theorem slice_mid (g o n cap lo hi : Nat) (h1 : lo ≤ hi) (h2 : hi ≤ cap) (h3 : lo < cap) (W : World) : (Instr.sliceAt 30 (.slice (some ⟨g, o, none⟩) n cap) (some (.int .i64 (lo : Int))) (some (.int .i64 (hi : Int))) none).run Try.prog W = .ok (.slice (some ⟨g, o + lo, none⟩) (hi - lo) (cap - lo)) W := by
  obtain ⟨i0, hi0, hz0, hz1, hz2⟩ := info_parts Try.info5
  simp [Instr.sliceAt, Instr.slice, Instr.sliceBounds, Instr.sliceBound, asIntOf, run_underlying Try.underlying30, sizeOf, typeInfo, hi0, hz1, h1, h2, Addr.add]
  rw [if_neg (by omega)]
  by_cases e : lo = 0
  · subst e; rfl
  · rw [if_neg e]
theorem OwnBytes.nil0 (w : World) (n : Nat) : OwnBytes w n (.slice none 0 0) [] := World.ownsRow_nil _ _ _ _
theorem Bs.own {w : World} {base g c : Nat} {l : List Nat} (h : OwnBytes w base (.slice (some ⟨g, 0, none⟩) l.length c) l) : Bs w (some ⟨g, 0, none⟩) c l := by
  obtain ⟨a, cap, e, hb⟩ := OwnBytes.bs h
  cases e
  exact hb
/-- A part of a row of bytes. -/
theorem Bs.mid {w : World} {g c lo m : Nat} {l : List Nat} (h : Bs w (some ⟨g, 0, none⟩) c l) (hm : lo + m ≤ l.length) (h0 : 0 < m) : Bs w (some ⟨g, lo, none⟩) (c - lo) ((l.drop lo).take m) := by
  have h1 := h.lo lo (by omega)
  have hc := h.le
  unfold lowA at h1
  rw [if_neg (by omega)] at h1
  have e : (some (⟨g, 0, none⟩ : Addr)).map (·.add lo) = some ⟨g, lo, none⟩ := by simp [Addr.add]; exact fun e => e.symm
  rw [e] at h1
  refine ⟨?_, by simp; omega, fun e => by cases e⟩
  have h2 := h1.hi m (by simp; omega)
  have e2 : ((l.drop lo).take m).length = m := by simp; omega
  rw [e2]
  exact h2
set_option maxRecDepth 100000 in
set_option maxHeartbeats 4000000 in
theorem rdread_any (w : World) (r : Nat) (F G : Nat → Prop) (s : Sk) (h : RkAt w r F G s) (i : Int) (hi : I64 i) (hc : s.reads ≤ 1000000) (hWl : s.W.length ≤ 1000000) (R : List Nat × Int) (hR : R = s.readR i) :
    Calls Try.prog 44 #[.pointer (some ⟨r, 0, none⟩), .int .i64 i] w fun e w' => ∃ v, e = .returned (.tuple #[v, .int .i64 R.2]) ∧ OwnBytes w' w.heap.size v R.1 ∧ RkAt w' r F G (s.readS i) ∧ Kept F w w' := by
  obtain ⟨n, hn⟩ : ∃ n, n = s.B.length / 128 := ⟨_, rfl⟩
  have HL := hid_of (rdlen_any w r F G s h n hn)
  have HA := hid_of h
  obtain ⟨hi1, hi2⟩ := hi
  obtain ⟨s1, hs1⟩ : ∃ s1, s1 = s.readS i := ⟨_, rfl⟩
  rw [← hs1]
  by_cases hfit : s.fits i
  · obtain ⟨k, rfl, hk⟩ := hfit.nat
    have hroom := hfit.room
    rw [← hn] at hk
    unfold Sk.readR at hR
    rw [if_neg (fun x => x hfit)] at hR
    obtain ⟨gB, cB, vW, at_, D, h0, h1, h2, h3, h4⟩ := h
    obtain ⟨c0, c1, c2, c3, c4, c5, c6, c7⟩ := h0.cell
    rcases hd : s.dead with _ | _
    · have hs2 : s1 = { s with reads := s.reads + 1 } := by rw [hs1]; unfold Sk.readS; rw [if_pos ⟨hfit, hd⟩]
      rw [hd] at hR c2
      simp only [Bool.false_eq_true, if_false] at hR
      rw [Int.toNat_natCast] at hR
      have f5 := h0.froz 5
      obtain ⟨wa, wc, rfl, -⟩ := h0.form
      obtain ⟨M, hM⟩ : ∃ M, M = s.W.length := ⟨_, rfl⟩
      have hML : M ≤ 1000000 := by omega
      have hcr : s.reads ≤ 1000000 := hc
      have hbl : s.B.length ≤ 524288 := h0.fine.le
      have HFIN : Hid (R = (((lastW s.W k M).getD (sec s.B k)), 0)) := by show _ = _; rw [hR, hM]; rfl
      have H1 : Hid (RkIs (w.setCell ⟨r, 5, none⟩ (.int .i64 ((s.reads : Int) + 1))) r gB cB (.slice wa M wc) at_ D s1) := by rw [hs2, hM]; exact h0.put 5 _ at_ { s with reads := s.reads + 1 } rfl rfl rfl h0.at1 h0.at2
      have HW1 : Hid (s1.W = s.W ∧ s1.B = s.B) := by rw [hs2]; exact ⟨rfl, rfl⟩
      have HM1 : Hid (M = s1.W.length) := by show _ = _; rw [hs2, hM]
      have HK1 : Hid (Kept F w (w.setCell ⟨r, 5, none⟩ (.int .i64 ((s.reads : Int) + 1)))) := Kept.setCell _ _ _ h1.1
      have HR : Hid ((F r ∧ F gB ∧ ∀ k, (Value.slice wa M wc).ownBlock = some k → F k) ∧ (∀ k, F k → G k) ∧ (∀ k, G k → k < w.heap.size) ∧ ∀ d ∈ D, G d.1 ∧ ¬ F d.1) := by rw [hM]; exact ⟨h1, h2, h3, h4⟩
      rw [← hM] at c1
      have HEND : Hid (∀ w1 w2 v (b : List Nat), RkIs w1 r gB cB (.slice wa M wc) at_ D s1 → Kept F w w1 → w.heap.size ≤ w1.heap.size → OwnBytes w2 w1.heap.size v b → Kept (fun _ => False) w1 w2 → OwnBytes w2 w.heap.size v b ∧ RkAt w2 r F G s1 ∧ Kept F w w2) := fun w1 w2 v b e1 e2 e3 e4 e5 => by
        refine ⟨ownsRow_base e4 e3, ⟨gB, cB, .slice wa M wc, at_, D, e1.kept e5 (fun h => h) (fun h => h) (fun _ _ h => h) (fun _ _ h => h), HR.out.1, HR.out.2.1, fun k hk => Nat.lt_of_lt_of_le (HR.out.2.2.1 k hk) (Nat.le_trans e3 e5.size), HR.out.2.2.2⟩, e2.trans (e5.mono (fun _ _ h => h.elim))⟩
      clear h0 h1 h2 h3 h4 hd hn hfit hM hR hs1 hs2 c3 c4 c6 c7
      go_enter Try.func44, Try.ntmps44
      go_wp2_with fail
      refine HL.out.mono ?_
      rintro e w1 ⟨rfl, rfl⟩
      go_wp2_with fail
      go_loopw [6] (fun v ws => ∃ (j : Nat) (x : Int), j ≤ M ∧ x = (j : Int) - 1 ∧ v = .int .i64 x ∧ Hid (lastW s.W k M = lastW s.W k j) ∧ Hid (RkIs ws r gB cB (.slice wa M wc) at_ D s1) ∧ Hid (Kept F w ws) ∧ w.heap.size ≤ ws.heap.size) (fun v _ => (intOf v + 1).toNat)
      case atStart => exact ⟨M, _, Nat.le_refl _, rfl, rfl, by show _ = _; rfl, H1, HK1, HK1.out.size⟩
      case round =>
        obtain ⟨j, x, hj, hx, rfl, hlast, hr, hkw, hsz⟩ := hrel
        obtain ⟨d0, d1, -⟩ := hr.out.cell
        rw [HW1.out.2] at d0
        cases j with
        | zero =>
          have hx0 : x < 0 := by omega
          clear hx
          obtain ⟨lo, hlo'⟩ : ∃ lo, lo = k * 128 := ⟨_, rfl⟩
          obtain ⟨hi, hhi'⟩ : ∃ hi, hi = k * 128 + 128 := ⟨_, rfl⟩
          have hlo : (k : Int) * 128 = (lo : Int) := by omega
          have hhi : ((k : Int) + 1) * 128 = (hi : Int) := by omega
          have hle : s.B.length ≤ cB := (Bs.own hr.out.bs).le |> fun h => by rw [HW1.out.2] at h; exact h
          have hsl := slice_mid gB 0 s.B.length cB lo hi (by omega) (by omega) (by omega)
          rw [show hi - lo = 128 by omega, Nat.zero_add] at hsl
          have hlol : lo ≤ 1000000 := by omega
          have hhil : hi ≤ 1000000 := by omega
          obtain ⟨S, hS⟩ : ∃ S, S = sec s.B k := ⟨_, rfl⟩
          have HBS : Hid (Bs wr (some ⟨gB, lo, none⟩) (cB - lo) S) := by
            rw [hlo']
            have e := (Bs.own hr.out.bs).mid (lo := k * 128) (m := 128) (by rw [HW1.out.2]; exact hroom) (by decide)
            rw [HW1.out.2] at e
            rw [hS]; exact e
          have HSL : Hid (S.length = 128) := by rw [hS]; exact length_sec hroom
          have HRR : Hid (R = (S, 0)) := by show _ = _; rw [HFIN.out, hlast.out, hS]; rfl
          clear hlast hS hlo' hhi' hle
          go_wp2_with (at_builtin; go_must (refine wpList_append_bytes wr rfl _ (.tmp 64) rfl wr.heap.size (.slice none 0 0) [] rfl (OwnBytes.nil0 _ _) (some ⟨gB, lo, none⟩) (cB - lo) S (by rw [HSL.out]; rfl) HBS.out (by rw [HSL.out]; decide) (Nat.le_refl _) ?_))
          intro v2 w2 ho2 hk2 hv2
          have HF := hid_of (HEND.out wr w2 v2 S hr.out hkw.out hsz ho2.out (hk2.out.mono (fun _ _ e => by cases e)))
          clear ho2 hk2 hv2
          go_wp2_with fail
          go_ret2
          rw [HRR.out]
          exact ⟨_, rfl, HF.out⟩
        | succ j =>
          obtain rfl : x = (j : Int) := by omega
          clear hx
          obtain ⟨p, hp⟩ : ∃ p, s.W[j]? = some p := ⟨s.W[j]'(by rw [← HW1.out.1, ← HM1.out]; omega), List.getElem?_eq_getElem _⟩
          obtain ⟨g, c, d, e1, hdj, w0, w1, -, hod⟩ := hr.out.wait (by rw [HW1.out.1]; exact hp)
          rw [← HM1.out] at e1
          obtain ⟨rfl, rfl⟩ : wa = some ⟨g, 0, none⟩ ∧ wc = c := by cases e1; exact ⟨rfl, rfl⟩
          clear e1
          have hjM : j < M := by omega
          have hp2 : p.2.length = 128 := (hr.out.fine.w p (by rw [HW1.out.1]; exact List.mem_of_getElem? hp)).2.1
          have HPL := hid_of hp2
          rw [hp2] at hod
          have HLS : Hid (lastW s.W k (j + 1) = if p.1 = k then some p.2 else lastW s.W k j) := by show _ = _; conv => lhs; unfold lastW; rw [hp]
          have HPB : Hid (Bs wr (some ⟨d.1, 0, none⟩) d.2 p.2) := Bs.own (by rw [hp2]; exact hod)
          obtain ⟨q, hq⟩ : ∃ q, q = p.1 := ⟨_, rfl⟩
          obtain ⟨b, hb⟩ : ∃ b, b = p.2 := ⟨_, rfl⟩
          obtain ⟨dg, hdg⟩ : ∃ dg, dg = d.1 := ⟨_, rfl⟩
          obtain ⟨dc, hdc⟩ : ∃ dc, dc = d.2 := ⟨_, rfl⟩
          rw [← hq] at w0 HLS
          rw [← hb] at HPL HLS HPB
          rw [← hdg, ← hdc] at w1 HPB
          clear hp hdj hod hp2 hq hb hdg hdc
          by_cases hqk : q = k
          · subst hqk
            have HRR : Hid (R = (b, 0)) := by show _ = _; rw [HFIN.out, hlast.out, HLS.out, if_pos rfl]; rfl
            clear hlast HLS
            go_wp2_with (at_builtin; go_must (refine wpList_append_bytes wr rfl _ (.tmp 53) rfl wr.heap.size (.slice none 0 0) [] rfl (OwnBytes.nil0 _ _) (some ⟨dg, 0, none⟩) dc b (by rw [HPL.out]; rfl) HPB.out (by rw [HPL.out]; decide) (Nat.le_refl _) ?_))
            intro v2 w2 ho2 hk2 hv2
            have HF := hid_of (HEND.out wr w2 v2 b hr.out hkw.out hsz ho2.out (hk2.out.mono (fun _ _ e => by cases e)))
            clear ho2 hk2 hv2
            go_wp2_with fail
            go_ret2
            rw [HRR.out]
            exact ⟨_, rfl, HF.out⟩
          · have hne : ((q : Int) == (k : Int)) = false := beq_eq_false_iff_ne.2 (by omega)
            have HLL : Hid (lastW s.W k M = lastW s.W k j) := by show _ = _; rw [hlast.out, HLS.out, if_neg hqk]
            clear hlast HLS
            go_wp2_with fail
            exact ⟨⟨j, _, by omega, rfl, rfl, HLL, hr, hkw, hsz⟩, by (simp [intOf]) <;> omega⟩
    · rw [hd] at hR c2
      simp only [if_true] at hR
      subst hR
      have hs2 : s1 = s := by rw [hs1]; unfold Sk.readS; rw [if_neg (fun x => by rw [hd] at x; cases x.2)]
      rw [hs2]
      clear h0 h1 h2 h3 h4 hd hn hfit hs1 hs2
      go_enter Try.func44, Try.ntmps44
      go_wp2_with fail
      refine HL.out.mono ?_
      rintro e w1 ⟨rfl, rfl⟩
      go_wp2_with fail
      go_ret2
      exact ⟨_, rfl, OwnBytes.nil0 _ _, HA.out, Kept.refl _ _⟩
  · have hs2 : s1 = s := by rw [hs1]; unfold Sk.readS; rw [if_neg (fun x => hfit x.1)]
    rw [hs2]
    unfold Sk.readR at hR
    rw [if_pos hfit] at hR
    subst hR
    rcases (by unfold Sk.fits at hfit; rw [← hn] at hfit; omega : i < 0 ∨ (0 ≤ i ∧ (n : Int) ≤ i)) with h1 | ⟨h1, h2⟩
    · clear h hn hfit hs1 hs2
      go_enter Try.func44, Try.ntmps44
      go_wp2_with fail
      go_ret2
      exact ⟨_, rfl, OwnBytes.nil0 _ _, HA.out, Kept.refl _ _⟩
    · clear h hn hfit hs1 hs2
      go_enter Try.func44, Try.ntmps44
      go_wp2_with fail
      refine HL.out.mono ?_
      rintro e w1 ⟨rfl, rfl⟩
      go_wp2_with fail
      go_ret2
      exact ⟨_, rfl, OwnBytes.nil0 _ _, HA.out, Kept.refl _ _⟩

end Go.Proofs.Ytjmeneddhalodaa

/- The document's own disk: keep. -/
namespace Go.Proofs.Ytjmeneddhalodaa
set_option linter.unusedVariables false
set_option linter.unusedSimpArgs false
open Go.RowKit Dg

theorem into_zero (B : List Nat) (off : Nat) : into B off [] = B := by unfold into; simp
theorem into_step {B b : List Nat} {off j x : Nat} (hx : b[j]? = some x) (h : off + b.length ≤ B.length) : (into B off (b.take j)).set (off + j) x = into B off (b.take (j + 1)) := by
  have hj : j < b.length := (List.getElem?_eq_some_iff.1 hx).1
  unfold into
  have e1 : (b.take j).length = j := by simp; omega
  have e2 : (b.take (j + 1)).length = j + 1 := by simp; omega
  have e3 : (B.take off).length = off := by simp; omega
  rw [e1, e2, List.set_append_right _ _ (by rw [e3]; omega), e3, Nat.add_sub_cancel_left, List.set_append_right _ _ (by rw [e1]; omega), e1, Nat.sub_self, List.take_add_one, hx]
  have e4 : B.drop (off + j) = B[off + j]'(by omega) :: B.drop (off + (j + 1)) := by rw [List.drop_eq_getElem_cons (by omega)]; rfl
  rw [e4]
  simp
theorem into_get {B b : List Nat} {off j : Nat} (hj : j < b.length) (h : off + b.length ≤ B.length) : ∃ y, (into B off (b.take j))[off + j]? = some y := by
  have h1 : (into B off (b.take j)).length = B.length := length_into (by simp; omega)
  exact ⟨_, List.getElem?_eq_getElem (by omega)⟩
/-- What is kept is other bytes. -/
theorem RkIs.putB {w w' : World} {r gB cB : Nat} {vW : Value} {at_ : Int} {D : List (Nat × Nat)} {s : Sk} (h : RkIs w r gB cB vW at_ D s) (hk : Kept (fun k => k = gB) w w') (B' : List Nat) (hl : B'.length = s.B.length) (h256 : ∀ x ∈ B', x < 256) (ho : w'.ownsRow 0 5 1 (.slice (some ⟨gB, 0, none⟩) s.B.length cB) s.B.length (u8s B')) :
    RkIs w' r gB cB vW at_ D { s with B := B' } where
  box := by rw [hk.block r (Array.getElem?_eq_some_iff.1 h.box).1 (fun e => h.ne1 e)]; show _ = some (Obj.cells #[.slice _ B'.length _, _, _, _, _, _, _, _] _ _); rw [hl]; exact h.box
  bs := by unfold OwnBytes; show World.ownsRow _ _ _ _ (.slice _ B'.length _) B'.length _; rw [hl]; exact ho
  ws := ownsRow_other h.ws hk (fun k e e2 => h.ne2.2 (by rw [e, e2]))
  dl := h.dl
  ds := fun j p d hp hd => ownsRow_other (h.ds j p d hp hd) hk (fun k e => by cases e; exact (h.ne3 d (List.mem_of_getElem? hd)).2.1)
  at1 := h.at1
  at2 := h.at2
  fine := ⟨by obtain ⟨n, h1, h2, h3⟩ := h.fine.n; exact ⟨n, h1, h2, hl.trans h3⟩, h256, fun p hp => by obtain ⟨h1, h2⟩ := h.fine.w p hp; exact ⟨by show _ ≤ B'.length; rw [hl]; exact h1, h2⟩⟩
  ne1 := h.ne1
  ne2 := h.ne2
  ne3 := h.ne3
set_option maxRecDepth 100000 in
set_option maxHeartbeats 4000000 in
theorem rdkeep_any (w : World) (r gB cB : Nat) (vW : Value) (at_ : Int) (D : List (Nat × Nat)) (s : Sk) (h : RkIs w r gB cB vW at_ D s) (j : Nat) (p : Nat × List Nat) (d : Nat × Nat) (hp : s.W[j]? = some p) (hd : D[j]? = some d) (B' : List Nat) (hB' : B' = keepB s.B p) :
    Calls Try.prog 61 #[.pointer (some ⟨r, 0, none⟩), .agg #[.int .i64 (p.1 : Int), .slice (some ⟨d.1, 0, none⟩) 128 d.2]] w fun e w' => e = .returned (.tuple #[]) ∧ RkIs w' r gB cB vW at_ D { s with B := B' } ∧ Kept (fun k => k = gB) w w' := by
  obtain ⟨q, hq⟩ : ∃ q, q = p.1 := ⟨_, rfl⟩
  obtain ⟨b, hb⟩ : ∃ b, b = p.2 := ⟨_, rfl⟩
  obtain ⟨dg, hdg⟩ : ∃ dg, dg = d.1 := ⟨_, rfl⟩
  obtain ⟨dc, hdc⟩ : ∃ dc, dc = d.2 := ⟨_, rfl⟩
  have hmem : d ∈ D := List.mem_of_getElem? hd
  obtain ⟨hf1, hf2, hf3⟩ := h.fine.w p (List.mem_of_getElem? hp)
  have hod := h.ds j p d hp hd
  rw [hf2] at hod
  obtain ⟨hn1, hn2, hn3⟩ := h.ne3 d hmem
  rw [← hq, ← hdg, ← hdc]
  rw [← hdg] at hn1 hn2
  rw [← hdg, ← hdc, ← hb] at hod
  rw [← hq] at hf1
  rw [← hb] at hf2 hf3
  have hB2 : B' = into s.B (q * 128) b := by rw [hB', hq, hb]; rfl
  have hbl : s.B.length ≤ 524288 := h.fine.le
  have hql : q ≤ 4096 := by omega
  obtain ⟨N, hN⟩ : ∃ N, N = s.B.length := ⟨_, rfl⟩
  obtain ⟨lo, hlo⟩ : ∃ lo, lo = q * 128 := ⟨_, rfl⟩
  have hlo' : (q : Int) * 128 = (lo : Int) := by omega
  obtain ⟨c0, -⟩ := h.cell
  rw [← hN] at c0 hf1 hbl
  have H := hid_of h
  have HD := hid_of hod
  have HBL := hid_of hf2
  have HN := hid_of hN
  have HB2 : Hid (B' = into s.B lo b) := by show _ = _; rw [hlo]; exact hB2
  have hlN : lo + 128 ≤ N := by omega
  have HLO := hid_of hlo
  have HO : Hid (w.ownsRow 0 5 1 (.slice (some ⟨gB, 0, none⟩) N cB) N (u8s s.B)) := by rw [hN]; exact h.bs
  have HNE : Hid (dg ≠ gB ∧ r ≠ gB) := ⟨hn2, h.ne1⟩
  have HPB : Hid (∀ x ∈ b, x < 256) := hf3
  clear h hp hd hmem hn3 hod hq hb hdg hdc hB' hB2 hN hlo hf1 hf2 hf3
  obtain ⟨w0, hw0⟩ : ∃ w0, w0 = w.alloc (.cells #[.int .i64 (q : Int), .slice (some ⟨dg, 0, none⟩) 128 dc] 96) := ⟨_, rfl⟩
  have hk0 : Kept (fun _ => False) w w0 := by rw [hw0]; exact Kept.alloc _ _ _
  have hx0 : w0.heap[w.heap.size]? = some (.cells #[.int .i64 (q : Int), .slice (some ⟨dg, 0, none⟩) 128 dc] 96 (0, 0)) := by rw [hw0]; exact heap_alloc_new w _
  obtain ⟨bx, hbx⟩ : ∃ bx, bx = w.heap.size := ⟨_, rfl⟩
  have hxc0 : w0.cell? ⟨bx, 0, none⟩ = some (.int .i64 (q : Int)) := by rw [hbx]; simp [World.cell?, hx0]
  have hxc1 : w0.cell? ⟨bx, 1, none⟩ = some (.slice (some ⟨dg, 0, none⟩) 128 dc) := by rw [hbx]; simp [World.cell?, hx0]
  have hgl : gB < w.heap.size := (World.ownsRow.lt HO.out gB rfl).2
  have hdl : dg < w.heap.size := (World.ownsRow.lt HD.out dg rfl).2
  have hrl : r < w.heap.size := (Array.getElem?_eq_some_iff.1 H.out.box).1
  have hbxl : bx < w0.heap.size := by rw [hbx, hw0]; simp
  have hsz0 : w.heap.size ≤ w0.heap.size := hk0.size
  have HBX : Hid (bx ≠ gB) := by show _ ≠ _; omega
  have HO0 : Hid (w0.ownsRow 0 5 1 (.slice (some ⟨gB, 0, none⟩) N cB) N (u8s s.B)) := ownsRow_other HO.out hk0 (fun _ _ h => h)
  have HD0 : Hid (OwnBytes w0 0 (.slice (some ⟨dg, 0, none⟩) b.length dc) b) := by
    have e := HD.out
    show OwnBytes _ _ _ _
    unfold OwnBytes at e ⊢
    rw [HBL.out] at e ⊢
    exact ownsRow_other e hk0 (fun _ _ h => h)
  have hc0 : w0.cell? ⟨r, 0, none⟩ = some (.slice (some ⟨gB, 0, none⟩) N cB) := by rw [hk0.cell hrl (fun h => h)]; exact c0
  have HK0 := hid_of hk0
  have HBS : Hid (Bs w0 (some ⟨dg, 0, none⟩) dc b) := Bs.own HD0.out
  have hdcl : 128 ≤ dc := by have := HBS.out.le; rw [HBL.out] at this; exact this
  clear hk0 hx0 c0
  go_enter Try.func61, Try.ntmps61
  go_wp2_with fail
  rw [← hw0, ← hbx]
  have HW0 := hid_of hw0
  clear hw0 hbx
  go_loopw [8] (fun v ws => ∃ i : Nat, i ≤ 128 ∧ v = .int .i64 (i : Int) ∧ Hid (ws.ownsRow 0 5 1 (.slice (some ⟨gB, 0, none⟩) N cB) N (u8s (into s.B lo (b.take i)))) ∧ Hid (Kept (fun k => k = gB) w0 ws)) (fun v _ => 128 - (intOf v).toNat)
  case atStart => exact ⟨0, by decide, rfl, by rw [List.take_zero, into_zero]; exact HO0.out, Kept.refl _ _⟩
  case round =>
    obtain ⟨i, hi, rfl, hO, hK⟩ := hrel
    by_cases hi8 : i < 128
    · have hib : i < b.length := by rw [HBL.out]; exact hi8
      obtain ⟨y, hy⟩ : ∃ y, b[i]? = some y := ⟨_, List.getElem?_eq_getElem hib⟩
      have hd0 : wr.cell? ⟨r, 0, none⟩ = some (.slice (some ⟨gB, 0, none⟩) N cB) := by rw [hK.out.cell (by omega) HNE.out.2]; exact hc0
      have hd1 : wr.cell? ⟨bx, 0, none⟩ = some (.int .i64 (q : Int)) := by rw [hK.out.cell hbxl HBX.out]; exact hxc0
      have hd2 : wr.cell? ⟨bx, 1, none⟩ = some (.slice (some ⟨dg, 0, none⟩) 128 dc) := by rw [hK.out.cell hbxl HBX.out]; exact hxc1
      have hd3 : wr.cell? ⟨dg, i, none⟩ = some (.int .u8 (y : Int)) := by rw [hK.out.cell (by omega) HNE.out.1]; exact (own_cell HD0.out hy).1
      obtain ⟨e, he⟩ : ∃ e, e = lo + i := ⟨_, rfl⟩
      have he' : (lo : Int) + (i : Int) = (e : Int) := by omega
      have heN : e < N := by omega
      obtain ⟨z, hz⟩ := into_get (B := s.B) (off := lo) hib (by rw [HBL.out, ← HN.out]; exact hlN)
      rw [← he] at hz
      obtain ⟨hg1, hg2⟩ := own_cell hO.out hz
      have HST : Hid ((into s.B lo (b.take i)).set e y = into s.B lo (b.take (i + 1))) := by show _ = _; rw [he]; exact into_step hy (by rw [HBL.out, ← HN.out]; exact hlN)
      clear hy hz he
      go_wp2_with fail
      go_region
      all_goals
        go_wp2_with fail
        refine ⟨⟨i + 1, by omega, by go_num, ?_, ?_⟩, by (simp [intOf]) <;> omega⟩
        · show World.ownsRow _ _ _ _ _ _ _
          rw [← HST.out]
          exact own_set (w := wr.drew) (World.ownsRow.drew hO.out) e y heN
        · exact hK.out.drew.trans (Kept.setCell _ _ _ rfl)
    · have hi1 : i = 128 := by omega
      have HF : Hid (wr.ownsRow 0 5 1 (.slice (some ⟨gB, 0, none⟩) N cB) N (u8s B')) := by
        have e : b.take i = b := List.take_of_length_le (by rw [HBL.out]; omega)
        rw [HB2.out, ← e]
        exact hO.out
      have HKW : Hid (Kept (fun k => k = gB) w wr) := (HK0.out.mono (fun _ _ h => h.elim)).trans hK.out
      go_wp2_with fail
      go_end0
      refine ⟨rfl, H.out.putB HKW.out B' (by rw [HB2.out]; exact length_into (by rw [HBL.out, ← HN.out]; exact hlN)) ?_ (by rw [← HN.out]; exact HF.out), HKW.out⟩
      rw [HB2.out, HLO.out]
      exact keepB_lt (p := (q, b)) H.out.fine.b256 HPB.out

end Go.Proofs.Ytjmeneddhalodaa

/- The document's own disk: Flush. -/
namespace Go.Proofs.Ytjmeneddhalodaa
set_option linter.unusedVariables false
set_option linter.unusedSimpArgs false
open Go.RowKit Dg

/-- None waits any more. -/
theorem RkIs.clear {w : World} {r gB cB : Nat} {vW : Value} {at_ : Int} {D : List (Nat × Nat)} {s : Sk} (h : RkIs w r gB cB vW at_ D s) : RkIs (w.setCell ⟨r, 1, none⟩ (.slice none 0 0)) r gB cB (.slice none 0 0) at_ [] { s with W := [] } := by
  have hk : Kept (fun k => k = r) w (w.setCell ⟨r, 1, none⟩ (.slice none 0 0)) := Kept.setCell _ _ _ rfl
  refine ⟨?_, ownsRow_other h.bs hk (fun k e => by cases e; exact fun e => h.ne1 e.symm), World.ownsRow_nil _ _ _ _, rfl, fun j p d hp hd => by simp at hp, h.at1, h.at2, ⟨h.fine.n, h.fine.b256, fun p hp => by simp at hp⟩, h.ne1, ⟨by simp [Value.ownBlock], by simp [Value.ownBlock]⟩, fun d hd => by simp at hd⟩
  rw [heap_setCell_of h.box]
  rfl
theorem keepTo_succ (B : List Nat) (W : List (Nat × List Nat)) (f : Nat → Bool) (j : Nat) (p : Nat × List Nat) (h : W[j]? = some p) (hf : f j = true) : keepTo B W f (j + 1) = keepB (keepTo B W f j) p := by
  conv => lhs; unfold keepTo
  rw [if_pos hf, List.getD_eq_getElem?_getD, h]
  rfl
theorem keepTo_skip (B : List Nat) (W : List (Nat × List Nat)) (f : Nat → Bool) (j : Nat) (hf : f j = false) : keepTo B W f (j + 1) = keepTo B W f j := by
  conv => lhs; unfold keepTo
  rw [if_neg (by rw [hf]; decide)]
set_option maxRecDepth 100000 in
set_option maxHeartbeats 4000000 in
theorem rdflush_any (w : World) (r : Nat) (F G : Nat → Prop) (s : Sk) (h : RkAt w r F G s) (hc : s.flushes ≤ 1000000) (hWl : s.W.length ≤ 1000000) (R : Int) (hR : R = s.flushR) (s2 : Sk) (hs2 : s2 = s.flushS) :
    Calls Try.prog 45 #[.pointer (some ⟨r, 0, none⟩)] w fun e w' => e = .returned (.int .i64 R) ∧ RkAt w' r F G s2 ∧ Kept F w w' := by
  have HS := hid_of (rdstopped_any w r F G s h)
  obtain ⟨t, ht⟩ : ∃ t, t = s.arm := ⟨_, rfl⟩
  have hs2' : s2 = if t.dead then t else { t with B := keepTo t.B t.W (fun _ => true) t.W.length, W := [], flushes := t.flushes + 1 } := by
    rw [hs2]; unfold Sk.flushS
    rw [ht, s.arm_B, s.arm_W, s.arm_counts.2.2]
  have hR' : R = if t.dead then 9 else 0 := by rw [hR]; unfold Sk.flushR; rw [ht]
  have htW : t.W.length ≤ 1000000 := by rw [ht, s.arm_W]; exact hWl
  have htc : t.flushes ≤ 1000000 := by rw [ht, s.arm_counts.2.2]; exact hc
  rw [← ht] at HS
  clear hs2 hR ht h hc hWl
  rcases hd : t.dead with _ | _
  · rw [if_neg (by rw [hd]; decide)] at hs2' hR'
    rw [hd] at HS
    subst hR'
    go_enter Try.func45, Try.ntmps45
    go_wp2_with fail
    refine HS.out.mono ?_
    rintro e w1 ⟨rfl, ⟨gB, cB, vW, at_, D, h0, h1, h2, h3, h4⟩, hk1⟩
    have HR : Hid ((F r ∧ F gB ∧ ∀ k, vW.ownBlock = some k → F k) ∧ (∀ k, F k → G k) ∧ (∀ k, G k → k < w1.heap.size) ∧ ∀ d ∈ D, G d.1 ∧ ¬ F d.1) := ⟨h1, h2, h3, h4⟩
    have HK1 := hid_of hk1
    have H0 := hid_of h0
    obtain ⟨c0, c1, -⟩ := h0.cell
    obtain ⟨wa, wc, rfl, -⟩ := h0.form
    obtain ⟨M, hM⟩ : ∃ M, M = t.W.length := ⟨_, rfl⟩
    rw [← hM] at c1 htW
    have HM := hid_of hM
    clear h0 h1 h2 h3 h4 hk1 HS c0 hM hd
    go_wp2_with fail
    go_loopw [11] (fun v ws => ∃ j : Nat, j ≤ M ∧ v = .int .i64 (j : Int) ∧ Hid (RkIs ws r gB cB (.slice wa t.W.length wc) at_ D { t with B := keepTo t.B t.W (fun _ => true) j }) ∧ Hid (Kept (fun k => k = gB) w1 ws)) (fun v _ => M - (intOf v).toNat)
    case atStart => exact ⟨0, Nat.zero_le _, rfl, H0.out, Kept.refl _ _⟩
    case round =>
      obtain ⟨j, hj, rfl, hr, hk⟩ := hrel
      by_cases hjM : j < M
      · obtain ⟨p, hp⟩ : ∃ p, t.W[j]? = some p := ⟨t.W[j]'(by rw [← HM.out]; exact hjM), List.getElem?_eq_getElem _⟩
        obtain ⟨g, c, d, e1, hdj, w0, w2, -, -⟩ := hr.out.wait hp
        obtain ⟨rfl, rfl⟩ : wa = some ⟨g, 0, none⟩ ∧ wc = c := by cases e1; exact ⟨rfl, rfl⟩
        obtain ⟨-, d1, -⟩ := hr.out.cell
        change _ = some (Value.slice (some ⟨g, 0, none⟩) t.W.length wc) at d1
        rw [← HM.out] at d1
        have HC := hid_of (rdkeep_any wr r gB cB _ at_ D _ hr.out j p d hp hdj _ rfl)
        have HKT : Hid (keepTo t.B t.W (fun _ => true) (j + 1) = keepB (keepTo t.B t.W (fun _ => true) j) p) := keepTo_succ _ _ _ _ _ hp rfl
        obtain ⟨q, hq⟩ : ∃ q, q = p.1 := ⟨_, rfl⟩
        obtain ⟨dg, hdg⟩ : ∃ dg, dg = d.1 := ⟨_, rfl⟩
        obtain ⟨dc, hdc⟩ : ∃ dc, dc = d.2 := ⟨_, rfl⟩
        rw [← hq] at w0 HC
        rw [← hdg, ← hdc] at w2 HC
        clear e1 hdj hp hq hdg hdc
        go_wp2_with fail
        refine HC.out.mono ?_
        rintro e w5 ⟨rfl, hr5, hk5⟩
        have HR5 : Hid (RkIs w5 r gB cB (.slice (some ⟨g, 0, none⟩) t.W.length wc) at_ D { t with B := keepTo t.B t.W (fun _ => true) (j + 1) }) := by rw [HKT.out]; exact hr5
        have HK5 : Hid (Kept (fun k => k = gB) w1 w5) := hk.out.trans hk5
        clear hr5 hk5 HC
        go_wp2_with fail
        exact ⟨⟨j + 1, by omega, by go_num, HR5, HK5⟩, by (simp [intOf]) <;> omega⟩
      · obtain rfl : j = M := by omega
        rw [HM.out] at hr
        have HE := hid_of ((hr.out.clear).put 7 (.int .i64 ((t.flushes : Int) + 1)) at_ s2 (by rw [hs2']) (by rw [hs2']) (by rw [hs2']; rfl) (by rw [hs2']; exact hr.out.at1) (by rw [hs2']; exact hr.out.at2))
        obtain ⟨-, d1, -, -, -, -, -, d7⟩ := hr.out.cell
        change _ = some (Value.int .i64 (t.flushes : Int)) at d7
        have f1 := hr.out.froz 1
        have f7 := hr.out.froz 7
        have HKF : Hid (Kept F w ((wr.setCell ⟨r, 1, none⟩ (.slice none 0 0)).setCell ⟨r, 7, none⟩ (.int .i64 ((t.flushes : Int) + 1)))) := ((HK1.out.trans (hk.out.mono (fun i _ e => by rw [e]; exact HR.out.1.2.1))).trans (Kept.setCell _ _ _ HR.out.1.1)).trans (Kept.setCell _ _ _ HR.out.1.1)
        have hsz : w1.heap.size ≤ wr.heap.size := hk.out.size
        clear hr hs2'
        go_wp2_with fail
        go_ret
        exact ⟨rfl, ⟨gB, cB, .slice none 0 0, at_, [], HE.out, ⟨HR.out.1.1, HR.out.1.2.1, fun k e => by cases e⟩, HR.out.2.1, fun k hk => by have := HR.out.2.2.1 k hk; simp [World.setCell]; omega, fun d hd => by simp at hd⟩, HKF.out⟩
  · rw [if_pos hd] at hs2' hR'
    rw [hd] at HS
    subst hR'
    rw [hs2']
    clear hs2' hd
    go_enter Try.func45, Try.ntmps45
    go_wp2_with fail
    refine HS.out.mono ?_
    rintro e w1 ⟨rfl, ha, hk⟩
    have HA := hid_of ha
    have HK := hid_of hk
    clear ha hk HS
    go_wp2_with fail
    go_ret
    exact ⟨rfl, HA.out, HK.out⟩

end Go.Proofs.Ytjmeneddhalodaa

/- A slice of bools that can be read; a part of it. -/
namespace Go.Proofs.Ytjmeneddhalodaa
set_option linter.unusedVariables false
set_option linter.unusedSimpArgs false
open Go.RowKit Dg

/-- Bools that can be read. -/
def BlAt (w : World) (a : Option Addr) (l : List Bool) : Prop := ∀ j x, l[j]? = some x → ∃ b off, a = some ⟨b, off, none⟩ ∧ w.cell? ⟨b, off + j, none⟩ = some (.bool x)
theorem BlAt.nil (w : World) (a : Option Addr) : BlAt w a [] := fun j x h => by simp at h
theorem BlAt.kept {w w' : World} {a : Option Addr} {l : List Bool} {F : Nat → Prop} (h : BlAt w a l) (hk : Kept F w w') (hF : l ≠ [] → ∀ y, a = some y → ¬ F y.block) : BlAt w' a l := by
  intro j x hx
  obtain ⟨b, off, rfl, hc⟩ := h j x hx
  refine ⟨b, off, rfl, ?_⟩
  rw [hk.cell (World.block_lt_of_cell? w _ hc) (hF (fun e => by rw [e] at hx; simp at hx) ⟨b, off, none⟩ rfl)]
  exact hc
theorem BlAt.take {w : World} {a : Option Addr} {l : List Bool} (h : BlAt w a l) (n : Nat) : BlAt w a (l.take n) := by
  intro j x hx
  rw [List.getElem?_take] at hx
  split at hx
  · exact h j x hx
  · cases hx
theorem BlAt.lt {w : World} {a : Option Addr} {l : List Bool} (h : BlAt w a l) (hne : l ≠ []) : ∀ y, a = some y → y.block < w.heap.size := by
  intro y hy
  obtain ⟨b, off, e, hc⟩ := h 0 (l[0]'(List.length_pos_iff.2 hne)) (List.getElem?_eq_getElem _)
  rw [hy] at e
  cases e
  exact World.block_lt_of_cell? w _ hc
theorem slice_bools (a : Option Addr) (n cap k : Nat) (hk : k ≤ cap) (W : World) : (Instr.sliceAt 22 (.slice a n cap) none (some (.int .i64 (k : Int))) none).run Try.prog W = .ok (.slice a k cap) W := by
  have hs : ∀ w, (sizeOf 4).run Try.prog w = .ok 1 w := fun _ => by kernel_rfl
  simp [Instr.sliceAt, Instr.slice, Instr.sliceBounds, Instr.sliceBound, asIntOf, run_underlying Try.underlying22, hs, hk]
  cases a <;> simp [Addr.add]
set_option maxRecDepth 100000 in
set_option maxHeartbeats 1000000 in
theorem cutBool_any (w : World) (a : Option Addr) (len cap n : Nat) (hlc : len ≤ cap) (hl : len ≤ 9223372036854775807) (hn : n ≤ 1000000) (m : Nat) (hm : m = min len n) :
    Calls Try.prog 19 #[.slice a len cap, .int .i64 (n : Int)] w fun e w' => e = .returned (.slice a m cap) ∧ w = w' := by
  rcases (by omega : (len ≤ n ∧ m = len) ∨ (n < len ∧ m = n)) with ⟨h1, rfl⟩ | ⟨h1, rfl⟩
  · have hs := slice_bools a m cap m hlc
    clear hm
    go_enter Try.func19, Try.ntmps19
    go_wp2
    go_ret
    exact ⟨rfl, rfl⟩
  · have hs := slice_bools a len cap m (by omega)
    clear hm
    go_enter Try.func19, Try.ntmps19
    go_wp2
    go_ret
    exact ⟨rfl, rfl⟩

end Go.Proofs.Ytjmeneddhalodaa

/- The document's own disk: Crash. -/
namespace Go.Proofs.Ytjmeneddhalodaa
set_option linter.unusedVariables false
set_option linter.unusedSimpArgs false
open Go.RowKit Dg

set_option maxRecDepth 100000 in
set_option maxHeartbeats 4000000 in
theorem rdcrash_any (w : World) (r : Nat) (F G : Nat → Prop) (s : Sk) (h : RkAt w r F G s) (hWl : s.W.length ≤ 1000000) (a : Option Addr) (cap : Nat) (l : List Bool) (hl : BlAt w a l) (hll : l.length ≤ 1000000) (hf : l ≠ [] → ∀ y, a = some y → ¬ F y.block) (s2 : Sk) (hs2 : s2 = s.crashS l) :
    Calls Try.prog 47 #[.pointer (some ⟨r, 0, none⟩), .slice a l.length cap] w fun e w' => e = .returned (.tuple #[]) ∧ RkAt w' r F G s2 ∧ Kept F w w' := by
  obtain ⟨gB, cB, vW, at_, D, h0, h1, h2, h3, h4⟩ := h
  have HR : Hid ((F r ∧ F gB ∧ ∀ k, vW.ownBlock = some k → F k) ∧ (∀ k, F k → G k) ∧ (∀ k, G k → k < w.heap.size) ∧ ∀ d ∈ D, G d.1 ∧ ¬ F d.1) := ⟨h1, h2, h3, h4⟩
  have H0 := hid_of h0
  obtain ⟨c0, c1, -⟩ := h0.cell
  obtain ⟨wa, wc, rfl, -⟩ := h0.form
  obtain ⟨M, hM⟩ : ∃ M, M = s.W.length := ⟨_, rfl⟩
  rw [← hM] at c1 hWl
  have HM := hid_of hM
  have HL := hid_of hl
  have HF : Hid (l ≠ [] → ∀ y, a = some y → ¬ F y.block) := hf
  obtain ⟨f, hff⟩ : ∃ f : Nat → Bool, f = fun j => l.getD j false := ⟨_, rfl⟩
  have hs2' : s2 = { s with B := keepTo s.B s.W f s.W.length, W := [], dead := false, stop := none } := by rw [hs2, hff]; rfl
  have HFF := hid_of hff
  clear h0 h1 h2 h3 h4 c0 hM hl hf hs2 hff
  go_enter Try.func47, Try.ntmps47
  go_wp2_with fail
  go_loopw [10] (fun v ws => ∃ j : Nat, j ≤ M ∧ v = .int .i64 (j : Int) ∧ Hid (RkIs ws r gB cB (.slice wa s.W.length wc) at_ D { s with B := keepTo s.B s.W f j }) ∧ Hid (Kept (fun k => k = gB) w ws)) (fun v _ => M - (intOf v).toNat)
  case atStart => exact ⟨0, Nat.zero_le _, rfl, H0.out, Kept.refl _ _⟩
  case round =>
    obtain ⟨j, hj, rfl, hr, hk⟩ := hrel
    by_cases hjM : j < M
    · by_cases hjl : j < l.length
      · obtain ⟨x, hx⟩ : ∃ x, l[j]? = some x := ⟨_, List.getElem?_eq_getElem hjl⟩
        have hne : l ≠ [] := fun e => by rw [e] at hjl; simp at hjl
        obtain ⟨kb, ko, rfl, hkc⟩ := (HL.out.kept hk.out (fun _ y hy e => HF.out hne y hy (by rw [e]; exact HR.out.1.2.1))) j x hx
        have hfx : f j = x := by rw [HFF.out]; simp [List.getD, hx]
        cases x with
        | true =>
          obtain ⟨p, hp⟩ : ∃ p, s.W[j]? = some p := ⟨s.W[j]'(by rw [← HM.out]; exact hjM), List.getElem?_eq_getElem _⟩
          obtain ⟨g, c, d, e1, hdj, w0, w2, -, -⟩ := hr.out.wait hp
          obtain ⟨rfl, rfl⟩ : wa = some ⟨g, 0, none⟩ ∧ wc = c := by cases e1; exact ⟨rfl, rfl⟩
          obtain ⟨-, d1, -⟩ := hr.out.cell
          change _ = some (Value.slice (some ⟨g, 0, none⟩) s.W.length wc) at d1
          rw [← HM.out] at d1
          have HC := hid_of (rdkeep_any wr r gB cB _ at_ D _ hr.out j p d hp hdj _ rfl)
          have HKT : Hid (keepTo s.B s.W f (j + 1) = keepB (keepTo s.B s.W f j) p) := keepTo_succ _ _ _ _ _ hp hfx
          obtain ⟨q, hq⟩ : ∃ q, q = p.1 := ⟨_, rfl⟩
          obtain ⟨dg, hdg⟩ : ∃ dg, dg = d.1 := ⟨_, rfl⟩
          obtain ⟨dc, hdc⟩ : ∃ dc, dc = d.2 := ⟨_, rfl⟩
          rw [← hq] at w0 HC
          rw [← hdg, ← hdc] at w2 HC
          clear e1 hdj hp hq hdg hdc hx hfx
          go_wp2_with fail
          refine HC.out.mono ?_
          rintro e w5 ⟨rfl, hr5, hk5⟩
          have HR5 : Hid (RkIs w5 r gB cB (.slice (some ⟨g, 0, none⟩) s.W.length wc) at_ D { s with B := keepTo s.B s.W f (j + 1) }) := by rw [HKT.out]; exact hr5
          have HK5 : Hid (Kept (fun k => k = gB) w w5) := hk.out.trans hk5
          clear hr5 hk5 HC
          go_wp2_with fail
          exact ⟨⟨j + 1, by omega, by go_num, HR5, HK5⟩, by (simp [intOf]) <;> omega⟩
        | false =>
          have HR5 : Hid (RkIs wr r gB cB (.slice wa s.W.length wc) at_ D { s with B := keepTo s.B s.W f (j + 1) }) := by rw [keepTo_skip _ _ _ _ hfx]; exact hr.out
          clear hx hfx
          go_wp2_with fail
          exact ⟨⟨j + 1, by omega, by go_num, HR5, hk⟩, by (simp [intOf]) <;> omega⟩
      · have hfx : f j = false := by rw [HFF.out]; simp [List.getD, List.getElem?_eq_none (by omega : l.length ≤ j)]
        have HR5 : Hid (RkIs wr r gB cB (.slice wa s.W.length wc) at_ D { s with B := keepTo s.B s.W f (j + 1) }) := by rw [keepTo_skip _ _ _ _ hfx]; exact hr.out
        clear hfx
        go_wp2_with fail
        exact ⟨⟨j + 1, by omega, by go_num, HR5, hk⟩, by (simp [intOf]) <;> omega⟩
    · obtain rfl : j = M := by omega
      rw [HM.out] at hr
      have h1 := hr.out.clear
      have h2 := h1.put 2 (.bool false) at_ { s with B := keepTo s.B s.W f s.W.length, W := [], dead := false } rfl rfl rfl h1.at1 h1.at2
      have HE := hid_of (h2.put 3 (.bool false) at_ s2 (by rw [hs2']) (by rw [hs2']) (by rw [hs2']; rfl) (fun k e => by rw [hs2'] at e; cases e) (by rw [hs2']; exact h2.at2))
      obtain ⟨-, d1, d2, d3, -⟩ := hr.out.cell
      have f1 := hr.out.froz 1
      have f2 := hr.out.froz 2
      have f3 := hr.out.froz 3
      have HKF : Hid (Kept F w (((wr.setCell ⟨r, 1, none⟩ (.slice none 0 0)).setCell ⟨r, 2, none⟩ (.bool false)).setCell ⟨r, 3, none⟩ (.bool false))) := (((hk.out.mono (fun i _ e => by rw [e]; exact HR.out.1.2.1)).trans (Kept.setCell _ _ _ HR.out.1.1)).trans (Kept.setCell _ _ _ HR.out.1.1)).trans (Kept.setCell _ _ _ HR.out.1.1)
      have hsz : w.heap.size ≤ wr.heap.size := hk.out.size
      clear hr hs2' h1 h2
      go_wp2_with fail
      go_end0
      exact ⟨rfl, ⟨gB, cB, .slice none 0 0, at_, [], HE.out, ⟨HR.out.1.1, HR.out.1.2.1, fun k e => by cases e⟩, HR.out.2.1, fun k hk => by have := HR.out.2.2.1 k hk; simp [World.setCell]; omega, fun d hd => by simp at hd⟩, HKF.out⟩

end Go.Proofs.Ytjmeneddhalodaa

/- 'append(s, x...)' to a row of the call's own, of elements of any size. -/
namespace Go.Proofs.Ytjmeneddhalodaa
set_option linter.unusedVariables false
set_option linter.unusedSimpArgs false
open Go.RowKit

/-- Cells that can be read. -/
def CsAt (w : World) (a : Option Addr) (cs : List Value) : Prop := ∀ j u, cs[j]? = some u → ∃ b off, a = some ⟨b, off, none⟩ ∧ w.cell? ⟨b, off + j, none⟩ = some u
theorem wpList_append_cells {P : Program} (w : World) {ops : Array Oper} {rest : List Oper} {o : Oper} {a : Act} {Q : Exit → Act → World → Prop}
    (hgd : o.guard = none) (s x : Operand) (t : TypeId) (ho : o.op = .call { callee := .builtin .append, args := #[s, x], argTypes := #[t, t] })
    (base : Nat) (e : TypeId) (i : TypeInfo) (z : Value) (size bytes : Nat) (ht : P.underlying t = some (.slice e)) (hi : P.info? e = some i) (hz : i.zero = some z)
    (hsize : i.size = size) (hby : i.bytes = bytes) (hzs : z.cells.size = size) (hsz : 0 < size)
    (v : Value) (n : Nat) (xs : List Value) (hs : a.eval s = v) (hown : w.ownsRow base e size v n xs)
    (xa : Option Addr) (m c : Nat) (news : List Value) (hx : a.eval x = .slice xa m c) (hl : news.length = m * size) (hnews : CsAt w xa news) (hnil : xa = none → m = 0 ∧ c = 0) (h1 : ∀ u ∈ news, u.oneCell' = true)
    (h63 : n + m ≤ maxLen) (hbytes : (n + m) * bytes ≤ 140737488355328) (hbase : base ≤ w.heap.size)
    (h : ∀ v' w', Hid (w'.ownsRow base e size v' (n + m) (xs ++ news)) → Hid (Kept (fun k => v.ownBlock = some k) w w') → Hid (∀ k, v'.ownBlock = some k → v.ownBlock = some k ∨ w.heap.size ≤ k) → wpList P ops Q rest (a.put o.dst v') w') : wpList P ops Q (o :: rest) a w := by
  cases xa with
  | none =>
    obtain ⟨hm, hc⟩ := hnil rfl
    subst hm hc
    have hn0 : news = [] := List.eq_nil_of_length_eq_zero (by rw [hl]; simp)
    subst hn0
    refine wpList_append_own_none hgd s x t ho base e i size ht hi v n xs hs hown hx ?_
    exact h v w (by rw [List.append_nil]; exact hown) (Kept.refl _ _) (fun k hk => .inl hk)
  | some ad =>
    have hcell : ∀ j u, news[j]? = some u → w.cell? (ad.add j) = some u := by
      intro j u hu
      obtain ⟨b, off, e', hc⟩ := hnews j u hu
      cases e'
      have hadd : (⟨b, off, none⟩ : Addr).add j = ⟨b, off + j, none⟩ := by simp [Addr.add]
      rw [hadd]
      exact hc
    by_cases hm : m = 0
    · subst hm
      have hn0 : news = [] := List.eq_nil_of_length_eq_zero (by rw [hl]; simp)
      subst hn0
      rcases hown.2 with ⟨hv, hn⟩ | ⟨g, cap, cur, hv, hb, hh, hn, hcm, hcs, htake⟩
      · refine wpList_append_own _ hgd s x t ho base e i z size bytes ht hi hz hsize hby hzs hsz v n xs hs hown ad 0 c [] hx (by simp) (fun j u hu => by simp at hu) (fun u hu => by simp at hu) h63 hbytes hbase ?_
        intro v' w' h2 h3 h4
        have hv' : v' = .slice none 0 0 := h4.2 ⟨hv, rfl⟩
        exact h v' w' h2 (Kept.grown h3) (fun k hk => by rw [hv'] at hk; cases hk)
      · refine wpList_append_fits w hgd s x t ho base e i size ht hi hsize g n cap xs (hs.trans hv) (hv ▸ hown) ad 0 c [] hx (by simp) (fun j u hu => by simp at hu) (fun u hu => by simp at hu) (by omega) ?_
        intro w' h2 h3
        refine h _ w' h2 ?_ (fun k hk => .inl ?_)
        · have := Kept.grown h3
          rw [hv]; exact this
        · rw [hv]; exact hk
    · refine wpList_append_mine _ hgd s x t ho base e i z size bytes ht hi hz hsize hby hzs hsz v n xs hs hown ad m c news hx hl hcell h1 (by omega) h63 hbytes hbase ?_
      intro g cap w' h2 h3 h4
      refine h _ w' h2 (Kept.grown h3.out) (fun k hk => ?_)
      simp [Value.ownBlock] at hk
      subst hk
      exact h4.out

end Go.Proofs.Ytjmeneddhalodaa
