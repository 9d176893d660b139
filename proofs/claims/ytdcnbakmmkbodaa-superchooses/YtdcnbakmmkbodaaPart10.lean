/- The texts SuTn, CopyB, one behind the other. -/
import Derived.Test.YtdcnbakmmkbodaaPart09
import Derived.Test.YtdcnbakmmkbodaaPart03
import Derived.Test.YtdcnbakmmkbodaaPart02
import Derived.Laws.CopyOwn

/- SuperTurns: the walk of the law, over the bundle. -/
namespace Go.Proofs.Ytdcnbakmmkbodaa
set_option linter.unusedVariables false
set_option linter.unusedSimpArgs false
open Go.RowKit Dg Cr

/-- Two sectors, of which the newest is in the slot that its number tells. -/
structure SlotsP (j : Nat) (last : Su) (l0 l1 : List Nat) : Prop where
  good : GoodSu last 4
  may : maySu last 4
  len : l0.length = 128 ∧ l1.length = 128
  byte : (∀ x ∈ l0, x < 256) ∧ ∀ x ∈ l1, x < 256
  new : if j % 2 = 0 then l0 = packSu last 4 ∧ (isSu l1 → (readSu l1).gen < last.gen) else l1 = packSu last 4 ∧ (isSu l0 → (readSu l0).gen < last.gen)
theorem SlotsP.choose {j : Nat} {last : Su} {l0 l1 : List Nat} (h : SlotsP j last l0 l1) : chooseSu l0 l1 = (last, 4, ((j % 2 : Nat) : Int), true) := by
  have hn := h.new
  have hi : isSu (packSu last 4) := h.good.isSu_iff.2 h.may
  obtain ⟨hb1, hb2⟩ := h.good.back
  by_cases e : j % 2 = 0
  · rw [if_pos e] at hn
    obtain ⟨rfl, h2⟩ := hn
    unfold chooseSu
    have hc : isSu (packSu last 4) ∧ (¬ isSu l1 ∨ (readSu l1).gen ≤ (readSu (packSu last 4)).gen) := ⟨hi, by
      by_cases i1 : isSu l1
      · exact .inr (by rw [hb1]; exact Int.le_of_lt (h2 i1))
      · exact .inl i1⟩
    rw [if_pos hc, hb1, hb2, e]
    rfl
  · rw [if_neg e] at hn
    obtain ⟨rfl, h2⟩ := hn
    unfold chooseSu
    rw [if_neg ?_, if_pos hi, hb1, hb2, show j % 2 = 1 by omega]
    · rfl
    · rintro ⟨i0, h3 | h3⟩
      · exact h3 hi
      · rw [hb1] at h3
        have := h2 i0
        omega
theorem SlotsP.next0 {j : Nat} {last t : Su} {l0 l1 : List Nat} (h : SlotsP j last l0 l1) (hj : j % 2 = 1) (hg : GoodSu t 4) (hm : maySu t 4) (hlt : last.gen < t.gen) : SlotsP (j + 1) t (packSu t 4) l1 := by
  have hn := h.new
  rw [if_neg (by omega)] at hn
  refine ⟨hg, hm, ⟨length_packSu _ _, h.len.2⟩, ⟨packSu_lt _ _, h.byte.2⟩, ?_⟩
  rw [if_pos (by omega)]
  refine ⟨rfl, fun _ => ?_⟩
  rw [hn.1, h.good.back.1]
  exact hlt
theorem SlotsP.next1 {j : Nat} {last t : Su} {l0 l1 : List Nat} (h : SlotsP j last l0 l1) (hj : j % 2 = 0) (hg : GoodSu t 4) (hm : maySu t 4) (hlt : last.gen < t.gen) : SlotsP (j + 1) t l0 (packSu t 4) := by
  have hn := h.new
  rw [if_pos hj] at hn
  refine ⟨hg, hm, ⟨h.len.1, length_packSu _ _⟩, ⟨h.byte.1, packSu_lt _ _⟩, ?_⟩
  rw [if_neg (by omega)]
  refine ⟨rfl, fun _ => ?_⟩
  rw [hn.1, h.good.back.1]
  exact hlt
theorem SlotsP.first {s : Su} (hg : GoodSu s 4) (hm : maySu s 4) : SlotsP 0 s (packSu s 4) (List.replicate 128 0) := by
  refine ⟨hg, hm, ⟨length_packSu _ _, by simp⟩, ⟨packSu_lt _ _, fun x hx => by have := List.eq_of_mem_replicate hx; omega⟩, ?_⟩
  rw [if_pos rfl]
  exact ⟨rfl, fun h => absurd h zero_not⟩
theorem good_small {g y2 y3 r : Int} (h1 : 1 ≤ g ∧ g ≤ 20) (h2 : 1 ≤ y2 ∧ y2 ≤ 9) (h3 : 0 ≤ y3 ∧ y3 ≤ 8) (h4 : 0 ≤ r ∧ r ≤ 89) : GoodSu ⟨g, y2, y3, r⟩ 4 ∧ maySu ⟨g, y2, y3, r⟩ 4 ∧ Su64 ⟨g, y2, y3, r⟩ := by
  refine ⟨⟨⟨?_, ?_⟩, ⟨?_, ?_⟩, ⟨?_, ?_⟩, ⟨?_, ?_⟩, ⟨?_, ?_⟩⟩, ⟨⟨?_, ?_⟩, ⟨?_, ?_⟩, ?_, ?_, ?_, ?_⟩, ⟨⟨?_, ?_⟩, ⟨?_, ?_⟩, ⟨?_, ?_⟩, ⟨?_, ?_⟩⟩⟩
  all_goals first | omega | (simp only []; omega)

/-- Rows stay, but those of the two sectors' variable, which may be written anew. -/
structure TnL (B : Nat) (i : Nat) (w w' : World) : Prop where
  rows : ∀ (b : Nat) (c : Array Value) (z : Nat × Nat), w.heap[b]? = some (.cells c 5 z) → w'.heap[b]? = some (.cells c 5 z)
  firm : i ≠ 5 → Firm w w'
  two : ∀ (b : Nat) (x y : Value), w.heap[b]? = some (.cells #[x, y] 28 (0, 0)) → ∃ x' y', w'.heap[b]? = some (.cells #[x', y'] 28 (0, 0))
/-- A row of bytes of its own, in a slot. -/
def OwnV (w : World) (l : List Nat) (v : Value) : Prop := ∃ g c, v = .slice (some ⟨g, 0, none⟩) 128 c ∧ w.ownsRow 0 5 1 (.slice (some ⟨g, 0, none⟩) 128 c) 128 (u8s l)
theorem OwnV.rows {w w' : World} (h : ∀ (b : Nat) (c : Array Value) (z : Nat × Nat), w.heap[b]? = some (.cells c 5 z) → w'.heap[b]? = some (.cells c 5 z)) {l : List Nat} {v : Value} (hr : OwnV w l v) : OwnV w' l v := by
  obtain ⟨g, c, e, ho⟩ := hr
  refine ⟨g, c, e, ho.1, ?_⟩
  rcases ho.2 with ⟨e1, e2⟩ | ⟨g', cap, cur, e1, hb, hh, hn⟩
  · cases e1
  · exact .inr ⟨g', cap, cur, e1, hb, h _ _ _ hh, hn⟩
/-- What each of the operations leaves. -/
def TnR (B : Nat) (x1 x2 x3 x4 : Int) (L0 : List Nat) : Nat → Value → World → Prop
  | 0, v, w => v = .agg #[.int .i64 x1, .int .i64 x2, .int .i64 x3, .int .i64 x4]
  | 1, v, w => OwnV w L0 v
  | 2, v, w => OwnV w (List.replicate 128 0) v
  | 3, v, w => ∃ r0 r1, v = .agg #[r0, r1] ∧ OwnV w L0 r0 ∧ OwnV w (List.replicate 128 0) r1
  | 4, v, w => ∃ g x y, v = .pointer (some ⟨g, 0, none⟩) ∧ w.heap[g]? = some (.cells #[x, y] 28 (0, 0)) ∧ B ≤ g
  | 5, v, w => ∃ g r0 r1, v = .pointer (some ⟨g, 0, none⟩) ∧ w.heap[g]? = some (.cells #[r0, r1] 28 (0, 0)) ∧ B ≤ g ∧ OwnV w L0 r0 ∧ OwnV w (List.replicate 128 0) r1
  | _, _, _ => True
theorem TnR.mono {B : Nat} {x1 x2 x3 x4 : Int} {L0 : List Nat} : ∀ (i j : Nat) (v : Value) (w w' : World), j ≠ i → TnR B x1 x2 x3 x4 L0 j v w → TnL B i w w' → TnR B x1 x2 x3 x4 L0 j v w'
  | i, 0, v, w, w', hj, h, k => h
  | i, 1, v, w, w', hj, h, k => OwnV.rows k.rows h
  | i, 2, v, w, w', hj, h, k => OwnV.rows k.rows h
  | i, 3, v, w, w', hj, h, k => by
    obtain ⟨r0, r1, e, h0, h1⟩ := h
    exact ⟨r0, r1, e, h0.rows k.rows, h1.rows k.rows⟩
  | i, 4, v, w, w', hj, h, k => by
    obtain ⟨g, x, y, e, hg, hb⟩ := h
    obtain ⟨x', y', hg'⟩ := k.two g x y hg
    exact ⟨g, x', y', e, hg', hb⟩
  | i, 5, v, w, w', hj, h, k => by
    obtain ⟨g, r0, r1, e, hg, hb, h0, h1⟩ := h
    exact ⟨g, r0, r1, e, k.firm (fun e => hj e.symm) _ _ _ _ hg, hb, h0.rows k.rows, h1.rows k.rows⟩
  | i, n + 6, v, w, w', hj, h, k => trivial
def TnA (s1 s2 s3 s4 y1 y2 y3 y4 n0 : Int) (p bx : Nat) (lost : Bool) : (Nat → Value) → Act := fun vs => { tmps := #[.agg #[.int .i64 s1, .int .i64 s2, .int .i64 s3, .int .i64 s4], .int .i64 (1 + (p : Int)), .bool lost, .pointer (some ⟨bx, 0, none⟩), undef, undef, .bool false, vs 4, undef, undef, undef, undef, undef, undef, undef, undef, .agg #[.int .i64 s1, .int .i64 s2, .int .i64 s3, .int .i64 s4], .agg #[.int .i64 y1, .int .i64 y2, .int .i64 y3, .int .i64 y4], .pointer (some ⟨bx, 0, none⟩), .int .i64 n0, .int .i64 (p : Int), .int .i64 (1 + (p : Int)), vs 0, vs 1, vs 2, vs 3, undef, undef, undef, undef, undef, undef, undef, undef, undef, undef, undef, undef, undef, undef, undef, undef, undef, undef, undef, undef, undef, undef, undef, undef, undef, undef, undef, undef, undef, undef, undef, undef, undef, undef, undef, undef, undef, undef, undef, undef, undef, undef, undef, undef, undef, undef, undef, undef, undef, undef, undef, undef, undef, undef, undef, undef, undef, undef, undef, undef, undef, undef, undef, undef], defers := [] }
/-- An operation that makes memory at most. -/
theorem TnL.of {B i : Nat} {w w' : World} (hb : Below w.heap.size w w') : TnL B i w w' :=
  ⟨fun b c z e => Firm.of_below hb b c 5 z e, fun _ => Firm.of_below hb, fun b x y e => ⟨x, y, Firm.of_below hb _ _ _ _ e⟩⟩
theorem box2 {W : World} {r : Nat} {t : TypeId} {z0 z1 : Value} (h : W.heap[r]? = some (.cells #[z0, z1] t (0, 0))) :
    (W.cell? ⟨r, 0, none⟩ = some z0 ∧ W.cell? ⟨r, 1, none⟩ = some z1) ∧ (∀ j, W.frozen? ⟨r, j, none⟩ = false) ∧ (∀ v, (W.setCell ⟨r, 0, none⟩ v).cell? ⟨r, 1, none⟩ = some z1) ∧
    Hid (∀ c0 c1 : Value, (((W.setCell ⟨r, 0, none⟩ c0).setCell ⟨r, 1, none⟩ c1).heap[r]? = some (.cells #[c0, c1] t (0, 0))) ∧ Kept (fun k => k = r) W ((W.setCell ⟨r, 0, none⟩ c0).setCell ⟨r, 1, none⟩ c1)) := by
  have hc : W.cell? ⟨r, 0, none⟩ = some z0 ∧ W.cell? ⟨r, 1, none⟩ = some z1 := by
    refine ⟨?_, ?_⟩ <;> (unfold World.cell?; rw [h]; rfl)
  refine ⟨hc, fun j => by simp [World.frozen?, h], fun v => ?_, fun c0 c1 => ⟨?_, ?_⟩⟩
  · rw [World.cell?_setCell_other _ _ _ _ (by simp)]; exact hc.2
  · have q1 := heap_setCell_of (o := 0) h c0
    have q2 := heap_setCell_of (o := 1) q1 c1
    exact q2
  · exact (Kept.setCell (F := fun k => k = r) _ ⟨r, 0, none⟩ c0 rfl).trans (Kept.setCell _ ⟨r, 1, none⟩ c1 rfl)
/-- The store of both sectors. -/
theorem TnL.store {B : Nat} {w w' : World} {g : Nat} {x y x' y' : Value} (h : w.heap[g]? = some (.cells #[x, y] 28 (0, 0))) (h' : w'.heap[g]? = some (.cells #[x', y'] 28 (0, 0))) (hk : Kept (fun k => k = g) w w') : TnL B 5 w w' := by
  refine ⟨fun b c z e => ?_, fun e => absurd rfl e, fun b x2 y2 e => ?_⟩
  · by_cases hb : b = g
    · subst hb
      rw [h] at e
      simp at e
    · exact (hk.block b (Array.getElem?_eq_some_iff.1 e).1 hb).trans e
  · by_cases hb : b = g
    · subst hb
      exact ⟨x', y', h'⟩
    · exact ⟨x2, y2, (hk.block b (Array.getElem?_eq_some_iff.1 e).1 hb).trans e⟩
/-- The variables of the law: the newest superblock, and the two sectors. -/
def TnT (w : World) (g tx : Nat) (s : Su) (l0 l1 : List Nat) : Prop := SuAt w tx s ∧ ∃ r0 r1, w.heap[g]? = some (.cells #[r0, r1] 28 (0, 0)) ∧ OwnV w l0 r0 ∧ OwnV w l1 r1
theorem rows_below {w w' : World} (hb : Below w.heap.size w w') : ∀ (b : Nat) (c : Array Value) (z : Nat × Nat), w.heap[b]? = some (.cells c 5 z) → w'.heap[b]? = some (.cells c 5 z) := fun b c z e => Firm.of_below hb b c 5 z e
theorem rows_kept {w w' : World} {x : Nat} {C : Array Value} {t : TypeId} {y : Nat × Nat} (hk : Kept (fun k => k = x) w w') (hx : w.heap[x]? = some (.cells C t y)) (ht : t ≠ 5) : ∀ (b : Nat) (c : Array Value) (z : Nat × Nat), w.heap[b]? = some (.cells c 5 z) → w'.heap[b]? = some (.cells c 5 z) := fun b c z e => by
  by_cases hb : b = x
  · subst hb
    rw [hx] at e
    simp only [Option.some.injEq, Obj.cells.injEq] at e
    exact absurd e.2.1 ht
  · exact (hk.block b (Array.getElem?_eq_some_iff.1 e).1 hb).trans e
theorem TnT.below {w w' : World} {g tx : Nat} {s : Su} {l0 l1 : List Nat} (h : TnT w g tx s l0 l1) (hb : Below w.heap.size w w') : TnT w' g tx s l0 l1 := by
  obtain ⟨h1, r0, r1, h2, h3, h4⟩ := h
  exact ⟨h1.below hb, r0, r1, Firm.of_below hb _ _ _ _ h2, h3.rows (rows_below hb), h4.rows (rows_below hb)⟩
theorem TnT.kept {w w' : World} {g tx x : Nat} {s : Su} {l0 l1 : List Nat} {C : Array Value} {t : TypeId} {y : Nat × Nat} (h : TnT w g tx s l0 l1) (hk : Kept (fun k => k = x) w w') (hx : w.heap[x]? = some (.cells C t y)) (ht : t ≠ 5) (hg : g ≠ x) (htx : tx ≠ x) : TnT w' g tx s l0 l1 := by
  obtain ⟨h1, r0, r1, h2, h3, h4⟩ := h
  exact ⟨h1.kept hk htx, r0, r1, (hk.block g (Array.getElem?_eq_some_iff.1 h2).1 hg).trans h2, h3.rows (rows_kept hk hx ht), h4.rows (rows_kept hk hx ht)⟩
/-- One of the sectors written anew. -/
theorem TnT.one {w : World} {g tx k : Nat} {s : Su} {l0 l1 L : List Nat} {v : Value} (h : TnT w g tx s l0 l1) (hne : g ≠ tx) (hv : OwnV w L v) (hk : k = 0 ∨ k = 1) : TnT (w.setCell ⟨g, k, none⟩ v) g tx s (if k = 0 then L else l0) (if k = 0 then l1 else L) := by
  obtain ⟨h1, r0, r1, h2, h3, h4⟩ := h
  have hkk : Kept (fun b => b = g) w (w.setCell ⟨g, k, none⟩ v) := Kept.setCell _ _ _ rfl
  have q := heap_setCell_of (o := k) h2 v
  have hr := rows_kept hkk h2 (by decide)
  rcases hk with rfl | rfl
  · exact ⟨h1.kept hkk (fun e => hne e.symm), v, r1, q, hv.rows hr, h4.rows hr⟩
  · exact ⟨h1.kept hkk (fun e => hne e.symm), r0, v, q, h3.rows hr, hv.rows hr⟩
/-- The newest superblock written anew. -/
theorem TnT.new {w : World} {g tx : Nat} {s t : Su} {l0 l1 : List Nat} (h : TnT w g tx s l0 l1) (hne : g ≠ tx) : TnT (put4W w tx t) g tx t l0 l1 ∧ Kept (fun k => k = tx) w (put4W w tx t) := by
  obtain ⟨h1, r0, r1, h2, h3, h4⟩ := h
  have hp := h1.put (t := t)
  have hr := rows_kept hp.2 h1 (by decide)
  exact ⟨⟨hp.1, r0, r1, (hp.2.block g (Array.getElem?_eq_some_iff.1 h2).1 hne).trans h2, h3.rows hr, h4.rows hr⟩, hp.2⟩
set_option maxRecDepth 100000 in
set_option maxHeartbeats 16000000 in
theorem sutn_any {Ok : World → Prop} (S : Sup Ok) (CH : SuChoose Ok) (NX : SuNext) (W : World) (hok : Ok W) (s : Su) (n0 : Int) (lost : Bool) (hs : Su64 s) (hn : I64 n0) :
    Calls Try.prog 3 #[suV s, .int .i64 n0, .bool lost] W fun e W' => e = .returned (.bool true) ∧ Below W.heap.size W W' := by
  obtain ⟨p, hp⟩ : ∃ p : Nat, (p : Int) = n0 % 8 := ⟨(n0 % 8).toNat, by omega⟩
  have hp9 : p ≤ 7 := by omega
  have HWP : Hid (∀ w, Calls Try.prog 9 #[.int .i64 n0, .int .i64 8] w fun e w' => e = .returned (.int .i64 (p : Int)) ∧ w = w') := fun w => by rw [hp]; exact within_any n0 8 w hn.1 hn.2 (by decide) (by decide)
  have HSM : Hid (∀ w, Calls Try.prog 8 #[suV s] w fun e w' => e = .returned (suV (smallSu s)) ∧ Below w.heap.size w w') := fun w => small_any w s hs
  have HOK : Hid (∀ w, Below W.heap.size W w → Ok w) := fun w hw => S.okK hok ⟨hw.os, hw.tape, hw.output, hw.size, fun k hk _ => hw.block k hk⟩
  have HWK : Hid (∀ w, Below W.heap.size W w → Calls Try.prog 13 #[] w fun e w' => e = .returned (.bool true) ∧ Below w.heap.size w w') := fun w hw => wakes14_any S CH w (HOK.out w hw)
  obtain ⟨i0, hi, hz0, hz1, hz2⟩ := info_parts Try.info5
  obtain ⟨Z, hZ⟩ : ∃ Z, Z = madeCells (Value.int .u8 0).cells (128 * i0.size) := ⟨_, rfl⟩
  have hmk : ∀ W : World, (Instr.makeSlice 26 (.int .i64 128) (.int .i64 128)).run Try.prog W = .ok (.slice (some ⟨W.heap.size, 0, none⟩) 128 128) (W.alloc (.cells Z 5)) := by
    intro W
    have h := run_make (P := Try.prog) W 26 5 i0 (.int .u8 0) Try.underlying26 hi hz0 .i64 .i64 128 128 (by omega) (by omega) (by rw [hz2]; omega) (by omega)
    rw [hZ]
    exact h
  have hZl : Z.toList = u8s (List.replicate 128 0) := by rw [hZ, hz1]; exact madeU 128
  have HZO0 : Hid (∀ W : World, OwnV (W.alloc (.cells Z 5)) (List.replicate 128 0) (.slice (some ⟨W.heap.size, 0, none⟩) 128 128)) := fun W =>
    ⟨_, _, rfl, ownsRow_base (own_new W W.heap.size Z 128 (List.replicate 128 0) hZl (by simp) (by decide) (Nat.le_refl _)) (Nat.zero_le _)⟩
  have HZB : Hid (∀ W : World, Bs (W.alloc (.cells Z 5)) (some ⟨W.heap.size, 0, none⟩) 128 (List.replicate 128 0)) := fun W => by
    have e := own_new W W.heap.size Z 128 (List.replicate 128 0) hZl (by simp) (by decide) (Nat.le_refl _)
    exact Bs.ofo e
  have hin := smallSu_in s
  obtain ⟨⟨y1, y2, y3, y4⟩, hy⟩ : ∃ y, y = smallSu s := ⟨_, rfl⟩
  rw [← hy] at HSM hin
  (try simp only [] at hin)
  obtain ⟨-, hi2, hi3, hi4⟩ := hin
  have HI : Hid ((1 ≤ y2 ∧ y2 ≤ 9) ∧ (0 ≤ y3 ∧ y3 ≤ 8) ∧ (0 ≤ y4 ∧ y4 ≤ 89)) := ⟨hi2, hi3, hi4⟩
  have hwr1 : IntKind.i64.wrap (1 + (p : Int)) = 1 + (p : Int) := wrap_of (by omega) (by omega)
  have kq := su_equal
  obtain ⟨s1, s2, s3, s4⟩ := s
  clear hi2 hi3 hi4 hp hs hn hok hy hZ hZl
  unfold suV at HSM ⊢
  simp only [] at HSM ⊢
  obtain ⟨w0, hw0⟩ : ∃ w0, w0 = W.alloc (.cells #[.int .i64 s1, .int .i64 s2, .int .i64 s3, .int .i64 s4] 23) := ⟨_, rfl⟩
  obtain ⟨bx, hbx⟩ : ∃ bx, bx = W.heap.size := ⟨_, rfl⟩
  have hb0 : Below W.heap.size W w0 := by rw [hw0]; exact (Below.refl _ _).alloc (Nat.le_refl _) _
  have HX0 : Hid (SuAt w0 bx ⟨s1, s2, s3, s4⟩) := by show w0.heap[bx]? = _; rw [hw0, hbx]; exact heap_alloc_new W _
  have HB0 := hid_of hb0
  have HBX : Hid (W.heap.size ≤ bx) := by show _ ≤ _; omega
  obtain ⟨⟨k0, k1, k2, k3⟩, -⟩ := box4 HX0.out
  go_enter Try.func3, Try.ntmps3
  go_upto_region 1 with fail
  rw [← hw0, ← hbx]
  clear hw0 hbx hb0
  go_wp2_with fail
  refine (HSM.out _).mono ?_
  rintro e w1 ⟨rfl, hb1⟩
  have HX1 : Hid (SuAt w1 bx ⟨s1, s2, s3, s4⟩) := HX0.out.below hb1
  have HB1 : Hid (Below W.heap.size W w1) := HB0.out.trans (hb1.mono HB0.out.size)
  clear hb1 k0 k1 k2 k3 HX0 HB0 HSM
  obtain ⟨⟨k0, k1, k2, k3⟩, mf, f1, f2, f3, HST⟩ := box4 HX1.out
  have hput := HX1.out.put (t := ⟨y1, y2, y3, y4⟩)
  obtain ⟨w2, hw2⟩ : ∃ w2, w2 = put4W w1 bx ⟨y1, y2, y3, y4⟩ := ⟨_, rfl⟩
  rw [← hw2] at hput
  have HX2 : Hid (SuAt w2 bx ⟨y1, y2, y3, y4⟩) := hput.1
  have HB2 : Hid (Below W.heap.size W w2) := hput.2.below_of HB1.out (fun k e => by subst e; exact HBX.out) HB1.out.size
  unfold put4W at hw2
  simp only [] at hw2
  go_upto_region 2 with fail
  rw [← hw2]
  clear hw2 hput k0 k1 k2 k3 mf f1 f2 f3 HST HX1 HB1
  obtain ⟨⟨k0, k1, k2, k3⟩, mf, -⟩ := box4 HX2.out
  obtain ⟨w3, hw3⟩ : ∃ w3, w3 = w2.setCell ⟨bx, 0, none⟩ (.int .i64 1) := ⟨_, rfl⟩
  have HX3 : Hid (SuAt w3 bx ⟨1, y2, y3, y4⟩) := by
    have e := heap_setCell_of (o := 0) HX2.out (.int .i64 1)
    rw [← hw3] at e
    exact e
  have HB3 : Hid (Below W.heap.size W w3) := by
    have hk : Kept (fun k => k = bx) w2 w3 := by rw [hw3]; exact Kept.setCell _ _ _ rfl
    exact hk.below_of HB2.out (fun k e => by subst e; exact HBX.out) HB2.out.size
  go_upto_region 3 with fail
  rw [← hw3]
  clear hw3 k0 k1 k2 k3 mf HX2 HB2
  go_wp2_with fail
  refine (HWP.out _).mono ?_
  rintro e w' ⟨rfl, rfl⟩
  go_upto_region 4 with fail
  have hgood := good_small (g := 1) ⟨by decide, by decide⟩ HI.out.1 HI.out.2.1 HI.out.2.2
  obtain ⟨B, hB⟩ : ∃ B, B = w3.heap.size := ⟨_, rfl⟩
  have HBS := hid_of hB
  have HZO : Hid (∀ W : World, OwnV (W.alloc (.cells Z 5)) (List.replicate 128 0) (.slice (some ⟨W.heap.size, 0, none⟩) 128 128)) := HZO0
  have hsz3 := HB3.out.size
  have HLE : Hid (W.heap.size ≤ B) := by show _ ≤ _; omega
  have HPK : Hid (∀ w : World, Below B w3 w → Calls Try.prog 10 #[.agg #[.int .i64 1, .int .i64 y2, .int .i64 y3, .int .i64 y4], .int .i64 4] w fun e w' => ∃ v, e = .returned v ∧ OwnV w' (packSu ⟨1, y2, y3, y4⟩ 4) v ∧ Below w.heap.size w w') := fun w hw => by
    refine (S.packB w ⟨1, y2, y3, y4⟩ 4 (HOK.out _ (HB3.out.trans (hw.mono (by omega)))) hgood.2.2 ⟨by decide, by decide⟩).mono ?_
    rintro e w' ⟨g, k, rfl, ho, hb⟩
    exact ⟨_, rfl, ⟨g, k, rfl, ownsRow_base ho (Nat.zero_le _)⟩, hb⟩
  clear hB hsz3
  refine wp_region_eachN (TnA s1 s2 s3 s4 y1 y2 y3 y4 n0 p bx lost) (TnR B 1 y2 y3 y4 (packSu ⟨1, y2, y3, y4⟩ 4)) (TnL B) (fun vs w => Below B w3 w ∧ (vs 5 = undef ∨ vs 5 = vs 4)) (by kernel_rfl) rfl (by kernel_rfl) ⟨(Below.refl _ _).drew, .inl rfl⟩ TnR.mono ?_ ?_
  · refine ⟨?_, ?_, ?_, ?_, ?_, ?_, trivial⟩
    · -- 0
      intro vs w hS hn hd
      have hX : SuAt w bx ⟨1, y2, y3, y4⟩ := HX3.out.below (by rw [← HBS.out]; exact hS.1)
      obtain ⟨⟨k0, k1, k2, k3⟩, -⟩ := box4 hX
      unfold TnA
      go_wp2_with fail
      exact ⟨rfl, _, rfl, rfl, TnL.of (Below.refl _ _), hS.1, hS.2⟩
    · -- 1
      intro vs w hS hn hd
      have e0 : vs 0 = _ := hd.1 rfl
      have HC := hid_of (HPK.out w hS.1)
      have hBw : B ≤ w.heap.size := by have := hS.1.size; have := HBS.out; omega
      unfold TnA
      simp only [e0]
      go_wp2_with fail
      refine HC.out.mono ?_
      rintro e w4 ⟨v, rfl, ho, hb⟩
      go_wp2_with fail
      exact ⟨rfl, _, (by simp [upd, e0]), ho, TnL.of hb, hS.1.trans (hb.mono hBw), hS.2⟩
    · -- 2
      intro vs w hS hn hd
      have hBw : B ≤ w.heap.size := by have := hS.1.size; have := HBS.out; omega
      unfold TnA
      go_wp2_with fail
      exact ⟨rfl, _, rfl, HZO.out w, TnL.of ((Below.refl _ _).alloc (Nat.le_refl _) _), hS.1.alloc hBw _, hS.2⟩
    · -- 3
      intro vs w hS hn hd
      have h1 := hd.1 rfl
      have h2 := hd.2.1 rfl
      obtain ⟨g1, c1, e1, ho1⟩ := id h1
      obtain ⟨g2, c2, e2, ho2⟩ := id h2
      simp only [] at e1 e2
      clear ho1 ho2
      rw [e1] at h1
      rw [e2] at h2
      have HH1 := hid_of h1
      have HH2 := hid_of h2
      clear h1 h2
      unfold TnA
      simp only [e1, e2]
      go_wp2_with fail
      exact ⟨rfl, _, (by simp [upd, e1, e2]), ⟨_, _, rfl, HH1.out, HH2.out⟩, TnL.of (Below.refl _ _), hS.1, hS.2⟩
    · -- 4
      intro vs w hS hn hd
      have hBw : B ≤ w.heap.size := by have := hS.1.size; have := HBS.out; omega
      have h5 : vs 5 = undef := by rcases hS.2 with h | h; exact h; exact h.trans hn
      unfold TnA
      go_wp2_with fail
      exact ⟨rfl, _, rfl, ⟨_, _, _, rfl, heap_alloc_new _ _, hBw⟩, TnL.of ((Below.refl _ _).alloc (Nat.le_refl _) _), hS.1.alloc hBw _, .inl h5⟩
    · -- 5
      intro vs w hS hn hd
      have h2 := hd.1 rfl
      have h1 := hd.2.1 rfl
      obtain ⟨r0, r1, e3, o0, o1⟩ := h1
      obtain ⟨g, x, y, e4, hg, hB4⟩ := h2
      obtain ⟨g0, c0, rfl, o0'⟩ := id o0
      obtain ⟨g1, c1, rfl, o1'⟩ := id o1
      clear o0' o1'
      have HO := hid_of (And.intro o0 o1)
      have HG := hid_of hg
      have HB4 := hid_of hB4
      have HS := hid_of hS
      obtain ⟨⟨k0, k1⟩, mf, f1, HST⟩ := box2 hg
      clear o0 o1 hg hB4 hS hn
      simp only [] at e3 e4
      unfold TnA
      simp only [e3, e4]
      go_wp2_with fail
      have hst := HST.out (.slice (some ⟨g0, 0, none⟩) 128 c0) (.slice (some ⟨g1, 0, none⟩) 128 c1)
      have hle := TnL.store (B := B) HG.out hst.1 hst.2
      have hBw : B ≤ w.heap.size := by have := HS.out.1.size; have := HBS.out; omega
      exact ⟨rfl, vs 4, (by simp [upd, e3, e4]), ⟨g, _, _, e4, hst.1, HB4.out, HO.out.1.rows hle.rows, HO.out.2.rows hle.rows⟩, hle, hst.2.below_of HS.out.1 (fun k e => by subst e; exact HB4.out) hBw, .inr (by simp [upd])⟩
  · intro vs w hS hR
    obtain ⟨hb4, hl⟩ := hS
    obtain ⟨g, r0, r1, e5, hg, hBg, o0, o1⟩ := hR 5 (by decide)
    have e4 : vs 4 = .pointer (some ⟨g, 0, none⟩) := by
      rcases hl with h | h
      · rw [e5] at h; cases h
      · rw [← h]; exact e5
    have HG := hid_of hg
    have HO := hid_of (And.intro o0 o1)
    have HGB : Hid (W.heap.size ≤ g) := Nat.le_trans HLE.out hBg
    have HX4 : Hid (SuAt w bx ⟨1, y2, y3, y4⟩) := HX3.out.below (by rw [← HBS.out]; exact hb4)
    have HB4 : Hid (Below W.heap.size W w) := HB3.out.trans (hb4.mono HLE.out)
    have HNE : Hid (bx ≠ g) := by
      show _ ≠ _
      intro e
      subst e
      have := HX3.out.lt
      have := HBS.out
      omega
    unfold TnA
    simp only [e4]
    clear hR hl e5 e4 hg o0 o1 hb4 hBg HX3 HB3 HBS HLE
    obtain ⟨q0, q1, q2, q3⟩ : ∃ a b c d, a = vs 0 ∧ b = vs 1 ∧ c = vs 2 ∧ d = vs 3 := ⟨_, _, _, _, rfl, rfl, rfl, rfl⟩
    obtain ⟨q3, hq0, hq1, hq2, hq3⟩ := q3
    rw [← hq0, ← hq1, ← hq2, ← hq3]
    clear hq0 hq1 hq2 hq3
    obtain ⟨⟨k0, k1, k2, k3⟩, -⟩ := box4 HX4.out
    obtain ⟨w5, hw5⟩ : ∃ w5, w5 = w.alloc (.cells #[.int .i64 1, .int .i64 y2, .int .i64 y3, .int .i64 y4] 23) := ⟨_, rfl⟩
    obtain ⟨tx, htx⟩ : ∃ tx, tx = w.heap.size := ⟨_, rfl⟩
    have hgl : g < w.heap.size := (Array.getElem?_eq_some_iff.1 HG.out).1
    have hbl5 : Below w.heap.size w w5 := by rw [hw5]; exact (Below.refl _ _).alloc (Nat.le_refl _) _
    have HB5 : Hid (Below W.heap.size W w5) := HB4.out.trans (hbl5.mono HB4.out.size)
    have HNE5 : Hid (W.heap.size ≤ tx ∧ g ≠ tx) := ⟨by rw [htx]; exact HB4.out.size, by omega⟩
    have HT5 : Hid (TnT w5 g tx ⟨1, y2, y3, y4⟩ (packSu ⟨1, y2, y3, y4⟩ 4) (List.replicate 128 0)) := ⟨by
      show w5.heap[tx]? = _
      rw [hw5, htx]
      exact heap_alloc_new _ _, r0, r1, Firm.of_below hbl5 _ _ _ _ HG.out, HO.out.1.rows (TnL.of (B := B) (i := 0) hbl5).rows, HO.out.2.rows (TnL.of (B := B) (i := 0) hbl5).rows⟩
    have HSL : Hid (SlotsP 0 ⟨1, y2, y3, y4⟩ (packSu ⟨1, y2, y3, y4⟩ 4) (List.replicate 128 0)) := SlotsP.first hgood.1 hgood.2.1
    go_upto_block 0 with fail
    rw [← hw5, ← htx]
    clear hw5 htx hgl hbl5 k0 k1 k2 k3 HG HO HX4 HB4 HNE HPK HZO HZB hgood hmk hz0 hz1 hz2 hi
    go_cut [6, 9, 10, 11] from 27 to 58 (fun _ _ _ _ wx => ∃ (j : Nat) (l0 l1 : List Nat) (G R : Int), j ≤ 8 ∧ Hid (G = (j : Int) + 1) ∧ Hid (SlotsP j ⟨G, y2, y3, R⟩ l0 l1) ∧ Hid (TnT wx g tx ⟨G, y2, y3, R⟩ l0 l1) ∧ Hid (Below W.heap.size W wx))
    case first =>
      go_wp2_with fail
      go_loopw [6, 9, 10, 11] (fun _ v _ _ ws => ∃ (j : Nat) (l0 l1 : List Nat) (G R : Int), j ≤ 1 + p ∧ v = .int .i64 (j : Int) ∧ Hid (0 ≤ R ∧ R ≤ 89) ∧ Hid (G = (j : Int) + 1) ∧ Hid (SlotsP j ⟨G, y2, y3, R⟩ l0 l1) ∧ Hid (TnT ws g tx ⟨G, y2, y3, R⟩ l0 l1) ∧ Hid (Below W.heap.size W ws)) (fun _ v _ _ _ => 1 + p - (intOf v).toNat)
      case atStart => exact ⟨0, _, _, 1, y4, Nat.zero_le _, rfl, HI.out.2.2, (by show (1 : Int) = _; omega), HSL.out, HT5.out, HB5.out⟩
      case round =>
        obtain ⟨j, l0, l1, G, R, hj, rfl, HR, hG, HSL, HT, HB⟩ := hrel
        by_cases hlt : j < 1 + p
        · obtain ⟨⟨k0, k1, k2, k3⟩, -⟩ := box4 HT.out.1
          obtain ⟨w6, hw6⟩ : ∃ w6, w6 = wr.alloc (.cells #[.int .i64 G, .int .i64 y2, .int .i64 y3, .int .i64 R] 23) := ⟨_, rfl⟩
          obtain ⟨ux, hux⟩ : ∃ ux, ux = wr.heap.size := ⟨_, rfl⟩
          have hb6 : Below wr.heap.size wr w6 := by rw [hw6]; exact (Below.refl _ _).alloc (Nat.le_refl _) _
          have HT6 := hid_of (HT.out.below hb6)
          have HU6 : Hid (SuAt w6 ux ⟨G, y2, y3, R⟩) := by show w6.heap[ux]? = _; rw [hw6, hux]; exact heap_alloc_new _ _
          have HB6 : Hid (Below W.heap.size W w6) := HB.out.trans (hb6.mono HB.out.size)
          have HUX : Hid (W.heap.size ≤ ux ∧ g ≠ ux ∧ tx ≠ ux) := by
            obtain ⟨h1, r0, r1, h2, -⟩ := HT.out
            have e1 := h1.lt
            have e2 := (Array.getElem?_eq_some_iff.1 h2).1
            have e3 := HB.out.size
            exact ⟨by omega, by omega, by omega⟩
          go_upto_region 10 with fail
          rw [← hw6, ← hux]
          clear hw6 hux hb6 k0 k1 k2 k3 HT HB
          obtain ⟨⟨k0, k1, k2, k3⟩, mf, -⟩ := box4 HU6.out
          have hGr : -9223372036854775808 ≤ G + 1 ∧ G + 1 ≤ 9223372036854775807 := by have := hG.out; omega
          have hwG : IntKind.i64.wrap (G + 1) = G + 1 := wrap_of hGr.1 hGr.2
          obtain ⟨w7, hw7⟩ : ∃ w7, w7 = (w6.setCell ⟨ux, 0, none⟩ (.int .i64 (G + 1))).setCell ⟨ux, 3, none⟩ (.int .i64 (j : Int)) := ⟨_, rfl⟩
          have hk7 : Kept (fun k => k = ux) w6 w7 := by rw [hw7]; exact (Kept.setCell (F := fun k => k = ux) _ ⟨ux, 0, none⟩ _ rfl).trans (Kept.setCell _ ⟨ux, 3, none⟩ _ rfl)
          have HU7 : Hid (SuAt w7 ux ⟨G + 1, y2, y3, (j : Int)⟩) := by
            have q1 := heap_setCell_of (o := 0) HU6.out (.int .i64 (G + 1))
            have q2 := heap_setCell_of (o := 3) q1 (.int .i64 (j : Int))
            rw [← hw7] at q2
            exact q2
          have HT7 := hid_of (HT6.out.kept hk7 HU6.out (by decide) HUX.out.2.1 HUX.out.2.2)
          have HB7 : Hid (Below W.heap.size W w7) := hk7.below_of HB6.out (fun k e => by subst e; exact HUX.out.1) HB6.out.size
          go_upto_region 12 with fail
          rw [← hw7]
          clear hw7 hk7 HT6 HU6 HB6 mf k0 k1 k2 k3
          obtain ⟨⟨a0, a1, a2, a3⟩, -⟩ := box4 HT7.out.1
          have hwp : IntKind.i64.wrap (1 + (p : Int) - 1) = (p : Int) := by rw [show 1 + (p : Int) - 1 = (p : Int) by omega]; exact wrap_of (by omega) (by omega)
          have hgG : GoodSu ⟨G + 1, y2, y3, (j : Int)⟩ 4 ∧ maySu ⟨G + 1, y2, y3, (j : Int)⟩ 4 ∧ Su64 ⟨G + 1, y2, y3, (j : Int)⟩ := good_small (by have := hG.out; omega) HI.out.1 HI.out.2.1 (by omega)
          have hgood := good_small (g := G) (r := R) (by have := hG.out; omega) HI.out.1 HI.out.2.1 HR.out
          have HNX := hid_of (NX w7 ⟨G, y2, y3, R⟩ hgood.2.2)
          rcases (by omega : j % 2 = 0 ∨ j % 2 = 1) with hpar | hpar
          · have hnx : nextSu ⟨G, y2, y3, R⟩ = 1 := by unfold nextSu; show max G 0 % 2 = 1; have := hG.out; omega
            rw [hnx] at HNX
            have HPA : Hid (j % 2 = 0) := hpar
            clear hnx hpar
            go_wp2_with fail
            refine HNX.out.mono ?_
            rintro e w8 ⟨rfl, hb8⟩
            have HT8 := hid_of (HT7.out.below hb8)
            have HU8 := hid_of (HU7.out.below hb8)
            have HB8 : Hid (Below W.heap.size W w8) := HB7.out.trans (hb8.mono HB7.out.size)
            clear hb8 HT7 HU7 HB7 HNX a0 a1 a2 a3
            by_cases hbr : lost = true ∧ (j : Int) = (p : Int)
            · obtain ⟨rfl, hbr⟩ := hbr
              go_wp2_with fail
              go_meet
              exact ⟨j, l0, l1, G, R, by omega, hG.out, HSL.out, HT8.out, HB8.out⟩
            · obtain ⟨⟨a0, a1, a2, a3⟩, -⟩ := box4 HU8.out
              have HPK := hid_of (S.packB w8 ⟨G + 1, y2, y3, (j : Int)⟩ 4 (HOK.out _ HB8.out) hgG.2.2 ⟨by decide, by decide⟩)
              have hbr2 : lost = false ∨ (lost = true ∧ (j : Int) ≠ (p : Int)) := by
                cases lost
                · exact .inl rfl
                · exact .inr ⟨rfl, fun e => hbr ⟨rfl, e⟩⟩
              clear hbr
              rcases hbr2 with rfl | ⟨rfl, hne⟩
              all_goals go_wp2_with fail
              all_goals (refine HPK.out.mono ?_)
              all_goals (rintro e w9 ⟨g9, c9, rfl, ho9, hb9⟩)
              all_goals (
                have HV : Hid (OwnV w9 (packSu ⟨G + 1, y2, y3, (j : Int)⟩ 4) (.slice (some ⟨g9, 0, none⟩) 128 c9)) := ⟨g9, c9, rfl, ownsRow_base ho9 (Nat.zero_le _)⟩
                have HT9 := hid_of (HT8.out.below hb9)
                have HU9 := hid_of (HU8.out.below hb9)
                have HB9 : Hid (Below W.heap.size W w9) := HB8.out.trans (hb9.mono HB8.out.size)
                clear HT8 HU8 HB8 HPK ho9 hb9 a0 a1 a2 a3
                obtain ⟨r0', r1', hg9⟩ : ∃ r0 r1, w9.heap[g]? = some (.cells #[r0, r1] 28 (0, 0)) := by obtain ⟨-, r0, r1, h2, -⟩ := HT9.out; exact ⟨r0, r1, h2⟩
                obtain ⟨⟨a0, a1⟩, mf, -⟩ := box2 hg9
                clear hg9
                have HT10 : Hid (TnT (w9.setCell ⟨g, 1, none⟩ (.slice (some ⟨g9, 0, none⟩) 128 c9)) g tx ⟨G, y2, y3, R⟩ l0 (packSu ⟨G + 1, y2, y3, (j : Int)⟩ 4)) := HT9.out.one HNE5.out.2 HV.out (by decide)
                obtain ⟨w10, hw10⟩ : ∃ w10, w10 = w9.setCell ⟨g, 1, none⟩ (.slice (some ⟨g9, 0, none⟩) 128 c9) := ⟨_, rfl⟩
                rw [← hw10] at HT10
                have hk10 : Kept (fun k => k = g) w9 w10 := by rw [hw10]; exact Kept.setCell _ _ _ rfl
                have HU10 := hid_of (HU9.out.kept hk10 (fun e => HUX.out.2.1 e.symm))
                have HB10 : Hid (Below W.heap.size W w10) := hk10.below_of HB9.out (fun k e => by subst e; exact HGB.out) HB9.out.size)
              all_goals go_upto_region 17 with fail
              all_goals (
                rw [← hw10]
                clear hw10 hk10 HT9 HU9 HB9 HV a0 a1 mf
                obtain ⟨⟨a0, a1, a2, a3⟩, -⟩ := box4 HU10.out
                obtain ⟨⟨d0, d1, d2, d3⟩, mf, f1, f2, f3, -⟩ := box4 HT10.out.1
                have hn := HT10.out.new (t := ⟨G + 1, y2, y3, (j : Int)⟩) HNE5.out.2
                have HT11 := hid_of hn.1
                have HB11 : Hid (Below W.heap.size W (put4W w10 tx ⟨G + 1, y2, y3, (j : Int)⟩)) := hn.2.below_of HB10.out (fun k e => by subst e; exact HNE5.out.1) HB10.out.size
                clear hn)
              all_goals go_wp2_with fail
              all_goals go_roundw
              all_goals first
                | exact ⟨j + 1, _, _, G + 1, (j : Int), by omega, by go_num, ⟨by omega, by omega⟩, (by show G + 1 = _; have := hG.out; omega), HSL.out.next1 HPA.out hgG.1 hgG.2.1 (by show G < G + 1; omega), HT11.out, HB11.out⟩
                | (simp [intOf]; omega)
          · have hnx : nextSu ⟨G, y2, y3, R⟩ = 0 := by unfold nextSu; show max G 0 % 2 = 0; have := hG.out; omega
            rw [hnx] at HNX
            have HPA : Hid (j % 2 = 1) := hpar
            clear hnx hpar
            go_wp2_with fail
            refine HNX.out.mono ?_
            rintro e w8 ⟨rfl, hb8⟩
            have HT8 := hid_of (HT7.out.below hb8)
            have HU8 := hid_of (HU7.out.below hb8)
            have HB8 : Hid (Below W.heap.size W w8) := HB7.out.trans (hb8.mono HB7.out.size)
            clear hb8 HT7 HU7 HB7 HNX a0 a1 a2 a3
            by_cases hbr : lost = true ∧ (j : Int) = (p : Int)
            · obtain ⟨rfl, hbr⟩ := hbr
              go_wp2_with fail
              go_meet
              exact ⟨j, l0, l1, G, R, by omega, hG.out, HSL.out, HT8.out, HB8.out⟩
            · obtain ⟨⟨a0, a1, a2, a3⟩, -⟩ := box4 HU8.out
              have HPK := hid_of (S.packB w8 ⟨G + 1, y2, y3, (j : Int)⟩ 4 (HOK.out _ HB8.out) hgG.2.2 ⟨by decide, by decide⟩)
              have hbr2 : lost = false ∨ (lost = true ∧ (j : Int) ≠ (p : Int)) := by
                cases lost
                · exact .inl rfl
                · exact .inr ⟨rfl, fun e => hbr ⟨rfl, e⟩⟩
              clear hbr
              rcases hbr2 with rfl | ⟨rfl, hne⟩
              all_goals go_wp2_with fail
              all_goals (refine HPK.out.mono ?_)
              all_goals (rintro e w9 ⟨g9, c9, rfl, ho9, hb9⟩)
              all_goals (
                have HV : Hid (OwnV w9 (packSu ⟨G + 1, y2, y3, (j : Int)⟩ 4) (.slice (some ⟨g9, 0, none⟩) 128 c9)) := ⟨g9, c9, rfl, ownsRow_base ho9 (Nat.zero_le _)⟩
                have HT9 := hid_of (HT8.out.below hb9)
                have HU9 := hid_of (HU8.out.below hb9)
                have HB9 : Hid (Below W.heap.size W w9) := HB8.out.trans (hb9.mono HB8.out.size)
                clear HT8 HU8 HB8 HPK ho9 hb9 a0 a1 a2 a3
                obtain ⟨r0', r1', hg9⟩ : ∃ r0 r1, w9.heap[g]? = some (.cells #[r0, r1] 28 (0, 0)) := by obtain ⟨-, r0, r1, h2, -⟩ := HT9.out; exact ⟨r0, r1, h2⟩
                obtain ⟨⟨a0, a1⟩, mf, -⟩ := box2 hg9
                clear hg9
                have HT10 : Hid (TnT (w9.setCell ⟨g, 0, none⟩ (.slice (some ⟨g9, 0, none⟩) 128 c9)) g tx ⟨G, y2, y3, R⟩ (packSu ⟨G + 1, y2, y3, (j : Int)⟩ 4) l1) := HT9.out.one HNE5.out.2 HV.out (by decide)
                obtain ⟨w10, hw10⟩ : ∃ w10, w10 = w9.setCell ⟨g, 0, none⟩ (.slice (some ⟨g9, 0, none⟩) 128 c9) := ⟨_, rfl⟩
                rw [← hw10] at HT10
                have hk10 : Kept (fun k => k = g) w9 w10 := by rw [hw10]; exact Kept.setCell _ _ _ rfl
                have HU10 := hid_of (HU9.out.kept hk10 (fun e => HUX.out.2.1 e.symm))
                have HB10 : Hid (Below W.heap.size W w10) := hk10.below_of HB9.out (fun k e => by subst e; exact HGB.out) HB9.out.size)
              all_goals go_upto_region 17 with fail
              all_goals (
                rw [← hw10]
                clear hw10 hk10 HT9 HU9 HB9 HV a0 a1 mf
                obtain ⟨⟨a0, a1, a2, a3⟩, -⟩ := box4 HU10.out
                obtain ⟨⟨d0, d1, d2, d3⟩, mf, f1, f2, f3, -⟩ := box4 HT10.out.1
                have hn := HT10.out.new (t := ⟨G + 1, y2, y3, (j : Int)⟩) HNE5.out.2
                have HT11 := hid_of hn.1
                have HB11 : Hid (Below W.heap.size W (put4W w10 tx ⟨G + 1, y2, y3, (j : Int)⟩)) := hn.2.below_of HB10.out (fun k e => by subst e; exact HNE5.out.1) HB10.out.size
                clear hn)
              all_goals go_wp2_with fail
              all_goals go_roundw
              all_goals first
                | exact ⟨j + 1, _, _, G + 1, (j : Int), by omega, by go_num, ⟨by omega, by omega⟩, (by show G + 1 = _; have := hG.out; omega), HSL.out.next0 HPA.out hgG.1 hgG.2.1 (by show G < G + 1; omega), HT11.out, HB11.out⟩
                | (simp [intOf]; omega)
        · go_wp2_with fail
          go_meet
          exact ⟨j, l0, l1, G, R, by omega, hG.out, HSL.out, HT.out, HB.out⟩
    case rest =>
      obtain ⟨j, l0, l1, G, R, hj, hG, HSL, HT, HB⟩ := hcut
      clear HT5 HB5 HI HWP
      obtain ⟨hX, r0', r1', hg, o0, o1⟩ := HT.out
      obtain ⟨g0, c0, rfl, o0'⟩ := id o0
      obtain ⟨g1, c1, rfl, o1'⟩ := id o1
      have HCH := hid_of (CH wc _ 128 c0 l0 _ 128 c1 l1 (HOK.out _ HB.out) (Bs.ofo o0') HSL.out.len.1 (by decide) HSL.out.byte.1 (Bs.ofo o1') HSL.out.len.2 (by decide) HSL.out.byte.2)
      rw [HSL.out.choose] at HCH
      obtain ⟨⟨a0, a1⟩, -⟩ := box2 hg
      have HX := hid_of hX
      clear o0 o1 o0' o1' hg hX HT
      unfold suV at HCH
      simp only [] at HCH
      go_wp2_with fail
      refine HCH.out.mono ?_
      rintro e w6 ⟨rfl, hb6⟩
      have HX6 := hid_of (HX.out.below hb6)
      have HB6 : Hid (Below W.heap.size W w6) := HB.out.trans (hb6.mono HB.out.size)
      clear hb6 HX HB HCH a0 a1
      go_upto_region 19 with fail
      obtain ⟨w7, hw7⟩ : ∃ w7, w7 = w6.alloc (.cells #[.int .i64 G, .int .i64 y2, .int .i64 y3, .int .i64 R] 23) := ⟨_, rfl⟩
      obtain ⟨rx, hrx⟩ : ∃ rx, rx = w6.heap.size := ⟨_, rfl⟩
      have hbl7 : Below w6.heap.size w6 w7 := by rw [hw7]; exact (Below.refl _ _).alloc (Nat.le_refl _) _
      have HX7 := hid_of (HX6.out.below hbl7)
      have HR7 : SuAt w7 rx ⟨G, y2, y3, R⟩ := by show w7.heap[rx]? = _; rw [hw7, hrx]; exact heap_alloc_new _ _
      have HB7 : Hid (Below W.heap.size W w7) := HB6.out.trans (hbl7.mono HB6.out.size)
      rw [← hw7, ← hrx]
      obtain ⟨⟨a0, a1, a2, a3⟩, -⟩ := box4 HX7.out
      obtain ⟨⟨d0, d1, d2, d3⟩, -⟩ := box4 HR7
      clear hw7 hrx hbl7 HX6 HB6 HR7
      have hwG : IntKind.i64.wrap (G + 1) = G + 1 := by have := hG.out; exact wrap_of (by omega) (by omega)
      obtain ⟨q, hq⟩ : ∃ q, q = (j : Int) % 2 := ⟨_, rfl⟩
      have htm : (G + 1).tmod 2 = q := by have := hG.out; rw [Int.tmod_eq_emod_of_nonneg (by omega)]; omega
      have hq2 : -9223372036854775808 ≤ q ∧ q ≤ 9223372036854775807 := by omega
      have hwq : IntKind.i64.wrap q = q := wrap_of hq2.1 hq2.2
      rw [← hq]
      clear hq hq2
      go_wp2_with fail
      refine (HWK.out _ HB7.out).mono ?_
      rintro e w8 ⟨rfl, hb8⟩
      have HB8 : Hid (Below W.heap.size W w8) := HB7.out.trans (hb8.mono HB7.out.size)
      clear hb8
      go_wp2_with fail
      go_ret
      first | exact ⟨rfl, HB8.out⟩ | exact HB8.out

end Go.Proofs.Ytdcnbakmmkbodaa

/- 'copy(b, s)': bytes over the head of a row of bytes of the call's own. -/
namespace Go.Proofs.Ytdcnbakmmkbodaa
set_option linter.unusedVariables false
set_option linter.unusedSimpArgs false
open Go.RowKit Dg

/-- The bytes of l that fit laid over the head of L. -/
def over (l L : List Nat) : List Nat := l.take L.length ++ L.drop (min l.length L.length)
theorem length_over (l L : List Nat) : (over l L).length = L.length := by unfold over; simp; omega
theorem over_zeros {l : List Nat} {n : Nat} (h : l.length ≤ n) : over l (List.replicate n 0) = l ++ List.replicate (n - l.length) 0 := by
  unfold over
  rw [List.length_replicate, List.take_of_length_le h, List.drop_replicate, Nat.min_eq_left h]
theorem over_long {l L : List Nat} (h : L.length ≤ l.length) : over l L = l.take L.length := by
  unfold over
  rw [Nat.min_eq_right h, List.drop_length, List.append_nil]
theorem Kept.setRow (w : World) (g : Nat) (cs : Array Value) : Kept (fun k => k = g) w (w.setRow g cs) := ⟨rfl, rfl, rfl, by simp [World.setRow], fun k hk hf => setRow_other w g k cs hf⟩

theorem wpList_copy_bytes {P : Program} {w : World} {ops : Array Oper} {rest : List Oper} {o : Oper} {a : Act} {Q : Exit → Act → World → Prop} (hgd : o.guard = none) (d s : Operand) (dT sT : TypeId)
    (ho : o.op = .call { callee := .builtin .copy, args := #[d, s], argTypes := #[dT, sT] }) (hu : P.underlying dT = some (.slice 5)) (hsz : (P.info? 5).map (·.size) = some 1)
    (B g c : Nat) (L : List Nat) (hown : OwnBytes w B (.slice (some ⟨g, 0, none⟩) L.length c) L) (sp : Option Addr) (sCap : Nat) (l : List Nat) (hS : SlAt w (.slice sp l.length sCap) l)
    (hd : a.eval d = .slice (some ⟨g, 0, none⟩) L.length c) (hs : a.eval s = .slice sp l.length sCap)
    (h : ∀ w', Hid (OwnBytes w' B (.slice (some ⟨g, 0, none⟩) L.length c) (over l L)) → Hid (Kept (fun k => k = g) w w') → wpList P ops Q rest (a.put o.dst (goInt ((min l.length L.length : Nat) : Int))) w') : wpList P ops Q (o :: rest) a w := by
  by_cases h0 : min l.length L.length = 0
  · refine wpList_copy_nothing hgd d s dT sT ho 5 hu hsz _ _ _ _ _ _ hd hs h0 ?_
    have e : over l L = L := by
      unfold over
      rw [h0, List.drop_zero]
      have h1 : (l.take L.length).length = 0 := by rw [List.length_take]; omega
      rw [List.eq_nil_of_length_eq_zero h1]
      rfl
    have h2 := h w (by rw [e]; exact hown) (Kept.refl _ _)
    rw [h0] at h2
    exact h2
  · rcases hown.2 with ⟨e1, _⟩ | ⟨g', cap', cur, hv, hgb, hh, hncap, hm, hcs, htake⟩
    · cases e1
    · cases hv
      obtain ⟨ao, cp, hv2, hc⟩ := hS
      cases hv2
      obtain ⟨b, off, rfl, -⟩ := hc 0 (l[0]'(by omega)) (by rw [List.getElem?_eq_getElem])
      have hlen : (u8s (l.take L.length)).length = min l.length L.length := by simp [Nat.min_comm]
      have hcsz : L.length ≤ cur.size := by
        have h3 := congrArg List.length htake
        simp at h3
        omega
      refine wpList_copy_own hgd d s dT sT ho 5 hu hsz g 0 L.length c ⟨b, off, none⟩ l.length sCap hd hs cur 5 hh (u8s (l.take L.length)) hlen ?_ (by rw [hlen]; omega) ?_ ?_
      · intro j v hj
        rw [u8s_get] at hj
        obtain ⟨x, hx, rfl⟩ := Option.map_eq_some_iff.1 hj
        rw [List.getElem?_take] at hx
        split at hx
        · obtain ⟨b', off', hao, hcell⟩ := hc j x hx
          cases hao
          have hadd : (⟨b, off, none⟩ : Addr).add j = ⟨b, off + j, none⟩ := by simp [Addr.add]
          rw [hadd]
          exact hcell
        · cases hx
      · intro v hv
        obtain ⟨x, -, rfl⟩ := List.mem_map.1 hv
        rfl
      · have h4 := h (w.setRow g (cur.toList.take 0 ++ (u8s (l.take L.length) ++ cur.toList.drop (0 + (u8s (l.take L.length)).length))).toArray) ?_ (Kept.setRow _ _ _)
        · rw [hlen]
          rw [hlen] at h4
          exact h4
        · show OwnBytes _ _ _ _
          unfold OwnBytes
          rw [length_over]
          refine ⟨by simp [length_over], .inr ⟨g, c, _, rfl, hgb, setRow_heap w g _ _ 5 _ hh, hncap, hm, ?_, ?_⟩⟩
          · rw [hlen]; simp; omega
          · rw [hlen]
            unfold over
            have e1 : u8s (L.drop (min l.length L.length)) = (u8s L).drop (min l.length L.length) := by simp [u8s]
            rw [u8s_append, e1, ← htake, List.take_zero, List.nil_append, Nat.zero_add, List.take_append, hlen, List.drop_take, List.take_of_length_le (by rw [hlen]; omega)]

/-- The same over a row whose length is given by a number. -/
theorem wpList_copy_n {P : Program} {w : World} {ops : Array Oper} {rest : List Oper} {o : Oper} {a : Act} {Q : Exit → Act → World → Prop} (hgd : o.guard = none) (d s : Operand) (dT sT : TypeId)
    (ho : o.op = .call { callee := .builtin .copy, args := #[d, s], argTypes := #[dT, sT] }) (hu : P.underlying dT = some (.slice 5)) (hsz : (P.info? 5).map (·.size) = some 1)
    (B g c n : Nat) (L : List Nat) (hn : L.length = n) (hown : w.ownsRow B 5 1 (.slice (some ⟨g, 0, none⟩) n c) n (u8s L)) (sp : Option Addr) (sCap : Nat) (l : List Nat) (hS : SlAt w (.slice sp l.length sCap) l)
    (hd : a.eval d = .slice (some ⟨g, 0, none⟩) n c) (hs : a.eval s = .slice sp l.length sCap)
    (h : ∀ w' (k : Nat), Hid (w'.ownsRow B 5 1 (.slice (some ⟨g, 0, none⟩) n c) n (u8s (over l L))) → Hid (Kept (fun k => k = g) w w') → wpList P ops Q rest (a.put o.dst (goInt (k : Int))) w') : wpList P ops Q (o :: rest) a w := by
  subst hn
  refine wpList_copy_bytes hgd d s dT sT ho hu hsz B g c L hown sp sCap l hS hd hs (fun w' h1 h2 => h w' _ ?_ h2)
  have h3 := h1.out
  unfold OwnBytes at h3
  rw [length_over] at h3
  exact h3

/-- The bytes of l laid into L from place off on. -/
def into (L : List Nat) (off : Nat) (l : List Nat) : List Nat := L.take off ++ (l ++ L.drop (off + l.length))
theorem length_into {L l : List Nat} {off : Nat} (h : off + l.length ≤ L.length) : (into L off l).length = L.length := by unfold into; simp; omega
/-- 'copy(b[off:], s)': bytes into the midst of a row of the call's own, as a step of a region. -/
theorem run_copy_into {P : Program} {w : World} (dT sT ty : TypeId) (hu : P.underlying dT = some (.slice 5)) (hsz : (P.info? 5).map (·.size) = some 1)
    (B g c n off k dc : Nat) (L : List Nat) (hn : L.length = n) (hown : w.ownsRow B 5 1 (.slice (some ⟨g, 0, none⟩) n c) n (u8s L)) (b0 o0 sCap : Nat) (l : List Nat) (hk : l.length = k) (hfit : off + k ≤ n) (hS : SlAt w (.slice (some ⟨b0, o0, none⟩) k sCap) l) :
    ∃ w', (Builtin.copy_ #[dT, sT] ty #[.slice (some ⟨g, off, none⟩) k dc, .slice (some ⟨b0, o0, none⟩) k sCap]).run P w = .ok (goInt (k : Int)) w' ∧ w'.ownsRow B 5 1 (.slice (some ⟨g, 0, none⟩) n c) n (u8s (into L off l)) ∧ Kept (fun k => k = g) w w' := by
  subst hn hk
  rcases hown.2 with ⟨e1, _⟩ | ⟨g', cap', cur, hv, hgb, hh, hncap, hm, hcs, htake⟩
  · cases e1
  · cases hv
    have hlen : (u8s l).length = l.length := by simp
    have hcsz : L.length ≤ cur.size := by
      have h3 := congrArg List.length htake
      simp at h3
      omega
    have hrun := run_copy_row (P := P) w dT sT ty 5 g off l.length dc ⟨b0, o0, none⟩ l.length sCap cur 5 (u8s l) hu hsz hh (by rw [hlen]; exact (Nat.min_self _).symm) ?_ (by rw [hlen]; omega) ?_
    · rw [hlen] at hrun
      refine ⟨_, hrun, ?_, Kept.setRow _ _ _⟩
      refine ⟨by simp [length_into hfit], .inr ⟨g, c, _, rfl, hgb, setRow_heap w g _ _ 5 _ hh, hncap, hm, ?_, ?_⟩⟩
      · simp; omega
      · unfold into
        rw [u8s_append, u8s_append]
        have e1 : u8s (L.take off) = (u8s L).take off := by simp [u8s]
        have e2 : u8s (L.drop (off + l.length)) = (u8s L).drop (off + l.length) := by simp [u8s]
        rw [e1, e2, ← htake, Nat.mul_one, List.take_take, List.drop_take, Nat.min_eq_left (by omega : off ≤ L.length)]
        have h5 : (cur.toList.take off).length = off := by simp; omega
        simp only [List.toList_toArray]
        generalize cur.toList.take off = A at h5 ⊢
        generalize cur.toList.drop (off + l.length) = D
        rw [List.append_assoc, List.take_append, h5, List.take_append, hlen, List.take_of_length_le (l := A) (by omega), List.take_of_length_le (l := u8s l) (by rw [hlen]; omega), Nat.sub_sub]
    · intro j v hj
      rw [u8s_get] at hj
      obtain ⟨x, hx, rfl⟩ := Option.map_eq_some_iff.1 hj
      obtain ⟨ao, cp, hv2, hc⟩ := hS
      cases hv2
      obtain ⟨b', off'', hao, hcell⟩ := hc j x hx
      cases hao
      have hadd : (⟨b0, o0, none⟩ : Addr).add j = ⟨b0, o0 + j, none⟩ := by simp [Addr.add]
      rw [hadd]
      exact hcell
    · intro v hv
      obtain ⟨x, -, rfl⟩ := List.mem_map.1 hv
      rfl

end Go.Proofs.Ytdcnbakmmkbodaa
