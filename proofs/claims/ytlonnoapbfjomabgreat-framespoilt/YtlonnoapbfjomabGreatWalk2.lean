/- What a writer is in memory; add, by its contract. -/
import Derived.Test.YtlonnoapbfjomabGreatWalk1
namespace Go.Proofs.YtlonnoapbfjomabGreat
set_option linter.unusedVariables false
set_option linter.unusedSimpArgs false
open Go.RowKit Dg

/-- A writer in memory: its struct lies at block b, its row in the value rv. -/
structure WrAt (w : World) (b : Nat) (rv : Value) (ds : List Bool) : Prop where
  box : w.heap[b]? = some (.cells #[rv, .int .i64 (ds.length : Nat)] 80 (0, 0))
  own : w.ownsRow (b + 1) 5 1 rv ((ds.length + 7) / 8) (u8s (pack ds))
/-- What it lies in. -/
def Wf (b : Nat) (rv : Value) (k : Nat) : Prop := k = b ∨ rv.ownBlock = some k

theorem WrAt.other {w w' : World} {b : Nat} {rv : Value} {ds : List Bool} {F : Nat → Prop} (h : WrAt w b rv ds) (hk : Kept F w w') (hF : ∀ k, Wf b rv k → ¬ F k) : WrAt w' b rv ds :=
  ⟨by rw [hk.block b (Array.getElem?_eq_some_iff.1 h.box).1 (hF b (Or.inl rfl))]; exact h.box, ownsRow_other h.own hk fun k hk' => hF k (Or.inr hk')⟩
theorem WrAt.drew {w : World} {b : Nat} {rv : Value} {ds : List Bool} (h : WrAt w b rv ds) : WrAt w.drew b rv ds := ⟨h.box, h.own⟩
theorem WrAt.lt {w : World} {b : Nat} {rv : Value} {ds : List Bool} (h : WrAt w b rv ds) : b < w.heap.size := (Array.getElem?_eq_some_iff.1 h.box).1
theorem WrAt.foot {w : World} {b : Nat} {rv : Value} {ds : List Bool} (h : WrAt w b rv ds) : ∀ k, Wf b rv k → b ≤ k ∧ k < w.heap.size := by
  rintro k (rfl | hk)
  · exact ⟨Nat.le_refl _, h.lt⟩
  · have := h.own.lt k hk; omega

/-- What a change of a writer leaves: the writer, changed; all else is as it was; its row is the old one's or new. -/
def Wrote (w w' : World) (b : Nat) (rv : Value) (ds : List Bool) : Prop :=
  ∃ rv', WrAt w' b rv' ds ∧ Kept (Wf b rv) w w' ∧ (∀ k, rv'.ownBlock = some k → rv.ownBlock = some k ∨ w.heap.size ≤ k)

theorem Wrote.trans {w w1 w2 : World} {b : Nat} {rv rv1 : Value} {ds : List Bool} (hk : Kept (Wf b rv) w w1) (hn : ∀ k, rv1.ownBlock = some k → rv.ownBlock = some k ∨ w.heap.size ≤ k) (h2 : Wrote w1 w2 b rv1 ds) : Wrote w w2 b rv ds := by
  obtain ⟨rv2, hw, hk2, hn2⟩ := h2
  refine ⟨rv2, hw, hk.trans' hk2 ?_, ?_⟩
  · rintro i hi (rfl | h)
    · exact Or.inl rfl
    · rcases hn i h with h | h
      · exact Or.inr h
      · omega
  · intro k hk'
    rcases hn2 k hk' with h | h
    · exact hn k h
    · have := hk.size; exact Or.inr (by omega)


theorem add_any (w : World) (b : Nat) (rv : Value) (ds : List Bool) (d : Bool) (h : WrAt w b rv ds) (hlt : ds.length < 4398046511104) :
    Calls Tryz.prog 70 #[.pointer (some ⟨b, 0, none⟩), .int .u8 (d.toNat : Int)] w fun e w' => e = .returned (.tuple #[]) ∧ Wrote w w' b rv (ds ++ [d]) := by
  have hb0 : w.cell? ⟨b, 0, none⟩ = some rv := by simp [World.cell?, h.box]
  have hb1 : w.cell? ⟨b, 1, none⟩ = some (.int .i64 (ds.length : Nat)) := by simp [World.cell?, h.box]
  have fb0 : w.frozen? ⟨b, 0, none⟩ = false := by simp [World.frozen?, h.box]
  have fb1 : w.frozen? ⟨b, 1, none⟩ = false := by simp [World.frozen?, h.box]
  have hbs := h.lt
  by_cases hm : ds.length % 8 = 0
  · have e8 : (ds.length + 7) / 8 = ds.length / 8 := by omega
    have hown := h.own
    rw [e8] at hown
    refine (add_new w b ds.length d.toNat rv (u8s (pack ds)) (by simp; omega) hlt hbs hb0 hb1 fb0 fb1 hown).mono ?_
    rintro e w' ⟨rfl, w1, g, cap, hbg, hown1, hgr, hnew, rfl⟩
    refine ⟨rfl, .slice (some ⟨g, 0, none⟩) (ds.length / 8 + 1) cap, ?_, ?_, ?_⟩
    · refine WrAt.drew ⟨?_, ?_⟩
      · have hk : w1.heap[b]? = w.heap[b]? := by
          rw [hgr.block b (by simp; omega) (fun e => by have := (h.own.lt b e.symm).1; omega)]
          exact Below.heap_alloc w _ b hbs
        have h1 := heap_setCell_of (w := w1) (o := 0) (hk.trans h.box) (.slice (some ⟨g, 0, none⟩) (ds.length / 8 + 1) cap)
        have h2 : ((w1.setCell ⟨b, 0, none⟩ (.slice (some ⟨g, 0, none⟩) (ds.length / 8 + 1) cap)).setCell ⟨g, ds.length / 8, none⟩ (.int .u8 (bits BinOp.or IntKind.u8 0 ((d.toNat : Int) * 2 ^ (7 - ds.length % 8) % 256)))).heap[b]? = _ := (Below.heap_setCell _ _ _ _ (by show b ≠ g; omega)).trans h1
        have h3 := heap_setCell_of (o := 1) h2 (.int .i64 (ds.length + 1))
        rw [h3]
        simp
      · have hk1 := ownsRow_other hown1 (F := fun k => k = b) (Kept.setCell w1 ⟨b, 0, none⟩ (.slice (some ⟨g, 0, none⟩) (ds.length / 8 + 1) cap) rfl) (fun k hk => by simp [Value.ownBlock] at hk; omega)
        have hk2 := ownsRow_set hk1 (ds.length / 8) (by omega) (.int .u8 (bits BinOp.or IntKind.u8 0 ((d.toNat : Int) * 2 ^ (7 - ds.length % 8) % 256)))
        have hk3 := ownsRow_other hk2 (F := fun k => k = b) (Kept.setCell _ ⟨b, 1, none⟩ (.int .i64 (ds.length + 1)) rfl) (fun k hk => by simp [Value.ownBlock] at hk; omega)
        have e1 : ((ds ++ [d]).length + 7) / 8 = ds.length / 8 + 1 := by simp; omega
        rw [e1, pack_snoc_new _ _ hm, ← u8s_set]
        have hor := byteAt_or ds d
        rw [byteAt_zero ds hm] at hor
        rw [← hor]
        have ea : u8s (pack ds ++ [0]) = u8s (pack ds) ++ [.int .u8 0] := by simp [u8s]
        rw [ea]
        exact hk3
    · refine (((Kept.alloc (Wf b rv) w (.cells #[.int .u8 0] 5)).trans' (Kept.grown hgr) (fun i _ hi => Or.inr hi)).trans' (G := fun k => k = b ∨ k = g) ((((Kept.setCell w1 ⟨b, 0, none⟩ _ (Or.inl rfl)).trans (Kept.setCell _ ⟨g, ds.length / 8, none⟩ _ (Or.inr rfl))).trans (Kept.setCell _ ⟨b, 1, none⟩ _ (Or.inl rfl))).drew) ?_)
      rintro i hi (rfl | rfl)
      · exact Or.inl rfl
      · rcases hnew with h' | h'
        · exact Or.inr h'
        · omega
    · intro k hk
      simp [Value.ownBlock] at hk
      subst hk
      exact hnew
  · have e8 : (ds.length + 7) / 8 = ds.length / 8 + 1 := by omega
    have hown := h.own
    rw [e8] at hown
    rcases hown.2 with ⟨_, e2⟩ | ⟨g, cap, cur, rfl, hgb, hh, hncap, hcm, hcs, htake⟩
    · omega
    · have e : (u8s (pack ds))[ds.length / 8]? = some (.int .u8 (byteAt ds (ds.length / 8) : Nat)) := by
        rw [u8s_get, pack_get _ _ (by omega)]; rfl
      have hx : w.cell? ⟨g, ds.length / 8, none⟩ = some (.int .u8 (byteAt ds (ds.length / 8) : Nat)) := by
        rw [← htake, List.getElem?_take, if_pos (by omega)] at e
        simp only [World.cell?, hh]
        simpa using e
      have fx : w.frozen? ⟨g, ds.length / 8, none⟩ = false := by simp [World.frozen?, hh]
      refine (add_room w b g cap ds.length d.toNat _ (by omega) (by simp; omega) (by omega) (by omega) _ (by omega) hb0 hb1 fb0 fb1 hx fx).mono ?_
      rintro e w' ⟨rfl, rfl⟩
      rw [byteAt_or]
      refine ⟨rfl, .slice (some ⟨g, 0, none⟩) (ds.length / 8 + 1) cap, WrAt.drew ⟨?_, ?_⟩, ?_, fun k hk => Or.inl hk⟩
      · have h2 : (w.setCell ⟨g, ds.length / 8, none⟩ (.int .u8 (byteAt (ds ++ [d]) (ds.length / 8) : Nat))).heap[b]? = _ := (Below.heap_setCell _ _ _ _ (by show b ≠ g; omega)).trans h.box
        have h3 := heap_setCell_of (o := 1) h2 (.int .i64 (ds.length + 1))
        rw [h3]
        simp
      · have hk2 := ownsRow_set hown (ds.length / 8) (by omega) (.int .u8 (byteAt (ds ++ [d]) (ds.length / 8) : Nat))
        have hk3 := ownsRow_other hk2 (F := fun k => k = b) (Kept.setCell _ ⟨b, 1, none⟩ (.int .i64 (ds.length + 1)) rfl) (fun k hk => by simp [Value.ownBlock] at hk; omega)
        have e1 : ((ds ++ [d]).length + 7) / 8 = ds.length / 8 + 1 := by simp; omega
        rw [e1, pack_snoc_room _ _ hm, ← u8s_set]
        exact hk3
      · exact ((Kept.setCell w ⟨g, ds.length / 8, none⟩ _ (Or.inr rfl)).trans (Kept.setCell _ ⟨b, 1, none⟩ _ (Or.inl rfl))).drew

end Go.Proofs.YtlonnoapbfjomabGreat
