/- Bytes that are read: copied, Bytes, Same, NewReader. -/
import Derived.Test.YtlonnoapbfjomabGreatWalk3
import Derived.Laws.CopyOwn
namespace Go.Proofs.YtlonnoapbfjomabGreat
set_option linter.unusedVariables false
set_option linter.unusedSimpArgs false
open Go.RowKit Dg

/-- A slice of bytes that can be read. -/
def SlAt (w : World) (v : Value) (l : List Nat) : Prop :=
  ∃ ao cap, v = .slice ao l.length cap ∧ ∀ j x, l[j]? = some x → ∃ b off, ao = some ⟨b, off, none⟩ ∧ w.cell? ⟨b, off + j, none⟩ = some (.int .u8 ((x : Nat) : Int))

theorem SlAt.kept {w w' : World} {v : Value} {l : List Nat} {F : Nat → Prop} (h : SlAt w v l) (hk : Kept F w w') (hF : ∀ k, v.ownBlock = some k → ¬ F k) : SlAt w' v l := by
  obtain ⟨ao, cap, rfl, hc⟩ := h
  refine ⟨ao, cap, rfl, fun j x hx => ?_⟩
  obtain ⟨b, off, rfl, hcell⟩ := hc j x hx
  refine ⟨b, off, rfl, ?_⟩
  rw [hk.cell (World.block_lt_of_cell? w _ hcell) (hF b rfl)]
  exact hcell

theorem SlAt.nil (w : World) : SlAt w (.slice none 0 0) [] := ⟨none, 0, rfl, fun j x hx => by simp at hx⟩

theorem SlAt.of_owns {w : World} {base : Nat} {v : Value} {n : Nat} {l : List Nat} (h : w.ownsRow base 5 1 v n (u8s l)) : SlAt w v l := by
  have hl : l.length = n := by have := h.1; simpa using this
  rcases h.2 with ⟨rfl, rfl⟩ | ⟨g, cap, cur, rfl, hb, hh, hn, _, hcs, htake⟩
  · have : l = [] := List.eq_nil_of_length_eq_zero hl
    subst this
    exact SlAt.nil w
  · refine ⟨some ⟨g, 0, none⟩, cap, by rw [hl], fun j x hx => ⟨g, 0, rfl, ?_⟩⟩
    have hj : j < l.length := (List.getElem?_eq_some_iff.1 hx).1
    have e : (u8s l)[j]? = some (.int .u8 ((x : Nat) : Int)) := by rw [u8s_get, hx]; rfl
    rw [← htake, List.getElem?_take, if_pos (by omega)] at e
    simp only [World.cell?, hh]
    simpa using e

set_option maxHeartbeats 1000000 in
theorem copied_any (w : World) (v : Value) (l : List Nat) (h : SlAt w v l) (hl : l.length ≤ 4398046511104) :
    Calls Tryz.prog 57 #[v] w fun e w' => e = .returned (.slice (some ⟨w.heap.size, 0, none⟩) l.length l.length) ∧ w'.ownsRow w.heap.size 5 1 (.slice (some ⟨w.heap.size, 0, none⟩) l.length l.length) l.length (u8s l) ∧ Below w.heap.size w w' := by
  obtain ⟨i0, hi, hz0, hz1, hz2⟩ := info_parts Tryz.info5
  obtain ⟨ao, cap, rfl, hc⟩ := h
  have HC : Hid (∀ j x, l[j]? = some x → ∃ b off, ao = some ⟨b, off, none⟩ ∧ w.cell? ⟨b, off + j, none⟩ = some (.int .u8 ((x : Nat) : Int))) := hc
  clear hc
  go_enter Tryz.func57, Tryz.ntmps57
  go_wp2_with (at_make; refine wpList_make_full _ rfl _ _ 25 rfl w.heap.size 5 i0 (.int .u8 0) 1 Tryz.underlying25 hi hz0 hz1 _ _ _ _ l.length rfl rfl rfl rfl ?b1 ?b2 ?b3 ?_)
  case b1 => rw [hz2]; omega
  case b2 => unfold maxLen; omega
  case b3 => exact Nat.le_refl _
  intro w1 hown hgr
  have hex : ∃ cur : Array Value, w1.heap[w.heap.size]? = some (.cells cur 5 (0, 0)) ∧ cur.size = l.length := by
    rcases hown.2 with ⟨e, _⟩ | ⟨g, cap, cur, hv, _, hh, _, _, hcs, _⟩
    · cases e
    · cases hv
      exact ⟨cur, hh, by omega⟩
  obtain ⟨cur, hcur, hsz⟩ := hex
  have HB : Hid (Below w.heap.size w w1) := (Below.refl _ _).grown hgr (Nat.le_refl _) (fun k hk => by cases hk)
  have HCUR : Hid (w1.heap[w.heap.size]? = some (.cells cur.toList.toArray 5 (0, 0))) := by show w1.heap[w.heap.size]? = _; simpa using hcur
  clear hown hgr hcur
  go_wp2_with (refine wpList_copy_splice rfl (.tmp 7) (.tmp 8) 25 25 rfl 5 Tryz.underlying25 (by simp [hi, hz1]) _ _ _ _ _ _ rfl rfl w.heap.size 0 cur.toList 5 HCUR.out (u8s l) ?c1 ?c2 ?c3 ?c4 w.heap.size w HB.out (Nat.le_refl _) ?_)
  case c1 => show _ = min _ _; simp
  case c2 =>
    intro h0
    have h0' : 0 < l.length := by simpa using h0
    obtain ⟨b, off, hao, hcell⟩ := HC.out 0 l[0] (by simp)
    refine ⟨⟨b, off, none⟩, hao, fun j u hu => ?_⟩
    rw [u8s_get] at hu
    obtain ⟨x, hx, rfl⟩ := Option.map_eq_some_iff.1 hu
    obtain ⟨b', off', hao', hcell'⟩ := HC.out j x hx
    rw [hao] at hao'
    cases hao'
    have hadd : (⟨b, off, none⟩ : Addr).add j = ⟨b, off + j, none⟩ := by simp [Addr.add]
    rw [hadd, HB.out.cell (p := ⟨b, off + j, none⟩) (World.block_lt_of_cell? w _ hcell')]
    exact hcell'
  case c3 => simp; omega
  case c4 => intro u hu; simp [u8s] at hu; obtain ⟨x, _, rfl⟩ := hu; rfl
  intro w2 hg2 hb2
  go_wp2
  go_ret
  refine ⟨rfl, ⟨by simp, .inr ⟨w.heap.size, l.length, _, rfl, Nat.le_refl _, hg2.out, Nat.le_refl _, by unfold maxLen; omega, ?_, ?_⟩⟩, hb2⟩
  · simp [splice]; omega
  · have e : splice cur.toList 0 (u8s l) = u8s l := by
      unfold splice
      rw [List.drop_eq_nil_of_le (by simp; omega)]; simp
    simp only [e]
    exact List.take_of_length_le (by simp)

end Go.Proofs.YtlonnoapbfjomabGreat
