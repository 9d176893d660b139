/- Samples and Ruin; the document's example of law05. -/
import Derived.Test.YtlonnoapbfjomabFix3
namespace Go.Proofs.Ytlonnoapbfjomab
set_option linter.unusedVariables false
set_option linter.unusedSimpArgs false
open Go.RowKit Dg

theorem wrap64_mem (n : Int) : -9223372036854775808 ≤ wrap64 n ∧ wrap64 n ≤ 9223372036854775807 := by unfold wrap64; omega

set_option maxRecDepth 100000 in
set_option maxHeartbeats 4000000 in
theorem samples_any (w : World) (a : Option Addr) (cap n : Nat) (l : List Int) (wild : Bool) (h : IntsAt w a l) (hl : l.length ≤ maxLen) (hI : ∀ x ∈ l, I64 x) (hn : n ≤ 1000) :
    Calls Try.prog 13 #[.slice a l.length cap, .int .i64 n, .bool wild] w fun e w' => ∃ v zs, e = .returned v ∧ OwnInts w' w.heap.size v zs ∧ zs.length = min l.length n ∧ (∀ x ∈ zs, I64 x) ∧ (wild = false → allS zs) ∧ Below w.heap.size w w' := by
  obtain ⟨i0, hi, hz0, hz1, hz2⟩ := info_parts Try.info3
  unfold maxLen at hl
  have H : Hid (IntsAt w a l) := h
  have HI : Hid (∀ x ∈ l, I64 x) := hI
  obtain ⟨S, hSW⟩ : ∃ S : Prop, S ↔ wild = false := ⟨_, Iff.rfl⟩
  have HSW : Hid (wild = false → S) := hSW.2
  have hSN : wild = true → Hid (¬ S) := fun h hs => by have := hSW.1 hs; rw [h] at this; cases this
  have HSN := hid_of hSN
  clear h hI hSW hSN
  go_enter Try.func13, Try.ntmps13
  go_wp2
  go_loopw [7, 8] (fun v i wr => ∃ (k : Nat) (zs : List Int), k ≤ l.length ∧ k ≤ n ∧ i = .int .i64 (k : Int) ∧ zs.length ≤ 1000000 ∧ Hid (zs.length = k) ∧ Hid (∀ x ∈ zs, I64 x) ∧ Hid (S → allS zs) ∧ Hid (OwnInts wr w.heap.size v zs) ∧ Hid (Below w.heap.size w wr)) (fun _ i _ => l.length - (intOf i).toNat)
  case atStart => exact ⟨0, [], Nat.zero_le _, Nat.zero_le _, rfl, by decide, rfl, fun x hx => by simp at hx, fun _ x hx => by simp at hx, OwnInts.nil _ _, Below.refl _ _⟩
  case round =>
    obtain ⟨k, zs, hkl, hkn, rfl, hzl, HZL, HZI, HZS, ho, hb⟩ := hrel
    have hsz : w.heap.size ≤ wr.heap.size := hb.out.size
    by_cases hk1 : k < l.length
    · by_cases hk2 : k < n
      · obtain ⟨x, hx⟩ : ∃ x, l[k]? = some x := ⟨l[k], by simp [hk1]⟩
        obtain ⟨b, off, rfl, hc⟩ := H.out.mono hb.out k x hx
        obtain ⟨hx1, hx2⟩ := HI.out x (List.mem_of_getElem? hx)
        have hend : ∀ (y : Int) (v' : Value) (w' : World), I64 y → (S → isS y) → Hid (OwnInts w' w.heap.size v' (zs ++ [y])) → Hid (Below w.heap.size wr w') →
            ∃ (k' : Nat) (zs' : List Int), k' ≤ l.length ∧ k' ≤ n ∧ Value.int .i64 ((k : Int) + 1) = .int .i64 (k' : Int) ∧ zs'.length ≤ 1000000 ∧ Hid (zs'.length = k') ∧ Hid (∀ x ∈ zs', I64 x) ∧ Hid (S → allS zs') ∧ Hid (OwnInts w' w.heap.size v' zs') ∧ Hid (Below w.heap.size w w') := by
          intro y v' w' hy1 hy2 h1 h2
          refine ⟨k + 1, zs ++ [y], by omega, by omega, by go_num, by have := HZL.out; simp; omega, by show _ = _; simp [HZL.out], ?_, ?_, h1, hb.out.trans h2.out⟩
          · intro z hz
            rcases List.mem_append.1 hz with h | h
            · exact HZI.out z h
            · simp at h; subst h; exact hy1
          · intro hw
            exact (HZS.out hw).snoc (hy2 hw)
        have HEND := hid_of hend
        clear hx hend
        have hq : wild = false ∨ (wild = true ∧ x.tmod 5 ≠ 4) ∨ (wild = true ∧ x.tmod 5 = 4 ∧ Hid (¬ S)) := by
          by_cases hw : wild = false
          · exact .inl hw
          · have hw' : wild = true := by simpa using hw
            by_cases h : x.tmod 5 = 4
            · exact .inr (.inr ⟨hw', h, HSN.out hw'⟩)
            · exact .inr (.inl ⟨hw', h⟩)
        have hrg : x < -8388608 ∨ (-8388608 ≤ x ∧ 8388607 < x) ∨ (-8388608 ≤ x ∧ x ≤ 8388607) := by omega
        rcases hq with rfl | ⟨rfl, h5⟩ | ⟨rfl, h5, HNS⟩
        · rcases hrg with h1 | ⟨h1, h2⟩ | ⟨h1, h2⟩
          all_goals
            go_wp2_with first
              | (go_at_call 17; refine (within_any _ _ _ (by first | omega | exact (wrap64_mem _).1) (by first | omega | exact (wrap64_mem _).2) (by decide) (by decide)).mono ?_; rintro e w1 ⟨rfl, rfl⟩)
              | (at_builtin; go_must (refine wpList_append_int _ rfl (.tmp 52) (.tmp 54) 24 rfl w.heap.size i0 Try.underlying24 hi hz0 hz1 hz2 _ zs rfl ho.out _ rfl hzl hsz ?_))
            intro v' w' g1 g2
            go_wp2_with fail
            exact ⟨HEND.out _ v' w' (by unfold I64; omega) (fun _ => by unfold isS; omega) g1 g2, by (simp [intOf]) <;> omega⟩
        · have h5b : (x.tmod 5 != 4) = true := by simpa using h5
          have h5c : 8388607 < x → (x % 5 != 4) = true := fun h => by rw [← Int.tmod_eq_emod_of_nonneg (show 0 ≤ x by omega)]; exact h5b
          rcases hrg with h1 | ⟨h1, h2⟩ | ⟨h1, h2⟩
          all_goals
            (first | (have h5d := h5c h2; clear h5c) | clear h5c)
            go_wp2_with first
              | (go_at_call 17; refine (within_any _ _ _ (by first | omega | exact (wrap64_mem _).1) (by first | omega | exact (wrap64_mem _).2) (by decide) (by decide)).mono ?_; rintro e w1 ⟨rfl, rfl⟩)
              | (at_builtin; go_must (refine wpList_append_int _ rfl (.tmp 52) (.tmp 54) 24 rfl w.heap.size i0 Try.underlying24 hi hz0 hz1 hz2 _ zs rfl ho.out _ rfl hzl hsz ?_))
            intro v' w' g1 g2
            go_wp2_with fail
            exact ⟨HEND.out _ v' w' (by unfold I64; omega) (fun _ => by unfold isS; omega) g1 g2, by (simp [intOf]) <;> omega⟩
        · have h5b : (x.tmod 5 != 4) = false := by simpa using h5
          clear hrg
          go_wp2_with (at_builtin; go_must (refine wpList_append_int _ rfl (.tmp 52) (.tmp 54) 24 rfl w.heap.size i0 Try.underlying24 hi hz0 hz1 hz2 _ zs rfl ho.out _ rfl hzl hsz ?_))
          intro v' w' g1 g2
          go_wp2_with fail
          exact ⟨HEND.out _ v' w' (by unfold I64; omega) (fun hs => absurd hs HNS.out) g1 g2, by (simp [intOf]) <;> omega⟩
      · have e : k = n := by omega
        have hnf : decide ((k : Int) < (n : Int)) = false := by simp; omega
        have HL : Hid (zs.length = min l.length n) := by show _ = _; rw [HZL.out]; omega
        subst e
        go_wp2_with fail
        go_ret
        exact ⟨_, zs, rfl, ho.out, HL.out, HZI.out, fun h => HZS.out (HSW.out h), hb.out⟩
    · have HL : Hid (zs.length = min l.length n) := by show _ = _; rw [HZL.out]; omega
      go_wp2_with fail
      go_ret
      exact ⟨_, zs, rfl, ho.out, HL.out, HZI.out, fun h => HZS.out (HSW.out h), hb.out⟩

/-- All the cells of a row. -/
def CellsAt (w : World) (g : Nat) (cur : Array Value) : Prop := w.heap[g]? = some (.cells cur 3 (0, 0))
theorem CellsAt.cell {w : World} {g : Nat} {cur : Array Value} (h : CellsAt w g cur) {j : Nat} {u : Value} (hu : cur[j]? = some u) : w.cell? ⟨g, j, none⟩ = some u := by
  have h' : w.heap[g]? = some (.cells cur 3 (0, 0)) := h
  simp only [World.cell?, h']
  simpa using hu
theorem CellsAt.frozen {w : World} {g : Nat} {cur : Array Value} (h : CellsAt w g cur) (j : Nat) : w.frozen? ⟨g, j, none⟩ = false := by
  have h' : w.heap[g]? = some (.cells cur 3 (0, 0)) := h
  simp [World.frozen?, h']
theorem CellsAt.set {w : World} {g : Nat} {cur : Array Value} (h : CellsAt w g cur) (j : Nat) (u : Value) : CellsAt (w.setCell ⟨g, j, none⟩ u) g (cur.setIfInBounds j u) := heap_setCell_of h u

end Go.Proofs.Ytlonnoapbfjomab
