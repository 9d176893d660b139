/- The texts DkActs, one behind the other. -/
import Derived.Test.YtjmeneddhalodaaPart05
import Derived.Test.YtjmeneddhalodaaPart01
import Derived.Deep.Grids

/- A slice of calls with slices inside that came in. -/
namespace Go.Proofs.Ytjmeneddhalodaa
set_option linter.unusedVariables false
set_option linter.unusedSimpArgs false
open Go.ChangeShapes Go.WideShapes Go.ChangeAt Go.RowKit Go.Deep Dg

instance : Inhabited Act1 := ⟨⟨0, 0, 0, [], []⟩⟩
theorem Try.cellsAct : Try.prog.cellsOf 84 = 5 := by kernel_rfl
theorem Try.cellsI : Try.prog.cellsOf 3 = 1 := by kernel_rfl
theorem Try.cellsBy : Try.prog.cellsOf 30 = 1 := by kernel_rfl
theorem Try.cellsBo : Try.prog.cellsOf 22 = 1 := by kernel_rfl
theorem cells5_of {w : World} {base : Nat} {a : Addr} {cs : List Value} (h : w.cells? base a 5 = some cs) : ∃ x y z u v, cs = [x, y, z, u, v] ∧ w.cell? a = some x ∧ w.cell? (a.add 1) = some y ∧ w.cell? (a.add 2) = some z ∧ w.cell? (a.add 3) = some u ∧ w.cell? (a.add 4) = some v := by
  unfold World.cells? at h
  split at h
  · have e : List.range 5 = [0, 1, 2, 3, 4] := by decide
    rw [e] at h
    simp only [List.mapM_cons, List.mapM_nil, Option.bind_eq_bind, Option.pure_def] at h
    have e0 : a.add 0 = a := by simp [Addr.add]
    rw [e0] at h
    cases h0 : w.cell? a with
    | none => simp [h0] at h
    | some x =>
      cases h1 : w.cell? (a.add 1) with
      | none => simp [h0, h1] at h
      | some y =>
        cases h2 : w.cell? (a.add 2) with
        | none => simp [h0, h1, h2] at h
        | some z =>
          cases h3 : w.cell? (a.add 3) with
          | none => simp [h0, h1, h2, h3] at h
          | some u =>
            cases h4 : w.cell? (a.add 4) with
            | none => simp [h0, h1, h2, h3, h4] at h
            | some v =>
              simp [h0, h1, h2, h3, h4] at h
              exact ⟨x, y, z, u, v, h.symm, rfl, rfl, rfl, rfl, rfl⟩
  · cases h
/-- The bytes of a row that came in. -/
theorem IsRow.all {w : World} {a : Option Addr} {len cap : Nat} {zs : List Int} (hr : IsRow .u8 w a len cap zs) : ∃ l : List Nat, l.length = len ∧ (∀ x ∈ l, x < 256) ∧ Bs w a cap l ∧ (l ≠ [] → ∀ y, a = some y → y.block < w.heap.size) := by
  obtain ⟨l, h1, h2, h3, -⟩ := Bs.of_row (n := len) hr
  refine ⟨l, by omega, h2, h3, fun hne y hy => ?_⟩
  exact SlAt.lt h3.at_ hne y.block (by rw [hy]; rfl)
set_option maxRecDepth 100000 in
theorem open_actsK {H : Type} {enc : TypeId × Value → H} {W : World} {a : Option Addr} {len cap : Nat} {d : DataW H} {p : List MemPlace}
    (h : DataW.Trod enc Try.prog W 0 (fun _ => true) true 49 (.slice a len cap) d p) : len ≤ maxLen ∧ ∃ L : List Act1, L.length = len ∧ ActsK W W.heap.size a L := by
  obtain ⟨fuel, hf⟩ := h
  rcases open_slice Try.underlying49 hf with ⟨hcs, _⟩ | ⟨x, l, c, m, n, D, Pl, hcs, _, hl, hm, hmm, _, hcell⟩
  · simp [Value.cells] at hcs
    obtain ⟨rfl, rfl, rfl⟩ := hcs
    exact ⟨by decide, [], rfl, fun j x hx => by simp at hx⟩
  · simp [Value.cells] at hcs
    obtain ⟨rfl, rfl, rfl⟩ := hcs
    refine ⟨by omega, ?_⟩
    have hlm : len ≤ m := by rw [hmm]; split <;> omega
    have key : ∀ i, i < len → ∃ t : Act1, ActAt W W.heap.size (some x) i t := by
      intro i hi
      have hx : x.spot = none := by
        obtain ⟨cs0, hc0, _⟩ := hcell 0 (by omega)
        rw [Try.cellsAct] at hc0
        obtain ⟨_, _, _, _, _, _, h0, _, _⟩ := cells5_of hc0
        have := spot_of_cell h0
        simpa [Addr.add] using this
      obtain ⟨b, off, s⟩ := x
      simp at hx
      subst hx
      obtain ⟨cs, hc, ht⟩ := hcell i (by omega)
      rw [Try.cellsAct] at hc
      obtain ⟨y0, y1, y2, y3, y4, rfl, h0, h1, h2, h3, h4⟩ := cells5_of hc
      have hadd : (⟨b, off, none⟩ : Addr).add (i * 5) = ⟨b, off + i * 5, none⟩ := by simp [Addr.add]
      rw [hadd] at h0 h1 h2 h3 h4
      have ha : ∀ k, (⟨b, off + i * 5, none⟩ : Addr).add k = ⟨b, off + i * 5 + k, none⟩ := fun k => by simp [Addr.add]
      rw [ha] at h1 h2 h3 h4
      obtain ⟨xs, n', _, _, _, hxl, hff⟩ := DataW.trod_struct Try.underlying84 ht
      have g0 : DataW.trod enc Try.prog W 0 (fun _ => true) true n' 3 (List.take (Try.prog.cellsOf 3) (List.drop 0 [y0, y1, y2, y3, y4])) = xs[0]? := hff 0 _ rfl
      have g1 : DataW.trod enc Try.prog W 0 (fun _ => true) true n' 3 (List.take (Try.prog.cellsOf 3) (List.drop 1 [y0, y1, y2, y3, y4])) = xs[1]? := hff 1 _ rfl
      have g2 : DataW.trod enc Try.prog W 0 (fun _ => true) true n' 3 (List.take (Try.prog.cellsOf 3) (List.drop 2 [y0, y1, y2, y3, y4])) = xs[2]? := hff 2 _ rfl
      have g3 : DataW.trod enc Try.prog W 0 (fun _ => true) true n' 30 (List.take (Try.prog.cellsOf 30) (List.drop 3 [y0, y1, y2, y3, y4])) = xs[3]? := hff 3 _ rfl
      have g4 : DataW.trod enc Try.prog W 0 (fun _ => true) true n' 22 (List.take (Try.prog.cellsOf 22) (List.drop 4 [y0, y1, y2, y3, y4])) = xs[4]? := hff 4 _ rfl
      have hx5 : xs.length = 5 := hxl
      match xs, hx5 with
      | [z0, z1, z2, z3, z4], _ =>
        simp only [List.getElem?_cons_zero, List.getElem?_cons_succ] at g0 g1 g2 g3 g4
        rw [Try.cellsI] at g0 g1 g2
        rw [Try.cellsBy] at g3
        rw [Try.cellsBo] at g4
        obtain ⟨n0, e0, _, w0⟩ := DataW.trod_int Try.underlying3 g0
        obtain ⟨n1, e1, _, w1⟩ := DataW.trod_int Try.underlying3 g1
        obtain ⟨n2, e2, _, w2⟩ := DataW.trod_int Try.underlying3 g2
        simp at e0 e1 e2
        subst e0 e1 e2
        have k3 : ∃ ba bl bc zs, y3 = .slice ba bl bc ∧ IsRow .u8 W ba bl bc zs := by
          rcases open_ints Try.underlying30 Try.underlying5 (by kernel_rfl) g3 with ⟨hcs, _⟩ | ⟨x', l', c', zs, hcs, _, hl', hm', hz', _, hcell', hwz'⟩
          · simp at hcs
            exact ⟨none, 0, 0, [], hcs, .inl ⟨rfl, rfl, rfl, rfl⟩⟩
          · simp at hcs
            exact ⟨some x', l', c', zs, hcs, .inr ⟨_, rfl, hl', hm', by simpa using hz', hcell', hwz'⟩⟩
        have k4 : ∃ (ka : Option Addr) (kl kc : Nat) (K : List Bool), y4 = .slice ka kl kc ∧ K.length = kl ∧ BlAt W ka K ∧ kl ≤ kc ∧ kc ≤ maxLen := by
          rcases open_bools Try.underlying22 Try.underlying4 (by kernel_rfl) g4 with ⟨hcs, _⟩ | ⟨x', l', c', B, hcs, _, hl', hm', _, hcell'⟩
          · simp at hcs
            exact ⟨none, 0, 0, [], hcs, rfl, BlAt.nil _ _, by decide, by decide⟩
          · simp at hcs
            refine ⟨some x', l', c', (List.range l').map B, hcs, by simp, fun j u hu => ?_, hl', hm'⟩
            rw [List.getElem?_map] at hu
            obtain ⟨k, hk, rfl⟩ := Option.map_eq_some_iff.1 hu
            have hjk : j < l' ∧ k = j := by
              rw [List.getElem?_eq_some_iff] at hk
              obtain ⟨h5, h6⟩ := hk
              simp at h5 h6
              exact ⟨h5, h6.symm⟩
            obtain ⟨hj, rfl⟩ := hjk
            have hsp : x'.spot = none := by
              have := spot_of_cell (hcell' 0 (by omega))
              simpa [Addr.add] using this
            obtain ⟨b', off', s'⟩ := x'
            simp at hsp
            subst hsp
            have e := hcell' k (by omega)
            have hadd' : (⟨b', off', none⟩ : Addr).add k = ⟨b', off' + k, none⟩ := by simp [Addr.add]
            rw [hadd'] at e
            exact ⟨b', off', rfl, e⟩
        obtain ⟨ba, bl, bc, zs, rfl, hrow⟩ := k3
        obtain ⟨ka, kl, kc, K, rfl, hKl, hKB, hk1, hk2⟩ := k4
        obtain ⟨l, hll, h256, hBs, hBx⟩ := hrow.all
        refine ⟨⟨n0, n1, n2, l, K⟩, b, off, ba, bc, ka, kc, rfl, World.block_lt_of_cell? W _ h0, ⟨h0, h1, h2, by rw [hll]; exact h3, by rw [hKl]; exact h4⟩, ⟨wf_i64 w0, wf_i64 w1, wf_i64 w2⟩, ⟨hBs, h256, hBx⟩, hKB, fun hne y hy => hKB.lt hne y hy, by rw [hKl]; exact hk1, by unfold maxLen at hk2; omega⟩
    obtain ⟨f, hf'⟩ := choose_lt key
    refine ⟨(List.range len).map f, by simp, fun j t ht => ?_⟩
    rw [List.getElem?_map] at ht
    obtain ⟨k, hk, rfl⟩ := Option.map_eq_some_iff.1 ht
    rw [List.getElem?_eq_some_iff] at hk
    obtain ⟨h5, h6⟩ := hk
    simp at h5 h6
    subst h6
    exact hf' j h5

end Go.Proofs.Ytjmeneddhalodaa
