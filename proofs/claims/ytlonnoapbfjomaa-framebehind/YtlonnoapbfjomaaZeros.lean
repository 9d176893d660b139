/- Noughts behind a row of bytes of the call's own. -/
import Derived.Test.YtlonnoapbfjomaaOwn
import Derived.Lib.AppendZeros
namespace Go.Proofs.Ytlonnoapbfjomaa
set_option linter.unusedVariables false
set_option linter.unusedSimpArgs false
open Go.RowKit Dg

theorem run_zeros (w : World) (base g n cap m : Nat) (l : List Nat) (h : w.ownsRow base 5 1 (.slice (some ⟨g, 0, none⟩) n cap) n (u8s l)) (hm : n + m ≤ 1000000) (hbase : base ≤ w.heap.size) :
    ∃ g' cap' w', (Builtin.append_ #[26, 3] 26 #[.slice (some ⟨g, 0, none⟩) n cap, .int .i64 m]).run Try.prog w = .ok (.slice (some ⟨g', 0, none⟩) (n + m) cap') w' ∧
      w'.ownsRow base 5 1 (.slice (some ⟨g', 0, none⟩) (n + m) cap') (n + m) (u8s (l ++ List.replicate m 0)) ∧ w.grownBy w' (some g) := by
  obtain ⟨i0, hi, hz0, hz1, hz2⟩ := info_parts Try.info5
  have hln : l.length = n := by have := h.1; simpa using this
  have hw : IntKind.i64.wrap (m : Int) = m := by rw [IntKind.wrap_i64]; omega
  have hneg : ¬ ((m : Int) < 0) := by omega
  have h48i : ¬ (281474976710656 < (m : Int)) := by omega
  rcases h.2 with ⟨e1, _⟩ | ⟨g', cap', cur, hv, hgb, hh, hncap, hcm, hcs, htake⟩
  · cases e1
  · cases hv
    by_cases hroom : n + m ≤ cap
    · have hap : (if m = 0 then (pure #[] : Sem (Array Value)) else pure (Builtin.zeroCells (Value.int .u8 0).cells m)) = pure (u8s (List.replicate m 0)).toArray := by
        by_cases h0 : m = 0
        · subst h0; simp [u8s]
        · rw [if_neg h0, ← zeros_u8]
      have hst := run_storeCells_at Try.prog g n 5 (u8s (List.replicate m 0)) 0 cur w hh (by simp; omega) (fun u hu => by simp [u8s] at hu; obtain ⟨_, rfl⟩ := hu; rfl)
      simp only [Nat.add_zero] at hst
      refine ⟨g, cap, w.setRow g (cur.toList.take n ++ u8s (List.replicate m 0) ++ cur.toList.drop (n + (u8s (List.replicate m 0)).length)).toArray, ?_, ⟨by simp [hln], .inr ⟨g, cap, _, rfl, hgb, setRow_heap w g cur _ 5 _ hh, hroom, hcm, ?_, ?_⟩⟩, ⟨rfl, rfl, rfl, by simp, fun k _ hk => setRow_other w g k _ (fun e => hk (by simp [e]))⟩⟩
      · simp [Builtin.append_, run_underlying Try.underlying26, run_underlying Try.underlying3, sizeOf, typeInfo, zeroValue, hi, hz0, hz1, hz2, asInt, asIntOf, hw, hneg, h48i, hroom, Addr.add_lit, hap]
        have hst' : ∀ vs, vs = u8s (List.replicate m 0) → Sem.run Try.prog (storeCells ⟨g, n, none⟩ vs) w = .ok () (w.setRow g (cur.toList.take n ++ (u8s (List.replicate m 0) ++ cur.toList.drop (n + m))).toArray) := by
          intro vs hvs
          rw [hvs, hst]
          simp
        by_cases h0 : m = 0
        · rw [if_pos h0, hst' [] (by rw [h0]; rfl)]; rfl
        · rw [if_neg h0, hst' _ (zeros_u8 m)]; rfl
      · simp; omega
      · rw [u8s_append]
        have h1 : cur.toList.take n = u8s l := by simpa using htake
        rw [h1]
        simp [hln]
        rw [← List.append_assoc, List.take_append_of_le_length (by simp [hln]), List.take_of_length_le (by simp [hln])]
    · have hm0 : m ≠ 0 := by omega
      have h63' : ¬ (9223372036854775807 < (n : Int) + (m : Int)) := by omega
      have h48' : ¬ (281474976710656 < Builtin.nextslicecap (n + m) cap) := by
        have := growslice_fits (need := n + m) (old := cap) (bytes := 1) (by omega) (by omega)
        omega
      have holds : ∀ j u, (u8s l)[j]? = some u → w.cell? ((⟨g, 0, none⟩ : Addr).add j) = some u := h.cells (g := g) rfl
      have hf := run_firstCells_some (P := Try.prog) w.drew 1 n ⟨g, 0, none⟩ n cap (u8s l) (by simp [hln]) holds
      have hge := grownCap_ge w (n + m) cap 5
      have hcm' : grownCap w (n + m) cap 5 ≤ maxLen := grownCap_le_maxLen w (n + m) cap 5 (by unfold maxLen; omega)
      refine ⟨w.heap.size, grownCap w (n + m) cap 5, w.drew.alloc (.cells ((u8s l).toArray ++ Builtin.zeroCells (Value.int .u8 0).cells m ++ Builtin.zeroCells (Value.int .u8 0).cells (grownCap w (n + m) cap 5 - (n + m))) 5), ?_, ⟨by simp [hln], .inr ⟨w.heap.size, _, _, rfl, hbase, heap_alloc_new w.drew _, hge, hcm', ?_, ?_⟩⟩, ⟨rfl, rfl, rfl, by simp, fun k hk _ => Below.heap_alloc w.drew _ k hk⟩⟩
      · simp [Builtin.append_, run_underlying Try.underlying26, run_underlying Try.underlying3, sizeOf, typeInfo, zeroValue, hi, hz0, hz1, hz2, asInt, asIntOf, hw, hneg, h48i, hroom, hm0, h63', h48', Question.forced, hf, newRow, grownCap]
      · simp [size_zeroCells, Value.cells, hln]; omega
      · rw [u8s_append, ← zeros_u8]
        simp only [Array.toList_append, List.append_assoc]
        rw [← List.append_assoc, List.take_append_of_le_length (by simp [size_zeroCells, Value.cells, hln])]
        exact List.take_of_length_le (by simp [size_zeroCells, Value.cells, hln])

end Go.Proofs.Ytlonnoapbfjomaa
