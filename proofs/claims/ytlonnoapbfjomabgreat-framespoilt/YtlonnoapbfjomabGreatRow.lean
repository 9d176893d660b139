/- A slice of bytes that came in, as the walks want it; Cut. -/
import Derived.Test.YtlonnoapbfjomabGreatWalk9
namespace Go.Proofs.YtlonnoapbfjomabGreat
set_option linter.unusedVariables false
set_option linter.unusedSimpArgs false
open Go.RowKit Dg

/-- A slice of integers that came in: it is nil; or it leads to a row of 'cap' cells, the numbers 'zs' (the first 'len' are its elements, the rest its spare room), each fitting its kind. -/
def IsRow (k : IntKind) (w : World) (a : Option Addr) (len cap : Nat) (zs : List Int) : Prop :=
  (a = none ∧ len = 0 ∧ cap = 0 ∧ zs = []) ∨
  ∃ x, a = some x ∧ len ≤ cap ∧ cap ≤ maxLen ∧ zs.length = cap ∧ (∀ i, i < zs.length → w.cell? (x.add i) = some (.int k (zs.getD i 0))) ∧ ∀ n ∈ zs, (Lit.int k n).wf = true

theorem spot_of_cell {w : World} {a : Addr} {v : Value} (h : w.cell? a = some v) : a.spot = none := by
  unfold World.cell? at h
  split at h
  · split at h
    · cases h
    · rename_i hs; simpa using hs
  · cases h

theorem wf_u8 {x : Int} (h : (Lit.int .u8 x).wf = true) : 0 ≤ x ∧ x < 256 := by
  simp [Lit.wf, IntKind.min, IntKind.max, IntKind.signed, IntKind.bits] at h
  omega

/-- Its bytes. -/
theorem IsRow.bytes {w : World} {a : Option Addr} {len cap : Nat} {zs : List Int} (h : IsRow .u8 w a len cap zs) :
    ∃ l : List Nat, l.length = len ∧ (∀ x ∈ l, x < 256) ∧ ∀ n, n ≤ len → SlAt w (.slice a n cap) (l.take n) := by
  rcases h with ⟨rfl, rfl, rfl, rfl⟩ | ⟨x, rfl, hle, hm, hz, hc, hwf⟩
  · exact ⟨[], rfl, fun x hx => by simp at hx, fun n hn => by have : n = 0 := by omega
                                                              subst this; exact SlAt.nil w⟩
  · refine ⟨(zs.take len).map Int.toNat, by simp; omega, ?_, ?_⟩
    · intro y hy
      simp only [List.mem_map] at hy
      obtain ⟨z, hz1, rfl⟩ := hy
      have := wf_u8 (hwf z (List.mem_of_mem_take hz1))
      omega
    · intro n hn
      refine ⟨some x, cap, by simp; omega, fun j y hy => ?_⟩
      have hj : j < n := by have := (List.getElem?_eq_some_iff.1 hy).1; simp at this; omega
      have hj2 : j < zs.length := by omega
      have hcell := hc j hj2
      have hsp := spot_of_cell (hc 0 (by omega))
      have hx : x = ⟨x.block, x.off, none⟩ := by
        obtain ⟨b, o, s⟩ := x
        cases s with
        | none => rfl
        | some s => simp [Addr.add] at hsp
      refine ⟨x.block, x.off, by rw [← hx], ?_⟩
      rw [hx] at hcell
      have hadd : (⟨x.block, x.off, none⟩ : Addr).add j = ⟨x.block, x.off + j, none⟩ := by simp [Addr.add]
      rw [hadd] at hcell
      have hyv : y = (zs.getD j 0).toNat := by
        simp [List.getElem?_take, hj, hj2, show j < len by omega] at hy
        simp [List.getD, hj2, hy]
      have hw := wf_u8 (hwf (zs.getD j 0) (by simp [List.getD, hj2]))
      rw [hyv, hcell]
      congr 2
      omega

set_option maxHeartbeats 400000 in
theorem cut_any (w : World) (a : Option Addr) (len cap n : Nat) (hn : n ≤ 4096) (hle : len ≤ cap) (hm : cap ≤ maxLen) (h0 : a = none → len = 0 ∧ cap = 0) :
    Calls Tryz.prog 15 #[.slice a len cap, .int .i64 n] w fun e w' => e = .returned (.slice a (min len n) cap) ∧ w = w' := by
  unfold maxLen at hm
  go_enter Tryz.func15, Tryz.ntmps15
  go_wp2
  · go_ret
    exact ⟨by rw [Nat.min_eq_right (by omega)]; rfl, rfl⟩
  · go_ret
    exact ⟨by rw [Nat.min_eq_left (by omega)]; rfl, rfl⟩

end Go.Proofs.YtlonnoapbfjomabGreat
