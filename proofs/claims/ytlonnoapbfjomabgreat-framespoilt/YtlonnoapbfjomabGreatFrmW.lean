/- The document's example of law08. -/
import Derived.Test.YtlonnoapbfjomabGreatFrmP
import Derived.Test.YtlonnoapbfjomabGreatFrmSize
namespace Go.Proofs.YtlonnoapbfjomabGreat
set_option linter.unusedVariables false
set_option linter.unusedSimpArgs false
open Go.RowKit Dg

theorem shift_may (l : List Int) : ∃ s, mayX l → IsShift (autoZ l 0) s := by
  by_cases h : mayX l
  · have := autoZ_small h.2.2 h.2.1 0
    obtain ⟨s, -, hs⟩ := shift_exists (autoZ_zero l) (by omega)
    exact ⟨s, fun _ => hs⟩
  · exact ⟨0, fun h' => absurd h' h⟩
theorem encOut_may {x : List Int} (h : mayX x) (s : Nat) : encOut x s = (pack (bestF x s 19), 0) := by
  unfold encOut
  rw [if_neg (by have := h.1; have := h.2.1; omega), if_pos h.2.2]
/-- Every frame but a constant, verbatim and order 0 has at least 45 digits. -/
theorem frm_min {k : Nat} {x : List Int} {s : Nat} {D : List Bool} (h : frm (k : Int) x s = some D) (hk : 3 ≤ k) : 45 ≤ D.length := by
  unfold frm at h
  by_cases hb : ¬ mayX x ∨ (k : Int) < 0 ∨ 18 < (k : Int)
  · rw [if_pos hb] at h; cases h
  rw [if_neg hb, if_neg (by omega), if_neg (by omega)] at h
  by_cases h6 : (k : Int) ≤ 6
  · rw [if_pos h6] at h
    by_cases hl : (x.length : Int) < (k : Int) - 2
    · rw [if_pos hl] at h; cases h
    rw [if_neg hl] at h
    by_cases hz : okZ (residZ x ((k : Int) - 2).toNat)
    · rw [if_pos hz] at h
      cases h
      have := okZ_len hz
      simp at this ⊢
      omega
    · rw [if_neg hz] at h; cases h
  rw [if_neg h6] at h
  obtain ⟨⟨c, b⟩, hc⟩ : ∃ R, R = coOut x ((k : Int) - 6) s := ⟨_, rfl⟩
  rw [← hc] at h
  simp only at h
  cases b with
  | false => simp at h
  | true =>
    rw [if_pos rfl] at h
    obtain ⟨g1, g2, g3, g4, g5⟩ := coOut_true hc.symm
    by_cases hz : okZ (lresidZ x c)
    · rw [if_pos hz] at h
      cases h
      have := okZ_len hz
      simp at this ⊢
      omega
    · rw [if_neg hz] at h; cases h
theorem wake_best (s : Nat) : frm 2 [7, 7, 7] s = some (bestF [7, 7, 7] s 19) ∧ (bestF [7, 7, 7] s 19).length = 36 := by
  have hm : mayX [7, 7, 7] := by decide
  have hz : okZ [7, 7, 7] := by decide
  have e2 := frm_two hm hz s
  have e0 : frm 0 [7, 7, 7] s = some (headD 0 3 ++ sampD 7) := by
    unfold frm
    rw [if_neg (by simp [hm]), if_pos rfl, if_pos (by decide)]
    rfl
  have hl : (residD [7, 7, 7]).length = 20 := by decide +kernel
  obtain ⟨i, h1, h2, h3⟩ := bestF_any hm s
  have h4 := (h3 2 _ (by decide) e2).1
  simp [hl] at h4
  rcases (by omega : i = 0 ∨ i = 1 ∨ i = 2 ∨ 3 ≤ i) with rfl | rfl | rfl | hi
  · exfalso
    have h5 : frm 0 [7, 7, 7] s = some (bestF [7, 7, 7] s 19) := h2
    rw [e0] at h5
    have h6 := Option.some.inj h5
    rw [← h6] at h4
    simp at h4
  · exfalso
    have h5 : frm 1 [7, 7, 7] s = some (bestF [7, 7, 7] s 19) := h2
    rw [frm_verb hm] at h5
    have h6 := Option.some.inj h5
    rw [← h6] at h4
    simp at h4
  · refine ⟨h2, ?_⟩
    have h5 : frm 2 [7, 7, 7] s = some (bestF [7, 7, 7] s 19) := h2
    rw [e2] at h5
    have h6 := Option.some.inj h5
    rw [← h6]
    simp [hl]
  · have := frm_min h2 hi
    omega

set_option maxHeartbeats 1000000 in
theorem wakes8_any (w : World) : Calls Tryz.prog 8 #[] w fun e w' => e = .returned (.bool true) ∧ Below w.heap.size w w' := by
  obtain ⟨s, hs⟩ := shift_may [7, 7, 7]
  have HS := hid_of hs
  obtain ⟨P, hP⟩ : ∃ P, P = pack (bestF [7, 7, 7] s 19) := ⟨_, rfl⟩
  have HR : Hid ((P, 0) = encOut [7, 7, 7] s) := by show _ = _; rw [encOut_may (by decide), hP]
  have HPL : Hid (P.length = 5) := by show _ = _; rw [hP, length_pack, (wake_best s).2]
  have HK : Hid (2 = kindOut P) := by show _ = _; rw [hP, kindOut_pack (wake_best s).1]
  have HP256 : Hid (∀ x ∈ P, x < 256) := by rw [hP]; exact pack_lt _
  clear hs hP
  go_enter Tryz.func8, Tryz.ntmps8
  go_wp2_with fail
  have HA : Hid (Ns (w.alloc (.cells #[.int .i64 7, .int .i64 7, .int .i64 7] 3)) (some ⟨w.heap.size, 0, none⟩) 3 [7, 7, 7]) := Ns.lit w [7, 7, 7] 3 rfl (by decide) _ rfl
  have HB0 : Hid (Below w.heap.size w (w.alloc (.cells #[.int .i64 7, .int .i64 7, .int .i64 7] 3))) := (Below.refl _ _).alloc (Nat.le_refl _) _
  generalize w.alloc (.cells #[.int .i64 7, .int .i64 7, .int .i64 7] 3) = w1 at *
  have hs1 : w.heap.size ≤ w1.heap.size := HB0.out.size
  refine (fenc_any w1 s _ 3 [7, 7, 7] HA.out (by decide) HS.out _ HR.out).mono ?_
  rintro e w2 ⟨v2, rfl, h2, hb2⟩
  obtain ⟨a2, c2, rfl, hc2⟩ := SlAt.of_owns h2
  have HSL : Hid (SlAt w2 (.slice a2 P.length c2) P) := ⟨a2, c2, rfl, hc2⟩
  have HB2 : Hid (Below w.heap.size w w2) := HB0.out.trans (hb2.mono hs1)
  have hpb : ((P.length : Int) == 5) = true := beq_iff_eq.2 (by rw [HPL.out]; rfl)
  have hp6 : P.length ≤ 1000000 := by rw [HPL.out]; decide
  clear h2 hb2 hc2
  go_wp2_with fail
  refine (fkind_any w2 _ P HSL.out hp6 HP256.out 2 HK.out).mono ?_
  rintro e w3 ⟨rfl, hb3⟩
  have HB3 : Hid (Below w.heap.size w w3) := HB2.out.trans (hb3.mono HB2.out.size)
  clear hb3
  go_wp2
  go_ret
  exact ⟨rfl, HB3.out⟩

end Go.Proofs.YtlonnoapbfjomabGreat
