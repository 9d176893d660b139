/- The document's own As and Encode. -/
import Derived.Test.YtlonnoapbfjomabFrm4
import Derived.Test.YtlonnoapbfjomabOwn
namespace Go.Proofs.Ytlonnoapbfjomab
set_option linter.unusedVariables false
set_option linter.unusedSimpArgs false
open Go.RowKit Dg

theorem length_residD {l : List Int} (h : okZ l) : (residD l).length ≤ 5 + 56 * l.length := by
  have := (length_digs (zigs l) (parOf l) (okZ_num h) (parOf_le l)).2
  unfold residD
  simp at this ⊢
  omega
theorem frm_len {kind : Int} {x : List Int} {s : Nat} {D : List Bool} (h : frm kind x s = some D) : D.length ≤ 10000 := by
  unfold frm at h
  by_cases hk : ¬ mayX x ∨ kind < 0 ∨ 18 < kind
  · rw [if_pos hk] at h; cases h
  rw [if_neg hk] at h
  have hm : mayX x := by
    by_cases hm : mayX x
    · exact hm
    · exact absurd (Or.inl hm) hk
  have h64 := hm.2.1
  by_cases h0 : kind = 0
  · rw [if_pos h0] at h
    by_cases ha : allOne x
    · rw [if_pos ha] at h; cases h; simp
    · rw [if_neg ha] at h; cases h
  rw [if_neg h0] at h
  by_cases h1 : kind = 1
  · rw [if_pos h1] at h; cases h; simp; omega
  rw [if_neg h1] at h
  by_cases h6 : kind ≤ 6
  · rw [if_pos h6] at h
    by_cases hl : (x.length : Int) < kind - 2
    · rw [if_pos hl] at h; cases h
    rw [if_neg hl] at h
    by_cases hz : okZ (residZ x (kind - 2).toNat)
    · rw [if_pos hz] at h
      cases h
      have := length_residD hz
      simp at this ⊢
      omega
    · rw [if_neg hz] at h; cases h
  rw [if_neg h6] at h
  obtain ⟨⟨c, b⟩, hc⟩ : ∃ R, R = coOut x (kind - 6) s := ⟨_, rfl⟩
  rw [← hc] at h
  simp only at h
  cases b with
  | false => simp at h
  | true =>
    rw [if_pos rfl] at h
    obtain ⟨g1, g2, g3, g4, g5⟩ := coOut_true hc.symm
    by_cases hz : okZ (lresidZ x c)
    · rw [if_pos hz] at h
      cases h
      have := length_residD hz
      simp at this ⊢
      omega
    · rw [if_neg hz] at h; cases h
theorem bestF_len (x : List Int) (s j : Nat) : (bestF x s j).length ≤ 10000 := by
  induction j with
  | zero => simp [bestF]
  | succ j ih =>
    simp only [bestF]
    split
    · exact ih
    · rename_i b hb
      split
      · exact frm_len hb
      · exact ih
/-- Bytes of one's own and a yes or no, or an error. -/
def GaveY (w w' : World) (R : List Nat × Bool) (e : Ending) : Prop := ∃ v, e = .returned (.tuple #[v, .bool R.2]) ∧ OwnBytes w' w.heap.size v R.1 ∧ Below w.heap.size w w'
def GaveN (w w' : World) (R : List Nat × Int) (e : Ending) : Prop := ∃ v, e = .returned (.tuple #[v, .int .i64 R.2]) ∧ OwnBytes w' w.heap.size v R.1 ∧ Below w.heap.size w w'
theorem OwnBytes.nil (w : World) (base : Nat) : OwnBytes w base (.slice none 0 0) [] := World.ownsRow_nil _ _ _ _

set_option maxHeartbeats 1000000 in
theorem ras_any (w : World) (kind : Int) (s : Nat) (a : Option Addr) (cap : Nat) (l : List Int) (hl : Ns w a cap l) (hll : l.length ≤ 1000000) (hs : mayX l → IsShift (autoZ l 0) s) (R : List Nat × Bool) (hR : R = asOut kind l s) :
    Calls Try.prog 18 #[.int .i64 kind, .slice a l.length cap] w fun e w' => GaveY w w' R e := by
  have HL := hid_of hl
  have HS := hid_of hs
  unfold asOut at hR
  cases hF : frm kind l s with
  | none =>
    rw [hF] at hR
    have HR : Hid (R = ([], false)) := hR
    have HF := hid_of hF
    clear hl hs hR hF
    go_enter Try.func18, Try.ntmps18
    go_wp2_with fail
    refine (dig_any w kind s a cap l HL.out hll HS.out).mono ?_
    rw [HF.out]
    rintro e w1 ⟨v1, rfl, hb1⟩
    have HB1 := hid_of hb1
    clear hb1
    go_wp2_with fail
    go_ret2
    rw [HR.out]
    exact ⟨_, rfl, OwnBytes.nil _ _, HB1.out⟩
  | some D =>
    rw [hF] at hR
    obtain ⟨P, hP⟩ : ∃ P, P = pack D := ⟨_, rfl⟩
    have HR : Hid (R = (P, true)) := by show _ = _; rw [hP]; exact hR
    have HP := hid_of hP
    have hDl := frm_len hF
    have HF := hid_of hF
    clear hl hs hR hF hP
    go_enter Try.func18, Try.ntmps18
    go_wp2_with fail
    refine (dig_any w kind s a cap l HL.out hll HS.out).mono ?_
    rw [HF.out]
    rintro e w1 ⟨v1, rfl, h1⟩
    have H1 := hid_of h1
    clear h1
    go_wp2_with fail
    refine (rbytes_any w1 v1 D P HP.out H1.out.bt (by omega)).mono ?_
    rintro e w2 ⟨rfl, h2⟩
    have H2 := hid_of h2
    clear h2
    go_wp2_with fail
    go_ret2
    rw [HR.out]
    exact ⟨_, rfl, ownsRow_base H2.out.1 H1.out.2.size, H1.out.2.trans (H2.out.2.mono H1.out.2.size)⟩

end Go.Proofs.Ytlonnoapbfjomab
