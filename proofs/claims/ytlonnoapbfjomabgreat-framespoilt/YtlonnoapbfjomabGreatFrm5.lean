/- The document's own As and Encode. -/
import Derived.Test.YtlonnoapbfjomabGreatFrm4
import Derived.Test.YtlonnoapbfjomabGreatOwn
namespace Go.Proofs.YtlonnoapbfjomabGreat
set_option linter.unusedVariables false
set_option linter.unusedSimpArgs false
open Go.RowKit Dg

theorem length_residD {l : List Int} (h : okZ l) : (residD l).length ≤ 5 + 56 * l.length := by
  have := (length_digs (zigs l) (parOf l) (okZ_num h) (parOf_le l)).2
  unfold residD
  simp at this ⊢
  omega
theorem frm_len {kind : Int} {x : List Int} {s : Nat} {D : List Bool} (h : frm kind x s = some D) : D.length ≤ 10000 := by
  unfold frm at h
  by_cases hk : ¬ mayX x ∨ kind < 0 ∨ 18 < kind
  · rw [if_pos hk] at h; cases h
  rw [if_neg hk] at h
  have hm : mayX x := by
    by_cases hm : mayX x
    · exact hm
    · exact absurd (Or.inl hm) hk
  have h64 := hm.2.1
  by_cases h0 : kind = 0
  · rw [if_pos h0] at h
    by_cases ha : allOne x
    · rw [if_pos ha] at h; cases h; simp
    · rw [if_neg ha] at h; cases h
  rw [if_neg h0] at h
  by_cases h1 : kind = 1
  · rw [if_pos h1] at h; cases h; simp; omega
  rw [if_neg h1] at h
  by_cases h6 : kind ≤ 6
  · rw [if_pos h6] at h
    by_cases hl : (x.length : Int) < kind - 2
    · rw [if_pos hl] at h; cases h
    rw [if_neg hl] at h
    by_cases hz : okZ (residZ x (kind - 2).toNat)
    · rw [if_pos hz] at h
      cases h
      have := length_residD hz
      simp at this ⊢
      omega
    · rw [if_neg hz] at h; cases h
  rw [if_neg h6] at h
  obtain ⟨⟨c, b⟩, hc⟩ : ∃ R, R = coOut x (kind - 6) s := ⟨_, rfl⟩
  rw [← hc] at h
  simp only at h
  cases b with
  | false => simp at h
  | true =>
    rw [if_pos rfl] at h
    obtain ⟨g1, g2, g3, g4, g5⟩ := coOut_true hc.symm
    by_cases hz : okZ (lresidZ x c)
    · rw [if_pos hz] at h
      cases h
      have := length_residD hz
      simp at this ⊢
      omega
    · rw [if_neg hz] at h; cases h
theorem bestF_len (x : List Int) (s j : Nat) : (bestF x s j).length ≤ 10000 := by
  induction j with
  | zero => simp [bestF]
  | succ j ih =>
    simp only [bestF]
    split
    · exact ih
    · rename_i b hb
      split
      · exact frm_len hb
      · exact ih
/-- Bytes of one's own and a yes or no, or an error. -/
def GaveY (w w' : World) (R : List Nat × Bool) (e : Ending) : Prop := ∃ v, e = .returned (.tuple #[v, .bool R.2]) ∧ OwnBytes w' w.heap.size v R.1 ∧ Below w.heap.size w w'
def GaveN (w w' : World) (R : List Nat × Int) (e : Ending) : Prop := ∃ v, e = .returned (.tuple #[v, .int .i64 R.2]) ∧ OwnBytes w' w.heap.size v R.1 ∧ Below w.heap.size w w'
theorem OwnBytes.nil (w : World) (base : Nat) : OwnBytes w base (.slice none 0 0) [] := World.ownsRow_nil _ _ _ _

set_option maxHeartbeats 1000000 in
theorem ras_any (w : World) (kind : Int) (s : Nat) (a : Option Addr) (cap : Nat) (l : List Int) (hl : Ns w a cap l) (hll : l.length ≤ 1000000) (hs : mayX l → IsShift (autoZ l 0) s) (R : List Nat × Bool) (hR : R = asOut kind l s) :
    Calls Tryz.prog 7 #[.int .i64 kind, .slice a l.length cap] w fun e w' => GaveY w w' R e := by
  have HL := hid_of hl
  have HS := hid_of hs
  unfold asOut at hR
  cases hF : frm kind l s with
  | none =>
    rw [hF] at hR
    have HR : Hid (R = ([], false)) := hR
    have HF := hid_of hF
    clear hl hs hR hF
    go_enter Tryz.func7, Tryz.ntmps7
    go_wp2_with fail
    refine (dig_any w kind s a cap l HL.out hll HS.out).mono ?_
    rw [HF.out]
    rintro e w1 ⟨v1, rfl, hb1⟩
    have HB1 := hid_of hb1
    clear hb1
    go_wp2_with fail
    go_ret2
    rw [HR.out]
    exact ⟨_, rfl, OwnBytes.nil _ _, HB1.out⟩
  | some D =>
    rw [hF] at hR
    obtain ⟨P, hP⟩ : ∃ P, P = pack D := ⟨_, rfl⟩
    have HR : Hid (R = (P, true)) := by show _ = _; rw [hP]; exact hR
    have HP := hid_of hP
    have hDl := frm_len hF
    have HF := hid_of hF
    clear hl hs hR hF hP
    go_enter Tryz.func7, Tryz.ntmps7
    go_wp2_with fail
    refine (dig_any w kind s a cap l HL.out hll HS.out).mono ?_
    rw [HF.out]
    rintro e w1 ⟨v1, rfl, h1⟩
    have H1 := hid_of h1
    clear h1
    go_wp2_with fail
    refine (rbytes_any w1 v1 D P HP.out H1.out.bt (by omega)).mono ?_
    rintro e w2 ⟨rfl, h2⟩
    have H2 := hid_of h2
    clear h2
    go_wp2_with fail
    go_ret2
    rw [HR.out]
    exact ⟨_, rfl, ownsRow_base H2.out.1 H1.out.2.size, H1.out.2.trans (H2.out.2.mono H1.out.2.size)⟩

set_option maxRecDepth 100000 in
set_option maxHeartbeats 4000000 in
theorem renc_any (w : World) (s : Nat) (a : Option Addr) (cap : Nat) (l : List Int) (hl : Ns w a cap l) (hll : l.length ≤ 1000000) (hs : mayX l → IsShift (autoZ l 0) s) (R : List Nat × Int) (hR : R = encOut l s) :
    Calls Tryz.prog 6 #[.slice a l.length cap] w fun e w' => GaveN w w' R e := by
  have HL := hid_of hl
  have HS := hid_of hs
  unfold encOut at hR
  clear hl hs
  by_cases h1 : l.length < 1 ∨ 64 < l.length
  · rw [if_pos h1] at hR
    have HR := hid_of hR
    clear hR
    rcases (by omega : l.length < 1 ∨ (1 ≤ l.length ∧ 64 < l.length)) with h2 | ⟨h2, h3⟩
    all_goals
      clear h1
      go_enter Tryz.func6, Tryz.ntmps6
      go_wp2_with fail
      go_ret2
      rw [HR.out]
      exact ⟨_, rfl, OwnBytes.nil _ _, Below.refl _ _⟩
  rw [if_neg h1] at hR
  have hl1 : 1 ≤ l.length := by omega
  have hl64 : l.length ≤ 64 := by omega
  clear h1
  by_cases hS : allS l
  case neg =>
    rw [if_neg hS] at hR
    have HR := hid_of hR
    have HT : Hid (8 = mayZ l) := by show _ = _; unfold mayZ; rw [if_neg hS]
    clear hR hS
    go_enter Tryz.func6, Tryz.ntmps6
    go_wp2_with (go_at_call 10; refine (rmay_any _ _ _ _ HL.out.at_ hll 8 HT.out).mono ?_; rintro e w1 ⟨rfl, rfl⟩)
    go_ret2
    rw [HR.out]
    exact ⟨_, rfl, OwnBytes.nil _ _, Below.refl _ _⟩
  rw [if_pos hS] at hR
  have HR := hid_of hR
  have HT : Hid (0 = mayZ l) := by show _ = _; unfold mayZ; rw [if_pos hS, if_neg (by omega)]
  clear hR hS
  go_enter Tryz.func6, Tryz.ntmps6
  go_wp2_with (go_at_call 10; refine (rmay_any _ _ _ _ HL.out.at_ hll 0 HT.out).mono ?_; rintro e w1 ⟨rfl, rfl⟩)
  go_loopw [4, 5] (fun v i wr => ∃ j : Nat, j ≤ 19 ∧ i = .int .i64 (j : Int) ∧ Hid (BtAt wr v (bestF l s j)) ∧ Hid (Below w.heap.size w wr)) (fun _ i _ => 19 - (intOf i).toNat)
  case atStart => exact ⟨0, Nat.zero_le _, rfl, BtAt.none _, Below.refl _ _⟩
  case round =>
    obtain ⟨j, hj, rfl, hbt, hb⟩ := hrel
    obtain ⟨B, hB⟩ : ∃ B, B = bestF l s j := ⟨_, rfl⟩
    have hBl : B.length ≤ 10000 := by rw [hB]; exact bestF_len l s j
    rw [← hB] at hbt
    obtain ⟨ba, bc, hu4⟩ := hbt.out.form
    subst hu4
    have HB := hid_of hB
    have HLW : Hid (Ns wr a cap l) := HL.out.mono hb.out
    clear hB
    by_cases hj18 : j ≤ 18
    · have hjb : decide ((j : Int) ≤ 18) = true := decide_eq_true (by omega)
      cases hF : frm (j : Int) l s with
      | none =>
        have HF := hid_of hF
        have HNX : Hid (bestF l s (j + 1) = B) := by show _ = _; rw [HB.out]; simp only [bestF]; rw [hF]
        clear hF
        go_wp2_with fail
        refine (dig_any wr _ s a cap l HLW.out hll HS.out).mono ?_
        rw [HF.out]
        rintro e w1 ⟨v1, rfl, hb1⟩
        have HB1 : Hid (Below w.heap.size w w1) := hb.out.trans (hb1.mono hb.out.size)
        have HBT : Hid (BtAt w1 (.slice ba B.length bc) (bestF l s (j + 1))) := by rw [HNX.out]; exact hbt.out.below hb1
        clear hb1
        go_wp2_with fail
        exact ⟨⟨j + 1, by omega, by go_num, HBT, HB1⟩, by (simp [intOf]) <;> omega⟩
      | some D =>
        have HF := hid_of hF
        have HNX : Hid (bestF l s (j + 1) = if B.length = 0 ∨ D.length < B.length then D else B) := by show _ = _; rw [HB.out]; simp only [bestF]; rw [hF]
        have hDl := frm_len hF
        clear hF
        go_wp2_with fail
        refine (dig_any wr _ s a cap l HLW.out hll HS.out).mono ?_
        rw [HF.out]
        rintro e w1 ⟨v1, rfl, h1⟩
        obtain ⟨da, dc, rfl⟩ := h1.bt.form
        have HB1 : Hid (Below w.heap.size w w1) := hb.out.trans (h1.2.mono hb.out.size)
        have HBT := hid_of h1.bt
        have HBB : Hid (BtAt w1 (.slice ba B.length bc) B) := hbt.out.below h1.2
        clear h1
        rcases (by omega : B.length = 0 ∨ (B.length ≠ 0 ∧ D.length < B.length) ∨ (B.length ≠ 0 ∧ B.length ≤ D.length)) with h0 | ⟨h0, h2⟩ | ⟨h0, h2⟩
        · have hb0 : ((B.length : Int) == 0) = true := beq_iff_eq.2 (by omega)
          have HX : Hid (BtAt w1 (.slice da D.length dc) (bestF l s (j + 1))) := by rw [HNX.out, if_pos (.inl h0)]; exact HBT.out
          clear h0
          go_wp2_with fail
          exact ⟨⟨j + 1, by omega, by go_num, HX, HB1⟩, by (simp [intOf]) <;> omega⟩
        · have hb0 : ((B.length : Int) == 0) = false := beq_eq_false_iff_ne.2 (by omega)
          have HX : Hid (BtAt w1 (.slice da D.length dc) (bestF l s (j + 1))) := by rw [HNX.out, if_pos (.inr h2)]; exact HBT.out
          clear h0
          go_wp2_with fail
          exact ⟨⟨j + 1, by omega, by go_num, HX, HB1⟩, by (simp [intOf]) <;> omega⟩
        · have hb0 : ((B.length : Int) == 0) = false := beq_eq_false_iff_ne.2 (by omega)
          have HX : Hid (BtAt w1 (.slice ba B.length bc) (bestF l s (j + 1))) := by rw [HNX.out, if_neg (by omega)]; exact HBB.out
          clear h0
          go_wp2_with fail
          exact ⟨⟨j + 1, by omega, by go_num, HX, HB1⟩, by (simp [intOf]) <;> omega⟩
    · have e : j = 19 := by omega
      subst e
      have hjb : decide (((19 : Nat) : Int) ≤ 18) = false := rfl
      obtain ⟨P, hP⟩ : ∃ P, P = pack B := ⟨_, rfl⟩
      have HP := hid_of hP
      have HRP : Hid (R = (P, 0)) := by show _ = _; rw [HR.out, ← HB.out, hP]
      clear hP
      go_wp2_with fail
      refine (rbytes_any wr _ B P HP.out hbt.out (by omega)).mono ?_
      rintro e w2 ⟨rfl, h2⟩
      have H2 := hid_of h2
      clear h2
      go_wp2_with fail
      go_ret2
      rw [HRP.out]
      exact ⟨_, rfl, ownsRow_base H2.out.1 hb.out.size, hb.out.trans (H2.out.2.mono hb.out.size)⟩

end Go.Proofs.YtlonnoapbfjomabGreat
