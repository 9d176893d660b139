/- frame: Encode. -/
import Derived.Test.YtlonnoapbfjomabGreatEnc4
namespace Go.Proofs.YtlonnoapbfjomabGreat
set_option linter.unusedVariables false
set_option linter.unusedSimpArgs false
open Go.RowKit Dg

/-- The best writer yet, or none. -/
def BestAt (w wr : World) (p : Value) (ds : List Bool) : Prop :=
  (p = .pointer none ∧ ds = []) ∨ ∃ b rv, p = .pointer (some ⟨b, 0, none⟩) ∧ WrAt wr b rv ds ∧ 0 < ds.length ∧ w.heap.size ≤ b
theorem BestAt.mono {w wr w1 : World} {p : Value} {ds : List Bool} (h : BestAt w wr p ds) (hb : Below wr.heap.size wr w1) : BestAt w w1 p ds := by
  rcases h with h | ⟨b, rv, h1, h2, h3, h4⟩
  · exact .inl h
  · exact .inr ⟨b, rv, h1, h2.below hb, h3, h4⟩
theorem frm_pos {kind : Int} {x : List Int} {s : Nat} {D : List Bool} (h : frm kind x s = some D) : 0 < D.length := by
  have h1 := decP_tail h []
  rw [List.append_nil] at h1
  cases D with
  | nil => simp [decP, takeD] at h1
  | cons d D => simp
theorem bestF_pos {x : List Int} (hm : mayX x) (s : Nat) (j : Nat) (hj : 2 ≤ j) : 0 < (bestF x s j).length := by
  induction j with
  | zero => omega
  | succ j ih =>
    simp only [bestF]
    cases hF : frm (j : Int) x s with
    | none =>
      by_cases hj1 : j = 1
      · subst hj1
        unfold frm at hF
        rw [if_neg (by simp [hm]), if_neg (by decide), if_pos (by decide)] at hF
        cases hF
      · exact ih (by omega)
    | some D =>
      have := frm_pos hF
      simp only
      split
      · exact this
      · rename_i h; omega

set_option maxRecDepth 100000 in
set_option maxHeartbeats 4000000 in
theorem fenc_full (w : World) (s : Nat) (a : Option Addr) (cap : Nat) (l : List Int) (hl : Ns w a cap l) (hll : l.length ≤ 1000000) (hs : mayX l → IsShift (autoZ l 0) s) (R : List Nat × Int) (hR : R = encOut l s) :
    Calls Tryz.prog 13 #[.slice a l.length cap] w fun e w' => FullN w w' R e := by
  have HL := hid_of hl
  have HS := hid_of hs
  unfold encOut at hR
  clear hl hs
  by_cases hc : l.length < 1 ∨ 64 < l.length
  case pos =>
    have HT : Hid (false = decide (1 ≤ (l.length : Int) ∧ (l.length : Int) ≤ 64)) := (decide_eq_false (by omega)).symm
    rw [if_pos hc] at hR
    have HR := hid_of hR
    clear hR hc
    go_enter Tryz.func13, Tryz.ntmps13
    go_wp2_with (go_at_call 25; refine (pcount_any _ _ false HT.out).mono ?_; rintro e w1 ⟨rfl, rfl⟩)
    go_ret2
    rw [HR.out]
    exact ⟨_, rfl, OwnBytes.nil _ _, .inl ⟨rfl, rfl⟩, Below.refl _ _⟩
  rw [if_neg hc] at hR
  have hl1 : 1 ≤ l.length := by omega
  have hl64 : l.length ≤ 64 := by omega
  clear hc
  have HT : Hid (true = decide (1 ≤ (l.length : Int) ∧ (l.length : Int) ≤ 64)) := (decide_eq_true (by omega)).symm
  by_cases hS : allS l
  case neg =>
    have HT2 : Hid (false = decide (allS l)) := (decide_eq_false hS).symm
    rw [if_neg hS] at hR
    have HR := hid_of hR
    clear hR hS
    go_enter Tryz.func13, Tryz.ntmps13
    go_wp2_with first
      | (go_at_call 25; refine (pcount_any _ _ true HT.out).mono ?_; rintro e w1 ⟨rfl, rfl⟩)
      | (go_at_call 26; refine (pare_any _ _ _ _ HL.out.at_ hll false HT2.out).mono ?_; rintro e w1 ⟨rfl, rfl⟩)
    go_ret2
    rw [HR.out]
    exact ⟨_, rfl, OwnBytes.nil _ _, .inl ⟨rfl, rfl⟩, Below.refl _ _⟩
  rw [if_pos hS] at hR
  have HR := hid_of hR
  have HT2 : Hid (true = decide (allS l)) := (decide_eq_true hS).symm
  have HM : Hid (mayX l) := ⟨hl1, hl64, hS⟩
  clear hR hS
  go_enter Tryz.func13, Tryz.ntmps13
  go_wp2_with first
    | (go_at_call 25; refine (pcount_any _ _ true HT.out).mono ?_; rintro e w1 ⟨rfl, rfl⟩)
    | (go_at_call 26; refine (pare_any _ _ _ _ HL.out.at_ hll true HT2.out).mono ?_; rintro e w1 ⟨rfl, rfl⟩)
  go_loopw [4, 15] (fun p i wr => ∃ j : Nat, j ≤ 19 ∧ i = .int .i64 (j : Int) ∧ Hid (BestAt w wr p (bestF l s j)) ∧ Hid (Below w.heap.size w wr)) (fun _ i _ => 19 - (intOf i).toNat)
  case atStart => exact ⟨0, Nat.zero_le _, rfl, .inl ⟨rfl, rfl⟩, Below.refl _ _⟩
  case round =>
    obtain ⟨j, hj, rfl, hbest, hb⟩ := hrel
    by_cases hj19 : j < 19
    · have HLW : Hid (Ns wr a cap l) := HL.out.mono hb.out
      have hjb : decide ((j : Int) < 19) = true := decide_eq_true (by omega)
      cases hF : frm (j : Int) l s with
      | none =>
        have HF : Hid (none = frm (j : Int) l s) := hF.symm
        have HNX : Hid (bestF l s (j + 1) = bestF l s j) := by show _ = _; simp only [bestF]; rw [hF]
        clear hF
        rcases hbest.out with ⟨rfl, hB⟩ | ⟨b, rv, rfl, hw, hp, hwb⟩
        all_goals
          go_wp2_with fail
          refine (pwritten_any wr _ s a cap l HLW.out HM.out (HS.out HM.out) _ HF.out).mono ?_
          rintro e w2 ⟨b2, rfl, hb2, -, -⟩
          have HB2 : Hid (Below w.heap.size w w2) := hb.out.trans (hb2.mono hb.out.size)
          have HX := hid_of (hbest.out.mono hb2)
          rw [← HNX.out] at HX
          clear hb2
          go_wp2_with fail
          exact ⟨⟨j + 1, by omega, by go_num, HX, HB2⟩, by (simp [intOf]) <;> omega⟩
      | some D =>
        have HF : Hid (some D = frm (j : Int) l s) := hF.symm
        obtain ⟨B, hB⟩ : ∃ B, B = bestF l s j := ⟨_, rfl⟩
        have HNX : Hid (bestF l s (j + 1) = if B.length = 0 ∨ D.length < B.length then D else B) := by show _ = _; rw [hB]; simp only [bestF]; rw [hF]
        have hDp := frm_pos hF
        rw [← hB] at hbest
        clear hF hB
        rcases hbest.out with ⟨rfl, hB0⟩ | ⟨b, rv, rfl, hw, hp, hwb⟩
        · have HE : Hid (bestF l s (j + 1) = D) := by show _ = _; rw [HNX.out, if_pos (.inl (by rw [hB0]; rfl))]
          clear hB0
          go_wp2_with fail
          refine (pwritten_any wr _ s a cap l HLW.out HM.out (HS.out HM.out) _ HF.out).mono ?_
          rintro e w2 ⟨b2, rfl, hb2, hwb2, hw2⟩
          obtain ⟨rv2, hw2⟩ := hw2 D rfl
          have HB2 : Hid (Below w.heap.size w w2) := hb.out.trans (hb2.mono hb.out.size)
          have HX : Hid (BestAt w w2 (.pointer (some ⟨b2, 0, none⟩)) (bestF l s (j + 1))) := by
            rw [HE.out]
            exact .inr ⟨b2, rv2, rfl, hw2, hDp, Nat.le_trans hb.out.size hwb2⟩
          clear hb2 hw2 hwb2
          go_wp2_with fail
          exact ⟨⟨j + 1, by omega, by go_num, HX, HB2⟩, by (simp [intOf]) <;> omega⟩
        · have HWB := hid_of hw
          have HWP := hid_of hwb
          clear hw hwb
          go_wp2_with fail
          refine (pwritten_any wr _ s a cap l HLW.out HM.out (HS.out HM.out) _ HF.out).mono ?_
          rintro e w2 ⟨b2, rfl, hb2, hwb2, hw2⟩
          obtain ⟨rv2, hw2⟩ := hw2 D rfl
          have HB2 : Hid (Below w.heap.size w w2) := hb.out.trans (hb2.mono hb.out.size)
          have HWD := hid_of hw2
          have HWB2 := hid_of (HWB.out.below hb2)
          have HX1 : Hid (BestAt w w2 (.pointer (some ⟨b2, 0, none⟩)) D) := .inr ⟨b2, rv2, rfl, hw2, hDp, Nat.le_trans hb.out.size hwb2⟩
          have HX2 : Hid (BestAt w w2 (.pointer (some ⟨b, 0, none⟩)) B) := .inr ⟨b, rv, rfl, HWB2.out, hp, HWP.out⟩
          clear hb2 hw2 hwb2
          by_cases hlt : D.length < B.length
          · have HE : Hid (bestF l s (j + 1) = D) := by show _ = _; rw [HNX.out, if_pos (.inr hlt)]
            rw [← HE.out] at HX1
            go_wp2_with first
              | (go_at_call_of 28 (Value.pointer (some ⟨b2, 0, none⟩)); refine (len_any _ _ _ _ HWD.out).mono ?_; rintro e w3 ⟨rfl, rfl⟩)
              | (go_at_call_of 28 (Value.pointer (some ⟨b, 0, none⟩)); refine (len_any _ _ _ _ HWB2.out).mono ?_; rintro e w3 ⟨rfl, rfl⟩)
            exact ⟨⟨j + 1, by omega, by go_num, HX1, HB2⟩, by (simp [intOf]) <;> omega⟩
          · have HE : Hid (bestF l s (j + 1) = B) := by show _ = _; rw [HNX.out, if_neg (by omega)]
            rw [← HE.out] at HX2
            go_wp2_with first
              | (go_at_call_of 28 (Value.pointer (some ⟨b2, 0, none⟩)); refine (len_any _ _ _ _ HWD.out).mono ?_; rintro e w3 ⟨rfl, rfl⟩)
              | (go_at_call_of 28 (Value.pointer (some ⟨b, 0, none⟩)); refine (len_any _ _ _ _ HWB2.out).mono ?_; rintro e w3 ⟨rfl, rfl⟩)
            exact ⟨⟨j + 1, by omega, by go_num, HX2, HB2⟩, by (simp [intOf]) <;> omega⟩
    · have e : j = 19 := by omega
      subst e
      have hpos := bestF_pos HM.out s 19 (by decide)
      obtain ⟨L, hL⟩ : ∃ L, L = pack (bestF l s 19) := ⟨_, rfl⟩
      have HLP := hid_of hL
      have HRR : Hid (R = (L, 0)) := by show _ = _; rw [HR.out, hL]
      have hlen := bestF_len l s 19
      rcases hbest.out with ⟨rfl, hB0⟩ | ⟨b, rv, rfl, hw, hp, hwb⟩
      · rw [hB0] at hpos
        exact absurd hpos (by decide)
      · have HW := hid_of hw
        clear hL hw hwb hp hpos
        have hjb : decide (((19 : Nat) : Int) < 19) = false := rfl
        go_wp2_with fail
        refine (bytes_any wr b rv _ L HLP.out HW.out (by omega)).mono ?_
        rintro e w3 ⟨rfl, h3, hb3⟩
        have HO3 : Hid (OwnBytes w3 w.heap.size (.slice (some ⟨wr.heap.size, 0, none⟩) L.length L.length) L) := ownsRow_base h3 hb.out.size
        have HB3 : Hid (Below w.heap.size w w3) := hb.out.trans (hb3.mono hb.out.size)
        clear h3 hb3
        go_wp2_with fail
        go_ret2
        rw [HRR.out]
        exact ⟨_, rfl, HO3.out, .inr ⟨_, rfl⟩, HB3.out⟩

end Go.Proofs.YtlonnoapbfjomabGreat
