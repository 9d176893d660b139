/- The document's own next number: TakeRice. -/
import Derived.Test.YtlonnoapbfjomabGreatRice7
import Derived.Test.YtlonnoapbfjomabGreatRice4
namespace Go.Proofs.YtlonnoapbfjomabGreat
set_option linter.unusedVariables false
set_option linter.unusedSimpArgs false
open Go.RowKit Dg

theorem isNum_zero : isNum 0 = true := by decide

set_option maxHeartbeats 4000000 in
theorem rtake_all (w : World) (v : Value) (l : List Nat) (at_ : Nat) (k : Int) (h : BtAt w v (left l at_)) (o : Nat × Nat × Bool) (ho : riceOut (left l at_) k = o) :
    Calls Tryz.prog 64 #[v, .int .i64 k] w fun e w' => ∃ v', e = .returned (.tuple #[.int .i64 (o.1 : Nat), v', .bool o.2.2]) ∧ BtAt w' v' (left l (at_ + o.2.1)) ∧ (∀ k, v'.ownBlock = some k → v.ownBlock = some k) ∧ ∃ m, w' = w.drewN m := by
  have HR : Hid (BtAt w v (left l at_)) := h
  cases hp : isPar k with
  | false =>
    have e : o = (0, 0, false) := by rw [← ho]; simp [riceOut, hp]
    subst e
    have HP : Hid (false = (isNum 0 && isPar k)) := by show _ = _; rw [hp]; rfl
    clear hp h ho
    go_enter Tryz.func64, Tryz.ntmps64
    go_wp2_with (go_at_call 67; refine (may_any 0 k w false HP.out).mono ?_; rintro e w2 ⟨rfl, rfl⟩)
    go_ret3
    exact ⟨_, rfl, HR.out, fun _ h => h, 0, rfl⟩
  | true =>
    obtain ⟨hk1, hk2⟩ := isPar_true hp
    obtain ⟨kk, rfl⟩ := Int.eq_ofNat_of_zero_le hk1
    have HP : Hid (true = (isNum 0 && isPar (kk : Int))) := by show _ = _; rw [hp]; rfl
    rcases onesOut_cases (left l at_) with h1 | h1 | ⟨q, hq, h1⟩
    · have e : o = (0, 0, false) := by rw [← ho]; simp [riceOut, hp, h1]
      subst e
      have H1 : Hid (onesOut (left l at_) 24 = (0, 0, false)) := h1
      clear h hp h1 ho
      go_enter Tryz.func64, Tryz.ntmps64
      go_wp2_with first
        | (go_at_call 67; refine (may_any 0 kk w true HP.out).mono ?_; rintro e w2 ⟨rfl, rfl⟩)
        | fail
      refine (take_all' w v l at_ 24 HR.out _ H1.out).mono ?_
      rintro e w1 ⟨v1, rfl, hb1, ho1, m1, rfl⟩
      clear hb1 ho1
      go_wp2
      go_ret3
      exact ⟨_, rfl, HR.out.drewN _, fun _ h => h, m1, rfl⟩
    · have H1 : Hid (onesOut (left l at_) 24 = (24, 24, true)) := h1
      have hd : (left l at_).drop 24 = left l (at_ + 24) := (left_drop l at_ 24).symm
      rcases getOut_cases (left l (at_ + 24)) 32 with h2 | ⟨z, hz, hz2, h2⟩
      · have h2' : getOut (left l (at_ + 24)) 32 = (0, 0, false) := h2
        have e : o = (0, 0, false) := by rw [← ho]; simp [riceOut, hp, h1, hd, h2']
        subst e
        have H2 : Hid (getOut (left l (at_ + 24)) 32 = (0, 0, false)) := h2'
        clear h hp h1 ho h2 h2' hd
        go_enter Tryz.func64, Tryz.ntmps64
        go_wp2_with first
          | (go_at_call 67; refine (may_any 0 kk w true HP.out).mono ?_; rintro e w2 ⟨rfl, rfl⟩)
          | fail
        refine (take_all' w v l at_ 24 HR.out _ H1.out).mono ?_
        rintro e w1 ⟨v1, rfl, hb1, ho1, m1, rfl⟩
        have HB1 : Hid (BtAt (w.drewN m1) v1 (left l (at_ + 24))) := hb1
        clear hb1 ho1
        go_wp2_with fail
        refine (rget_all' (w.drewN m1) v1 l (at_ + 24) 32 HB1.out _ H2.out).mono ?_
        rintro e w2 ⟨v2, rfl, hb2, ho2, m2, rfl⟩
        clear hb2 ho2
        go_wp2
        go_ret3
        exact ⟨_, rfl, HR.out.drewN (m1 + m2), fun _ h => h, m1 + m2, rfl⟩
      · have h2' : getOut (left l (at_ + 24)) 32 = (z, 32, true) := h2
        have hz32 : z < 4294967296 := hz
        have H2 : Hid (getOut (left l (at_ + 24)) 32 = (z, 32, true)) := h2'
        have HO : Hid (o = if 24 ≤ z / 2 ^ kk then (z, 56, true) else (0, 0, false)) := by
          show _ = _
          rw [← ho]; simp [riceOut, hp, h1, hd, h2']
        have hcast : ((z / 2 ^ kk : Nat) : Int) = (z : Int) / 2 ^ kk := by rw [← pow_cast]; rfl
        by_cases hc : 24 ≤ z / 2 ^ kk
        · have hci : (24 : Int) ≤ (z : Int) / 2 ^ kk := by omega
          have hcb : decide ((z : Int) / 2 ^ kk < 24) = false := by simp only [decide_eq_false_iff_not]; omega
          have e := HO.out
          rw [if_pos hc] at e
          subst e
          clear h hp h1 ho h2 h2' hd HO hz hcast hc hz2
          go_enter Tryz.func64, Tryz.ntmps64
          go_wp2_with first
            | (go_at_call 67; refine (may_any 0 kk w true HP.out).mono ?_; rintro e w2 ⟨rfl, rfl⟩)
            | fail
          refine (take_all' w v l at_ 24 HR.out _ H1.out).mono ?_
          rintro e w1 ⟨v1, rfl, hb1, ho1, m1, rfl⟩
          have HB1 : Hid (BtAt (w.drewN m1) v1 (left l (at_ + 24))) := hb1
          have HO1 : Hid (∀ k, v1.ownBlock = some k → v.ownBlock = some k) := ho1
          clear hb1 ho1
          go_wp2_with fail
          refine (rget_all' (w.drewN m1) v1 l (at_ + 24) 32 HB1.out _ H2.out).mono ?_
          rintro e w2 ⟨v2, rfl, hb2, ho2, m2, rfl⟩
          have HB2 : Hid (BtAt ((w.drewN m1).drewN m2) v2 (left l (at_ + 24 + 32))) := hb2
          have HO2 : Hid (∀ k, v2.ownBlock = some k → v.ownBlock = some k) := fun k hk => HO1.out k (ho2 k hk)
          clear hb2 ho2
          go_wp2
          go_ret3
          exact ⟨_, rfl, HB2.out, HO2.out, m1 + m2, rfl⟩
        · have hci : (z : Int) / 2 ^ kk < 24 := by omega
          have hcb : decide ((z : Int) / 2 ^ kk < 24) = true := by simp only [decide_eq_true_eq]; omega
          have e := HO.out
          rw [if_neg hc] at e
          subst e
          clear h hp h1 ho h2 h2' hd HO hz hcast hc hz2
          go_enter Tryz.func64, Tryz.ntmps64
          go_wp2_with first
            | (go_at_call 67; refine (may_any 0 kk w true HP.out).mono ?_; rintro e w2 ⟨rfl, rfl⟩)
            | fail
          refine (take_all' w v l at_ 24 HR.out _ H1.out).mono ?_
          rintro e w1 ⟨v1, rfl, hb1, ho1, m1, rfl⟩
          have HB1 : Hid (BtAt (w.drewN m1) v1 (left l (at_ + 24))) := hb1
          clear hb1 ho1
          go_wp2_with fail
          refine (rget_all' (w.drewN m1) v1 l (at_ + 24) 32 HB1.out _ H2.out).mono ?_
          rintro e w2 ⟨v2, rfl, hb2, ho2, m2, rfl⟩
          clear hb2 ho2
          go_wp2
          go_ret3
          exact ⟨_, rfl, HR.out.drewN (m1 + m2), fun _ h => h, m1 + m2, rfl⟩
    · have H1 : Hid (onesOut (left l at_) 24 = (q, q + 1, true)) := h1
      have hd : (left l at_).drop (q + 1) = left l (at_ + (q + 1)) := (left_drop l at_ (q + 1)).symm
      have hqne : ¬ q = 24 := by omega
      rcases getOut_cases (left l (at_ + (q + 1))) kk with h2 | ⟨z, hz, hz2, h2⟩
      · have e : o = (0, 0, false) := by rw [← ho]; simp [riceOut, hp, h1, hd, h2, hqne]
        subst e
        have H2 : Hid (getOut (left l (at_ + (q + 1))) kk = (0, 0, false)) := h2
        clear h hp h1 ho h2 hd
        go_enter Tryz.func64, Tryz.ntmps64
        go_wp2_with first
          | (go_at_call 67; refine (may_any 0 kk w true HP.out).mono ?_; rintro e w2 ⟨rfl, rfl⟩)
          | fail
        refine (take_all' w v l at_ 24 HR.out _ H1.out).mono ?_
        rintro e w1 ⟨v1, rfl, hb1, ho1, m1, rfl⟩
        have HB1 : Hid (BtAt (w.drewN m1) v1 (left l (at_ + (q + 1)))) := hb1
        clear hb1 ho1
        go_wp2_with fail
        refine (rget_all' (w.drewN m1) v1 l (at_ + (q + 1)) kk HB1.out _ H2.out).mono ?_
        rintro e w2 ⟨v2, rfl, hb2, ho2, m2, rfl⟩
        clear hb2 ho2
        go_wp2
        go_ret3
        exact ⟨_, rfl, HR.out.drewN (m1 + m2), fun _ h => h, m1 + m2, rfl⟩
      · have e : o = (q * 2 ^ kk + z, q + 1 + kk, true) := by rw [← ho]; simp [riceOut, hp, h1, hd, h2, hqne]
        subst e
        have H2 : Hid (getOut (left l (at_ + (q + 1))) kk = (z, kk, true)) := h2
        have HZ : Hid (wrap64 (wrap64 ((q : Int) * 2 ^ kk) + (z : Int)) = ((q * 2 ^ kk + z : Nat) : Int)) := by
          show _ = _
          rw [wrap64_qk q kk hq (by omega)]
          have hp1 : 2 ^ kk ≤ 2 ^ 24 := Nat.pow_le_pow_right (by decide) (by omega)
          have hp2 : (2 : Nat) ^ 24 = 16777216 := by decide
          have hqm : q * 2 ^ kk ≤ 24 * 16777216 := Nat.mul_le_mul (by omega) (by omega)
          generalize q * 2 ^ kk = X at hqm ⊢
          unfold wrap64
          omega
        clear h hp h1 ho h2 hd hz hz2
        go_enter Tryz.func64, Tryz.ntmps64
        go_wp2_with first
          | (go_at_call 67; refine (may_any 0 kk w true HP.out).mono ?_; rintro e w2 ⟨rfl, rfl⟩)
          | fail
        refine (take_all' w v l at_ 24 HR.out _ H1.out).mono ?_
        rintro e w1 ⟨v1, rfl, hb1, ho1, m1, rfl⟩
        have HB1 : Hid (BtAt (w.drewN m1) v1 (left l (at_ + (q + 1)))) := hb1
        have HO1 : Hid (∀ k, v1.ownBlock = some k → v.ownBlock = some k) := ho1
        clear hb1 ho1
        go_wp2_with fail
        refine (rget_all' (w.drewN m1) v1 l (at_ + (q + 1)) kk HB1.out _ H2.out).mono ?_
        rintro e w2 ⟨v2, rfl, hb2, ho2, m2, rfl⟩
        have HB2 : Hid (BtAt ((w.drewN m1).drewN m2) v2 (left l (at_ + (q + 1) + kk))) := hb2
        have HO2 : Hid (∀ k, v2.ownBlock = some k → v.ownBlock = some k) := fun k hk => HO1.out k (ho2 k hk)
        clear hb2 ho2
        go_wp2
        go_ret3
        exact ⟨_, by first | rw [← HZ.out]; rfl | rfl, by rw [← Nat.add_assoc]; exact HB2.out, HO2.out, m1 + m2, rfl⟩

end Go.Proofs.YtlonnoapbfjomabGreat
