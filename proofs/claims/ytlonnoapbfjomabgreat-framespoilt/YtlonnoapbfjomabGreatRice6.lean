/- The document's own digits of a number: Rice. -/
import Derived.Test.YtlonnoapbfjomabGreatRice5
import Derived.Test.YtlonnoapbfjomabGreatRice4
import Derived.Test.YtlonnoapbfjomabGreatWrites
namespace Go.Proofs.YtlonnoapbfjomabGreat
set_option linter.unusedVariables false
set_option linter.unusedSimpArgs false
open Go.RowKit Dg

theorem dig_ones' : dig 16777215 24 = List.replicate 24 true := by decide

theorem rones_wat (w : World) (v : Value) (ds : List Bool) (n : Nat) (hbt : BtAt w v ds) (hsm : ds.length ≤ 1000000) (hn : n ≤ 1024) (I : Int) (hI : I = (n : Int)) :
    Calls Tryz.prog 69 #[v, .int .i64 I] w fun e w' => ∃ v', e = .returned (.tuple #[v', .bool true]) ∧ w'.ownsRow w.heap.size 5 1 v' (ds ++ (List.replicate n true ++ [false])).length (u8s (bn (ds ++ (List.replicate n true ++ [false])))) ∧ Below w.heap.size w w' := by
  subst hI
  exact rones_wany w v ds n hbt hsm hn

set_option maxHeartbeats 1000000 in
theorem rrice_bad (w : World) (v : Value) (z k : Int) (h : (isNum z && isPar k) = false) :
    Calls Tryz.prog 43 #[v, .int .i64 z, .int .i64 k] w fun e w' => e = .returned (.tuple #[v, .bool false]) ∧ w = w' := by
  have HM : Hid (false = (isNum z && isPar k)) := h.symm
  clear h
  go_enter Tryz.func43, Tryz.ntmps43
  go_wp2_with (go_at_call 67; refine (may_any z k w false HM.out).mono ?_; rintro e w2 ⟨rfl, rfl⟩)
  go_ret2
  exact ⟨rfl, rfl⟩

set_option maxHeartbeats 2000000 in
theorem rrice_any (w : World) (v : Value) (ds : List Bool) (z : Int) (k : Nat) (h : BtAt w v ds) (hlt : ds.length ≤ 900000) (hz : isNum z = true) (hk : k ≤ 24) :
    Calls Tryz.prog 43 #[v, .int .i64 z, .int .i64 k] w fun e w' => ∃ v', e = .returned (.tuple #[v', .bool true]) ∧ w'.ownsRow w.heap.size 5 1 v' (ds ++ riceDig z k).length (u8s (bn (ds ++ riceDig z k))) ∧ Below w.heap.size w w' := by
  have hp : isPar (k : Int) = true := by simp [isPar]; omega
  obtain ⟨h1, h2⟩ := isNum_true hz
  obtain ⟨h3, h4⟩ := quot_le z k h1
  have HM : Hid (true = (isNum z && isPar (k : Int))) := by show _ = _; rw [hz, hp]; rfl
  have HW : Hid (BtAt w v ds) := h
  clear hz hp h
  by_cases hr : 24 ≤ z / 2 ^ k
  · have HD : Hid (riceDig z k = List.replicate 24 true ++ dig z 32) := by show _ = _; simp only [riceDig]; rw [if_pos hr]
    obtain ⟨d1, hd1⟩ : ∃ d1, d1 = ds ++ dig 16777215 24 := ⟨_, rfl⟩
    have HD1 : Hid (d1 = ds ++ dig 16777215 24) := hd1
    have hl1 : d1.length ≤ 1000000 := by rw [hd1]; simp; omega
    clear hd1
    go_enter Tryz.func43, Tryz.ntmps43
    go_wp2_with first
      | (go_at_call 67; refine (may_any z k w true HM.out).mono ?_; rintro e w2 ⟨rfl, rfl⟩)
      | fail
    refine (rput_any w v ds 16777215 24 HW.out (by omega) (by decide)).mono ?_
    rw [← HD1.out]
    rintro e w1 ⟨v1, rfl, ho1, hb1⟩
    have HO1 : Hid (BtAt w1 v1 d1) := BtAt.of_owns ho1
    have HB1 : Hid (Below w.heap.size w w1) := hb1
    clear ho1 hb1
    go_wp2_with fail
    refine (rput_any w1 v1 d1 z 32 HO1.out hl1 (by decide)).mono ?_
    rintro e w2 ⟨v2, rfl, ho2, hb2⟩
    have HO2 : Hid (w2.ownsRow w1.heap.size 5 1 v2 (d1 ++ dig z 32).length (u8s (bn (d1 ++ dig z 32)))) := ho2
    have HB2 : Hid (Below w1.heap.size w1 w2) := hb2
    clear ho2 hb2
    go_wp2
    go_ret2
    have e : d1 ++ dig z 32 = ds ++ riceDig z k := by rw [HD1.out, dig_ones', List.append_assoc, ← HD.out]
    have hs := HB1.out.size
    have := HO2.out
    rw [e] at this
    exact ⟨_, rfl, ownsRow_base this hs, HB1.out.trans (HB2.out.mono hs)⟩
  · obtain ⟨q, hq⟩ : ∃ q : Nat, q = (z / 2 ^ k).toNat := ⟨_, rfl⟩
    have HD : Hid (riceDig z k = (List.replicate q true ++ [false]) ++ dig z k) := by show _ = _; simp only [riceDig]; rw [if_neg hr, hq]
    have hqz : z / 2 ^ k = (q : Int) := by omega
    have HQ : Hid (z / 2 ^ k = (q : Int)) := hqz
    have hq24 : q < 24 := by omega
    clear hq hqz
    obtain ⟨d1, hd1⟩ : ∃ d1, d1 = ds ++ (List.replicate q true ++ [false]) := ⟨_, rfl⟩
    have HD1 : Hid (d1 = ds ++ (List.replicate q true ++ [false])) := hd1
    have hl1 : d1.length ≤ 1000000 := by rw [hd1]; simp; omega
    clear hd1
    go_enter Tryz.func43, Tryz.ntmps43
    go_wp2_with first
      | (go_at_call 67; refine (may_any z k w true HM.out).mono ?_; rintro e w2 ⟨rfl, rfl⟩)
      | fail
    refine (rones_wat w v ds q HW.out (by omega) (by omega) _ HQ.out).mono ?_
    rw [← HD1.out]
    rintro e w1 ⟨v1, rfl, ho1, hb1⟩
    have HO1 : Hid (BtAt w1 v1 d1) := BtAt.of_owns ho1
    have HB1 : Hid (Below w.heap.size w w1) := hb1
    clear ho1 hb1
    go_wp2_with fail
    refine (rput_any w1 v1 d1 z k HO1.out hl1 (by omega)).mono ?_
    rintro e w2 ⟨v2, rfl, ho2, hb2⟩
    have HO2 : Hid (w2.ownsRow w1.heap.size 5 1 v2 (d1 ++ dig z k).length (u8s (bn (d1 ++ dig z k)))) := ho2
    have HB2 : Hid (Below w1.heap.size w1 w2) := hb2
    clear ho2 hb2
    go_wp2
    go_ret2
    have e : d1 ++ dig z k = ds ++ riceDig z k := by rw [HD1.out, List.append_assoc, ← HD.out]
    have hs := HB1.out.size
    have := HO2.out
    rw [e] at this
    exact ⟨_, rfl, ownsRow_base this hs, HB1.out.trans (HB2.out.mono hs)⟩

end Go.Proofs.YtlonnoapbfjomabGreat
