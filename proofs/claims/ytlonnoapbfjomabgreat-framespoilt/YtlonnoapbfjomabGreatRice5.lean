/- Put of package rice. -/
import Derived.Test.YtlonnoapbfjomabGreatRice1
import Derived.Test.YtlonnoapbfjomabGreatWalk8
namespace Go.Proofs.YtlonnoapbfjomabGreat
set_option linter.unusedVariables false
set_option linter.unusedSimpArgs false
open Go.RowKit Dg

/-- A number's digits, as the document says them. -/
def riceDig (z : Int) (k : Nat) : List Bool := if 24 ≤ z / 2 ^ k then List.replicate 24 true ++ dig z 32 else (List.replicate (z / 2 ^ k).toNat true ++ [false]) ++ dig z k

theorem length_riceDig (z : Int) (k : Nat) (hz : 0 ≤ z) : ((riceDig z k).length : Int) = sizeIn z k := by
  have := quot_le z k hz
  unfold riceDig sizeIn
  split <;> simp <;> omega
theorem length_riceDig_le (z : Int) (k : Nat) (hz : 0 ≤ z) (hk : k ≤ 24) : (riceDig z k).length ≤ 56 := by
  have := quot_le z k hz
  have e := length_riceDig z k hz
  unfold sizeIn at e
  split at e <;> omega

theorem ones_at (w : World) (b : Nat) (rv : Value) (ds : List Bool) (n : Nat) (h : WrAt w b rv ds) (hlt : ds.length < 4398046500000) (hn : n ≤ 1024) (I : Int) (hI : I = (n : Int)) :
    Calls Tryz.prog 101 #[.pointer (some ⟨b, 0, none⟩), .int .i64 I] w fun e w' => e = .returned (.bool true) ∧ Wrote w w' b rv (ds ++ (List.replicate n true ++ [false])) := by
  subst hI
  exact ones_any w b rv ds n h hlt hn

theorem dig_ones : dig (-1) 24 = List.replicate 24 true := by decide

set_option maxHeartbeats 1000000 in
theorem ricePut_bad (w : World) (p : Value) (z k : Int) (h : (isNum z && isPar k) = false) :
    Calls Tryz.prog 86 #[p, .int .i64 z, .int .i64 k] w fun e w' => e = .returned (.bool false) ∧ w = w' := by
  cases hz : isNum z with
  | false =>
    have HZ : Hid (isNum z = false) := hz
    clear h hz
    go_enter Tryz.func86, Tryz.ntmps86
    go_wp2_with (go_at_call 97; refine (isNumber_any z w).mono ?_; rw [HZ.out]; rintro e w2 ⟨rfl, rfl⟩)
    go_ret
    exact ⟨rfl, rfl⟩
  | true =>
    have HZ : Hid (isNum z = true) := hz
    have HK : Hid (isPar k = false) := by show _ = _; simpa [hz] using h
    clear h hz
    go_enter Tryz.func86, Tryz.ntmps86
    go_wp2_with first
      | (go_at_call 97; refine (isNumber_any z w).mono ?_; rw [HZ.out]; rintro e w2 ⟨rfl, rfl⟩)
      | (go_at_call 99; refine (isParameter_any k w).mono ?_; rw [HK.out]; rintro e w2 ⟨rfl, rfl⟩)
    go_ret
    exact ⟨rfl, rfl⟩

set_option maxHeartbeats 2000000 in
theorem ricePut_any (w : World) (b : Nat) (rv : Value) (ds : List Bool) (z : Int) (k : Nat) (h : WrAt w b rv ds) (hlt : ds.length ≤ 1000000) (hz : isNum z = true) (hk : k ≤ 24) :
    Calls Tryz.prog 86 #[.pointer (some ⟨b, 0, none⟩), .int .i64 z, .int .i64 k] w fun e w' => e = .returned (.bool true) ∧ Wrote w w' b rv (ds ++ riceDig z k) := by
  have hp : isPar (k : Int) = true := by simp [isPar]; omega
  obtain ⟨h1, h2⟩ := isNum_true hz
  obtain ⟨h3, h4⟩ := quot_le z k h1
  have HZ : Hid (isNum z = true) := hz
  have HP : Hid (isPar (k : Int) = true) := hp
  have HW : Hid (WrAt w b rv ds) := h
  clear hz hp h
  by_cases hr : 24 ≤ z / 2 ^ k
  · have er : isRawOf z k = true := by simp [isRawOf, hr]
    have HR : Hid (isRawOf z k = true) := er
    have HD : Hid (riceDig z k = List.replicate 24 true ++ dig z 32) := by show _ = _; simp only [riceDig]; rw [if_pos hr]
    clear er
    obtain ⟨d1, hd1⟩ : ∃ d1, d1 = ds ++ dig (-1) 24 := ⟨_, rfl⟩
    have HD1 : Hid (d1 = ds ++ dig (-1) 24) := hd1
    have hl1 : d1.length < 4398046511000 := by rw [hd1]; simp; omega
    clear hd1
    go_enter Tryz.func86, Tryz.ntmps86
    go_wp2_with first
      | (go_at_call 97; refine (isNumber_any z w).mono ?_; rw [HZ.out]; rintro e w2 ⟨rfl, rfl⟩)
      | (go_at_call 99; refine (isParameter_any k w).mono ?_; rw [HP.out]; rintro e w2 ⟨rfl, rfl⟩)
      | (go_at_call 100; refine (isRaw_any z k w h1 h2 (by omega)).mono ?_; rw [HR.out]; rintro e w2 ⟨rfl, rfl⟩)
      | fail
    refine (put_any w b rv ds (-1) 24 HW.out (by omega) (by decide)).mono ?_
    rw [← HD1.out]
    rintro e w1 ⟨rfl, rv1, hw1, hk1, hn1⟩
    have HW1 : Hid (WrAt w1 b rv1 d1) := hw1
    have HK1 : Hid (Kept (Wf b rv) w w1) := hk1
    have HN1 : Hid (∀ k, rv1.ownBlock = some k → rv.ownBlock = some k ∨ w.heap.size ≤ k) := hn1
    clear hw1 hk1 hn1
    go_wp2_with fail
    refine (put_any w1 b rv1 d1 z 32 HW1.out hl1 (by decide)).mono ?_
    rintro e w2 ⟨rfl, hw2⟩
    have HW2 : Hid (Wrote w1 w2 b rv1 (d1 ++ dig z 32)) := hw2
    clear hw2
    go_wp2
    go_ret
    refine ⟨rfl, ?_⟩
    have := Wrote.trans HK1.out HN1.out HW2.out
    rw [HD1.out, dig_ones, List.append_assoc, ← HD.out] at this
    exact this
  · have er : isRawOf z k = false := by simp [isRawOf, hr]
    have HR : Hid (isRawOf z k = false) := er
    obtain ⟨q, hq⟩ : ∃ q : Nat, q = (z / 2 ^ k).toNat := ⟨_, rfl⟩
    have HD : Hid (riceDig z k = (List.replicate q true ++ [false]) ++ dig z k) := by show _ = _; simp only [riceDig]; rw [if_neg hr, hq]
    have hqz : z / 2 ^ k = (q : Int) := by omega
    have HQ : Hid (z / 2 ^ k = (q : Int)) := hqz
    have hq24 : q < 24 := by omega
    clear er hq hqz
    obtain ⟨d1, hd1⟩ : ∃ d1, d1 = ds ++ (List.replicate q true ++ [false]) := ⟨_, rfl⟩
    have HD1 : Hid (d1 = ds ++ (List.replicate q true ++ [false])) := hd1
    have hl1 : d1.length < 4398046511000 := by rw [hd1]; simp; omega
    clear hd1
    go_enter Tryz.func86, Tryz.ntmps86
    go_wp2_with first
      | (go_at_call 97; refine (isNumber_any z w).mono ?_; rw [HZ.out]; rintro e w2 ⟨rfl, rfl⟩)
      | (go_at_call 99; refine (isParameter_any k w).mono ?_; rw [HP.out]; rintro e w2 ⟨rfl, rfl⟩)
      | (go_at_call 100; refine (isRaw_any z k w h1 h2 (by omega)).mono ?_; rw [HR.out]; rintro e w2 ⟨rfl, rfl⟩)
      | fail
    refine (ones_at w b rv ds q HW.out (by omega) (by omega) _ HQ.out).mono ?_
    rw [← HD1.out]
    rintro e w1 ⟨rfl, rv1, hw1, hk1, hn1⟩
    have HW1 : Hid (WrAt w1 b rv1 d1) := hw1
    have HK1 : Hid (Kept (Wf b rv) w w1) := hk1
    have HN1 : Hid (∀ k, rv1.ownBlock = some k → rv.ownBlock = some k ∨ w.heap.size ≤ k) := hn1
    clear hw1 hk1 hn1
    go_wp2_with fail
    refine (put_any w1 b rv1 d1 z k HW1.out hl1 (by omega)).mono ?_
    rintro e w2 ⟨rfl, hw2⟩
    have HW2 : Hid (Wrote w1 w2 b rv1 (d1 ++ dig z k)) := hw2
    clear hw2
    go_wp2
    go_ret
    refine ⟨rfl, ?_⟩
    have := Wrote.trans HK1.out HN1.out HW2.out
    rw [HD1.out, List.append_assoc, ← HD.out] at this
    exact this

end Go.Proofs.YtlonnoapbfjomabGreat
