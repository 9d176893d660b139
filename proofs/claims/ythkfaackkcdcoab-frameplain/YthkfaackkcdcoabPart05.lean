/- The texts Rice5, Ref1, Ref2, Ref3, Ref4, Ref5, Reads, one behind the other. -/
import Derived.Test.YthkfaackkcdcoabPart04
import Derived.Test.YthkfaackkcdcoabPart02

/- Put of package rice. -/
namespace Go.Proofs.Ythkfaackkcdcoab
set_option linter.unusedVariables false
set_option linter.unusedSimpArgs false
open Go.RowKit Dg

/-- A number's digits, as the document says them. -/
def riceDig (z : Int) (k : Nat) : List Bool := if 24 ≤ z / 2 ^ k then List.replicate 24 true ++ dig z 32 else (List.replicate (z / 2 ^ k).toNat true ++ [false]) ++ dig z k

theorem length_riceDig (z : Int) (k : Nat) (hz : 0 ≤ z) : ((riceDig z k).length : Int) = sizeIn z k := by
  have := quot_le z k hz
  unfold riceDig sizeIn
  split <;> simp <;> omega
theorem length_riceDig_le (z : Int) (k : Nat) (hz : 0 ≤ z) (hk : k ≤ 24) : (riceDig z k).length ≤ 56 := by
  have := quot_le z k hz
  have e := length_riceDig z k hz
  unfold sizeIn at e
  split at e <;> omega

theorem ones_at (w : World) (b : Nat) (rv : Value) (ds : List Bool) (n : Nat) (h : WrAt w b rv ds) (hlt : ds.length < 4398046500000) (hn : n ≤ 1024) (I : Int) (hI : I = (n : Int)) :
    Calls Try.prog 106 #[.pointer (some ⟨b, 0, none⟩), .int .i64 I] w fun e w' => e = .returned (.bool true) ∧ Wrote w w' b rv (ds ++ (List.replicate n true ++ [false])) := by
  subst hI
  exact ones_any w b rv ds n h hlt hn

theorem dig_ones : dig (-1) 24 = List.replicate 24 true := by decide

set_option maxHeartbeats 1000000 in
theorem ricePut_bad (w : World) (p : Value) (z k : Int) (h : (isNum z && isPar k) = false) :
    Calls Try.prog 92 #[p, .int .i64 z, .int .i64 k] w fun e w' => e = .returned (.bool false) ∧ w = w' := by
  cases hz : isNum z with
  | false =>
    have HZ : Hid (isNum z = false) := hz
    clear h hz
    go_enter Try.func92, Try.ntmps92
    go_wp2_with (go_at_call 103; refine (isNumber_any z w).mono ?_; rw [HZ.out]; rintro e w2 ⟨rfl, rfl⟩)
    go_ret
    exact ⟨rfl, rfl⟩
  | true =>
    have HZ : Hid (isNum z = true) := hz
    have HK : Hid (isPar k = false) := by show _ = _; simpa [hz] using h
    clear h hz
    go_enter Try.func92, Try.ntmps92
    go_wp2_with first
      | (go_at_call 103; refine (isNumber_any z w).mono ?_; rw [HZ.out]; rintro e w2 ⟨rfl, rfl⟩)
      | (go_at_call 100; refine (isParameter_any k w).mono ?_; rw [HK.out]; rintro e w2 ⟨rfl, rfl⟩)
    go_ret
    exact ⟨rfl, rfl⟩

set_option maxHeartbeats 2000000 in
theorem ricePut_any (w : World) (b : Nat) (rv : Value) (ds : List Bool) (z : Int) (k : Nat) (h : WrAt w b rv ds) (hlt : ds.length ≤ 1000000) (hz : isNum z = true) (hk : k ≤ 24) :
    Calls Try.prog 92 #[.pointer (some ⟨b, 0, none⟩), .int .i64 z, .int .i64 k] w fun e w' => e = .returned (.bool true) ∧ Wrote w w' b rv (ds ++ riceDig z k) := by
  have hp : isPar (k : Int) = true := by simp [isPar]; omega
  obtain ⟨h1, h2⟩ := isNum_true hz
  obtain ⟨h3, h4⟩ := quot_le z k h1
  have HZ : Hid (isNum z = true) := hz
  have HP : Hid (isPar (k : Int) = true) := hp
  have HW : Hid (WrAt w b rv ds) := h
  clear hz hp h
  by_cases hr : 24 ≤ z / 2 ^ k
  · have er : isRawOf z k = true := by simp [isRawOf, hr]
    have HR : Hid (isRawOf z k = true) := er
    have HD : Hid (riceDig z k = List.replicate 24 true ++ dig z 32) := by show _ = _; simp only [riceDig]; rw [if_pos hr]
    clear er
    obtain ⟨d1, hd1⟩ : ∃ d1, d1 = ds ++ dig (-1) 24 := ⟨_, rfl⟩
    have HD1 : Hid (d1 = ds ++ dig (-1) 24) := hd1
    have hl1 : d1.length < 4398046511000 := by rw [hd1]; simp; omega
    clear hd1
    go_enter Try.func92, Try.ntmps92
    go_wp2_with first
      | (go_at_call 103; refine (isNumber_any z w).mono ?_; rw [HZ.out]; rintro e w2 ⟨rfl, rfl⟩)
      | (go_at_call 100; refine (isParameter_any k w).mono ?_; rw [HP.out]; rintro e w2 ⟨rfl, rfl⟩)
      | (go_at_call 105; refine (isRaw_any z k w h1 h2 (by omega)).mono ?_; rw [HR.out]; rintro e w2 ⟨rfl, rfl⟩)
      | fail
    refine (put_any w b rv ds (-1) 24 HW.out (by omega) (by decide)).mono ?_
    rw [← HD1.out]
    rintro e w1 ⟨rfl, rv1, hw1, hk1, hn1⟩
    have HW1 : Hid (WrAt w1 b rv1 d1) := hw1
    have HK1 : Hid (Kept (Wf b rv) w w1) := hk1
    have HN1 : Hid (∀ k, rv1.ownBlock = some k → rv.ownBlock = some k ∨ w.heap.size ≤ k) := hn1
    clear hw1 hk1 hn1
    go_wp2_with fail
    refine (put_any w1 b rv1 d1 z 32 HW1.out hl1 (by decide)).mono ?_
    rintro e w2 ⟨rfl, hw2⟩
    have HW2 : Hid (Wrote w1 w2 b rv1 (d1 ++ dig z 32)) := hw2
    clear hw2
    go_wp2
    go_ret
    refine ⟨rfl, ?_⟩
    have := Wrote.trans HK1.out HN1.out HW2.out
    rw [HD1.out, dig_ones, List.append_assoc, ← HD.out] at this
    exact this
  · have er : isRawOf z k = false := by simp [isRawOf, hr]
    have HR : Hid (isRawOf z k = false) := er
    obtain ⟨q, hq⟩ : ∃ q : Nat, q = (z / 2 ^ k).toNat := ⟨_, rfl⟩
    have HD : Hid (riceDig z k = (List.replicate q true ++ [false]) ++ dig z k) := by show _ = _; simp only [riceDig]; rw [if_neg hr, hq]
    have hqz : z / 2 ^ k = (q : Int) := by omega
    have HQ : Hid (z / 2 ^ k = (q : Int)) := hqz
    have hq24 : q < 24 := by omega
    clear er hq hqz
    obtain ⟨d1, hd1⟩ : ∃ d1, d1 = ds ++ (List.replicate q true ++ [false]) := ⟨_, rfl⟩
    have HD1 : Hid (d1 = ds ++ (List.replicate q true ++ [false])) := hd1
    have hl1 : d1.length < 4398046511000 := by rw [hd1]; simp; omega
    clear hd1
    go_enter Try.func92, Try.ntmps92
    go_wp2_with first
      | (go_at_call 103; refine (isNumber_any z w).mono ?_; rw [HZ.out]; rintro e w2 ⟨rfl, rfl⟩)
      | (go_at_call 100; refine (isParameter_any k w).mono ?_; rw [HP.out]; rintro e w2 ⟨rfl, rfl⟩)
      | (go_at_call 105; refine (isRaw_any z k w h1 h2 (by omega)).mono ?_; rw [HR.out]; rintro e w2 ⟨rfl, rfl⟩)
      | fail
    refine (ones_at w b rv ds q HW.out (by omega) (by omega) _ HQ.out).mono ?_
    rw [← HD1.out]
    rintro e w1 ⟨rfl, rv1, hw1, hk1, hn1⟩
    have HW1 : Hid (WrAt w1 b rv1 d1) := hw1
    have HK1 : Hid (Kept (Wf b rv) w w1) := hk1
    have HN1 : Hid (∀ k, rv1.ownBlock = some k → rv.ownBlock = some k ∨ w.heap.size ≤ k) := hn1
    clear hw1 hk1 hn1
    go_wp2_with fail
    refine (put_any w1 b rv1 d1 z k HW1.out hl1 (by omega)).mono ?_
    rintro e w2 ⟨rfl, hw2⟩
    have HW2 : Hid (Wrote w1 w2 b rv1 (d1 ++ dig z k)) := hw2
    clear hw2
    go_wp2
    go_ret
    refine ⟨rfl, ?_⟩
    have := Wrote.trans HK1.out HN1.out HW2.out
    rw [HD1.out, List.append_assoc, ← HD.out] at this
    exact this

end Go.Proofs.Ythkfaackkcdcoab

/- The document's own answers, by their contracts: digits as bytes: Get, TakeOnes, Rest. -/
namespace Go.Proofs.Ythkfaackkcdcoab
set_option linter.unusedVariables false
set_option linter.unusedSimpArgs false
open Go.RowKit Dg

/-- Digits, a byte each, that can be read. -/
def BtAt (w : World) (v : Value) (ds : List Bool) : Prop :=
  (v = .slice none 0 0 ∧ ds = []) ∨
  ∃ b off cap, v = .slice (some ⟨b, off, none⟩) ds.length cap ∧ b < w.heap.size ∧ ds.length ≤ cap ∧ cap ≤ maxLen ∧ ∀ j d, ds[j]? = some d → w.cell? ⟨b, off + j, none⟩ = some (.int .u8 (d.toNat : Int))

theorem BtAt.kept {w w' : World} {v : Value} {ds : List Bool} {F : Nat → Prop} (h : BtAt w v ds) (hk : Kept F w w') (hF : ∀ k, v.ownBlock = some k → ¬ F k) : BtAt w' v ds := by
  rcases h with h | ⟨b, off, cap, rfl, hb, hl, hm, hc⟩
  · exact Or.inl h
  · refine Or.inr ⟨b, off, cap, rfl, Nat.lt_of_lt_of_le hb hk.size, hl, hm, fun j d hd => ?_⟩
    rw [hk.cell hb (hF b rfl)]
    exact hc j d hd
theorem BtAt.below {w w' : World} {v : Value} {ds : List Bool} (h : BtAt w v ds) (hb : Below w.heap.size w w') : BtAt w' v ds :=
  h.kept (F := fun _ => False) (Kept.of_below hb) (fun _ _ h => h)
theorem BtAt.drew {w : World} {v : Value} {ds : List Bool} (h : BtAt w v ds) : BtAt w.drew v ds := h
theorem BtAt.drewN {w : World} {v : Value} {ds : List Bool} (n : Nat) (h : BtAt w v ds) : BtAt (w.drewN n) v ds := h
theorem BtAt.lt {w : World} {v : Value} {ds : List Bool} (h : BtAt w v ds) : ∀ k, v.ownBlock = some k → k < w.heap.size := by
  rcases h with ⟨rfl, _⟩ | ⟨b, off, cap, rfl, hb, _⟩
  · intro k hk; simp [Value.ownBlock] at hk
  · intro k hk; simp [Value.ownBlock] at hk; omega

set_option maxHeartbeats 1000000 in
theorem rget_bad (w : World) (v : Value) (n : Int) (hn : n < 0 ∨ 62 < n) :
    Calls Try.prog 23 #[v, .int .i64 n] w fun e w' => e = .returned (.tuple #[.int .i64 0, v, .bool false]) ∧ w = w' := by
  rcases hn with h | h
  · go_enter Try.func23, Try.ntmps23
    go_wp2
    go_ret3
    exact ⟨rfl, rfl⟩
  · have h' : 0 ≤ n := by omega
    go_enter Try.func23, Try.ntmps23
    go_wp2
    go_ret3
    exact ⟨rfl, rfl⟩

set_option maxHeartbeats 1000000 in
theorem rget_few (w : World) (a : Option Addr) (len cap : Nat) (n : Int) (h0 : 0 ≤ n) (h62 : n ≤ 62) (hn : (len : Int) < n) :
    Calls Try.prog 23 #[.slice a len cap, .int .i64 n] w fun e w' => e = .returned (.tuple #[.int .i64 0, .slice a len cap, .bool false]) ∧ w = w' := by
  go_enter Try.func23, Try.ntmps23
  go_wp2
  go_ret3
  exact ⟨rfl, rfl⟩

set_option maxHeartbeats 1000000 in
theorem rget_raw (w : World) (b off cap : Nat) (ds : List Bool) (n : Nat) (hn : n ≤ ds.length) (h62 : n ≤ 62) (hl : ds.length ≤ cap) (hm : cap ≤ maxLen) (hc : ∀ j d, ds[j]? = some d → w.cell? ⟨b, off + j, none⟩ = some (.int .u8 (d.toNat : Int))) :
    Calls Try.prog 23 #[.slice (some ⟨b, off, none⟩) ds.length cap, .int .i64 n] w fun e w' => ∃ v', e = .returned (.tuple #[.int .i64 (num (ds.take n) : Nat), v', .bool true]) ∧ (∃ o, v' = .slice (some ⟨b, o, none⟩) (ds.length - n) (cap - n) ∧ (cap ≠ n → o = off + n)) ∧ w' = w.drew := by
  unfold maxLen at hm
  have HC : Hid (∀ j d, ds[j]? = some d → w.cell? ⟨b, off + j, none⟩ = some (.int .u8 (d.toNat : Int))) := hc
  clear hc
  go_enter Try.func23, Try.ntmps23
  go_wp2
  go_loop [7, 8] (fun x i => ∃ j : Nat, j ≤ n ∧ i = .int .i64 j ∧ x = .int .i64 (num (ds.take j) : Nat)) (fun _ i => n - (intOf i).toNat)
  case atStart => exact ⟨0, Nat.zero_le _, rfl, rfl⟩
  case round =>
    obtain ⟨j, hj, rfl, rfl⟩ := hrel
    by_cases hjn : j < n
    · obtain ⟨d, hd⟩ : ∃ d, ds[j]? = some d := ⟨ds[j], by simp⟩
      have hcell := HC.out j d hd
      obtain ⟨x, hx⟩ : ∃ x, x = num (ds.take j) := ⟨_, rfl⟩
      have hxb : x < 2305843009213693952 := by
        have h1 := num_lt (ds.take j)
        have h2 : 2 ^ (ds.take j).length ≤ 2 ^ 61 := Nat.pow_le_pow_right (by decide) (by simp; omega)
        have h3 : (2 : Nat) ^ 61 = 2305843009213693952 := by decide
        omega
      have HX : Hid (num (ds.take (j + 1)) = 2 * x + d.toNat) := by
        rw [List.take_add_one, hd]
        show num (ds.take j ++ [d]) = _
        rw [num_snoc, hx]
      have hd1 : d.toNat ≤ 1 := by cases d <;> decide
      rw [← hx]
      clear hx hd
      go_wp2
      go_round
      case rel => exact ⟨j + 1, by omega, by go_num, by rw [HX.out]; go_num⟩
      case measure => simp [intOf]; omega
    · have e : j = n := by omega
      subst e
      by_cases hcn : cap = j
      · go_wp2
        go_region
        all_goals go_wp2
        all_goals go_ret3
        all_goals exact ⟨_, rfl, ⟨off, by rw [hcn, Nat.sub_self]; rfl, fun h => absurd hcn h⟩, rfl⟩
      · go_wp2
        go_region
        all_goals go_wp2
        all_goals go_ret3
        all_goals exact ⟨_, rfl, ⟨off + j, rfl, fun h => rfl⟩, rfl⟩

set_option maxHeartbeats 1000000 in
theorem rget_nil (w : World) :
    Calls Try.prog 23 #[.slice none 0 0, .int .i64 0] w fun e w' => e = .returned (.tuple #[.int .i64 0, .slice none 0 0, .bool true]) ∧ w' = w.drew := by
  go_enter Try.func23, Try.ntmps23
  go_wp2
  go_rounds 1
  all_goals go_region
  all_goals go_wp2
  all_goals go_ret3
  all_goals exact ⟨rfl, rfl⟩

/-- What is behind the first n digits. -/
theorem BtAt.drop {w : World} {b off cap o n : Nat} {ds : List Bool} (hb : b < w.heap.size) (hn : n ≤ ds.length) (hl : ds.length ≤ cap) (hm : cap ≤ maxLen) (hc : ∀ j d, ds[j]? = some d → w.cell? ⟨b, off + j, none⟩ = some (.int .u8 (d.toNat : Int))) (ho : cap ≠ n → o = off + n) :
    BtAt w (.slice (some ⟨b, o, none⟩) (ds.length - n) (cap - n)) (ds.drop n) := by
  refine Or.inr ⟨b, o, cap - n, by simp, hb, by simp; omega, by omega, fun j d hd => ?_⟩
  have hj : n + j < ds.length := by
    have := (List.getElem?_eq_some_iff.1 hd).1
    simp at this; omega
  rw [ho (by omega)]
  rw [List.getElem?_drop] at hd
  have := hc (n + j) d hd
  rw [Nat.add_assoc]
  exact this

/-- Get: what comes, how many are taken, whether it may be. -/
def getOut (ds : List Bool) (n : Int) : Nat × Nat × Bool :=
  if 0 ≤ n ∧ n ≤ 62 ∧ n ≤ ds.length then (num (ds.take n.toNat), n.toNat, true) else (0, 0, false)

theorem rget_all (w : World) (v : Value) (ds : List Bool) (n : Int) (h : BtAt w v ds) :
    Calls Try.prog 23 #[v, .int .i64 n] w fun e w' => ∃ v', e = .returned (.tuple #[.int .i64 ((getOut ds n).1 : Nat), v', .bool (getOut ds n).2.2]) ∧ BtAt w' v' (ds.drop (getOut ds n).2.1) ∧ (∀ k, v'.ownBlock = some k → v.ownBlock = some k) ∧ ∃ m, w' = w.drewN m := by
  by_cases hbad : n < 0 ∨ 62 < n
  · refine (rget_bad w v n hbad).mono ?_
    rintro e w' ⟨rfl, rfl⟩
    have hg : getOut ds n = (0, 0, false) := by unfold getOut; rw [if_neg (by omega)]
    rw [hg]
    exact ⟨v, rfl, by simpa using h, fun _ h => h, 0, rfl⟩
  · by_cases hfew : (ds.length : Int) < n
    · have hg : getOut ds n = (0, 0, false) := by unfold getOut; rw [if_neg (by omega)]
      rw [hg]
      rcases h with ⟨rfl, rfl⟩ | ⟨b, off, cap, rfl, hb, hl, hm, hc⟩
      · refine (rget_few w none 0 0 n (by omega) (by omega) (by simpa using hfew)).mono ?_
        rintro e w' ⟨rfl, rfl⟩
        exact ⟨_, rfl, Or.inl ⟨rfl, rfl⟩, fun _ h => h, 0, rfl⟩
      · refine (rget_few w _ _ cap n (by omega) (by omega) hfew).mono ?_
        rintro e w' ⟨rfl, rfl⟩
        exact ⟨_, rfl, Or.inr ⟨b, off, cap, rfl, hb, hl, hm, hc⟩, fun _ h => h, 0, rfl⟩
    · obtain ⟨N, rfl⟩ := Int.eq_ofNat_of_zero_le (show 0 ≤ n by omega)
      have hg : getOut ds (N : Nat) = (num (ds.take N), N, true) := by unfold getOut; rw [if_pos (by omega)]; simp
      rw [hg]
      rcases h with ⟨rfl, rfl⟩ | ⟨b, off, cap, rfl, hb, hl, hm, hc⟩
      · have hN : N = 0 := by simp at hfew; omega
        subst hN
        refine (rget_nil w).mono ?_
        rintro e w' ⟨rfl, rfl⟩
        exact ⟨_, rfl, Or.inl ⟨rfl, rfl⟩, fun _ h => h, 1, rfl⟩
      · refine (rget_raw w b off cap ds N (by omega) (by omega) hl hm hc).mono ?_
        rintro e w' ⟨v', rfl, ⟨o, rfl, ho⟩, rfl⟩
        exact ⟨_, rfl, (BtAt.drop hb (by omega) hl hm hc ho).drew, fun _ h => h, 1, rfl⟩

end Go.Proofs.Ythkfaackkcdcoab

/- The document's own answers, by their contracts: TakeOnes, Rest. -/
namespace Go.Proofs.Ythkfaackkcdcoab
set_option linter.unusedVariables false
set_option linter.unusedSimpArgs false
open Go.RowKit Dg

/-- How many ones are ahead, m at most. -/
def lead : List Bool → Nat → Nat
  | [], _ => 0
  | _ :: _, 0 => 0
  | true :: ds, m + 1 => lead ds m + 1
  | false :: _, _ + 1 => 0
theorem lead_le (ds : List Bool) : ∀ m, lead ds m ≤ m := by
  induction ds with
  | nil => intro m; simp [lead]
  | cons d ds ih =>
    intro m
    cases m with
    | zero => simp [lead]
    | succ m => cases d with
      | true => have := ih m; simp [lead]; omega
      | false => simp [lead]
theorem lead_le_length (ds : List Bool) : ∀ m, lead ds m ≤ ds.length := by
  induction ds with
  | nil => intro m; simp [lead]
  | cons d ds ih =>
    intro m
    cases m with
    | zero => simp [lead]
    | succ m => cases d with
      | true => have := ih m; simp [lead]; omega
      | false => simp [lead]
theorem lead_true (ds : List Bool) : ∀ m i, i < lead ds m → ds[i]? = some true := by
  induction ds with
  | nil => intro m i h; simp [lead] at h
  | cons d ds ih =>
    intro m i h
    cases m with
    | zero => simp [lead] at h
    | succ m => cases d with
      | true =>
        simp only [lead] at h
        cases i with
        | zero => rfl
        | succ i => rw [List.getElem?_cons_succ]; exact ih m i (by omega)
      | false => simp [lead] at h
theorem lead_false (ds : List Bool) : ∀ m, lead ds m < m → lead ds m < ds.length → ds[lead ds m]? = some false := by
  induction ds with
  | nil => intro m _ h; simp at h
  | cons d ds ih =>
    intro m h1 h2
    cases m with
    | zero => omega
    | succ m => cases d with
      | true =>
        simp only [lead, List.length_cons] at h1 h2 ⊢
        rw [List.getElem?_cons_succ]
        exact ih m (by omega) (by omega)
      | false => simp [lead]

/-- Ones: what comes, how many are taken, whether it may be. -/
def onesOut (ds : List Bool) (most : Int) : Nat × Nat × Bool :=
  if 0 ≤ most ∧ most ≤ 1024 then
    if lead ds most.toNat = most.toNat then (most.toNat, most.toNat, true)
    else if lead ds most.toNat = ds.length then (0, 0, false)
    else (lead ds most.toNat, lead ds most.toNat + 1, true)
  else (0, 0, false)

set_option maxHeartbeats 1000000 in
theorem take_bad (w : World) (v : Value) (n : Int) (hn : n < 0 ∨ 1024 < n) :
    Calls Try.prog 69 #[v, .int .i64 n] w fun e w' => e = .returned (.tuple #[.int .i64 0, v, .bool false]) ∧ w = w' := by
  rcases hn with h | h
  · go_enter Try.func69, Try.ntmps69
    go_wp2
    go_ret3
    exact ⟨rfl, rfl⟩
  · have h' : 0 ≤ n := by omega
    go_enter Try.func69, Try.ntmps69
    go_wp2
    go_ret3
    exact ⟨rfl, rfl⟩

set_option maxHeartbeats 1000000 in
theorem take_most (w : World) (b off cap : Nat) (ds : List Bool) (c : Nat) (hn : c ≤ ds.length) (hm1 : c ≤ 1024) (hl : ds.length ≤ cap) (hm : cap ≤ maxLen) (ho : ∀ i, i < c → w.cell? ⟨b, off + i, none⟩ = some (.int .u8 1)) :
    Calls Try.prog 69 #[.slice (some ⟨b, off, none⟩) ds.length cap, .int .i64 c] w fun e w' => ∃ v', e = .returned (.tuple #[.int .i64 c, v', .bool true]) ∧ (∃ o, v' = .slice (some ⟨b, o, none⟩) (ds.length - c) (cap - c) ∧ (cap ≠ c → o = off + c)) ∧ w' = w.drew := by
  unfold maxLen at hm
  have HO : Hid (∀ i, i < c → w.cell? ⟨b, off + i, none⟩ = some (.int .u8 1)) := ho
  clear ho
  go_enter Try.func69, Try.ntmps69
  go_wp2
  go_loop [7] (fun i => ∃ j : Nat, j ≤ c ∧ i = .int .i64 j) (fun i => c - (intOf i).toNat)
  case atStart => exact ⟨0, Nat.zero_le _, rfl⟩
  case round =>
    obtain ⟨j, hj, rfl⟩ := hrel
    by_cases hjc : j < c
    · have hcell := HO.out j hjc
      have hjl : j < ds.length := by omega
      go_wp2
      go_round
      case rel => exact ⟨j + 1, by omega, by go_num⟩
      case measure => simp [intOf]; omega
    · have e : j = c := by omega
      subst e
      by_cases hcn : cap = j
      · go_wp2
        go_region
        all_goals go_wp2
        all_goals go_ret3
        all_goals exact ⟨_, rfl, ⟨off, by rw [hcn, Nat.sub_self]; rfl, fun h => absurd hcn h⟩, rfl⟩
      · go_wp2
        go_region
        all_goals go_wp2
        all_goals go_ret3
        all_goals exact ⟨_, rfl, ⟨off + j, rfl, fun h => rfl⟩, rfl⟩

set_option maxHeartbeats 1000000 in
theorem take_end (w : World) (b off cap : Nat) (ds : List Bool) (most : Int) (hm0 : (ds.length : Int) < most) (hm1 : most ≤ 1024) (hl : ds.length ≤ cap) (hm : cap ≤ maxLen) (ho : ∀ i, i < ds.length → w.cell? ⟨b, off + i, none⟩ = some (.int .u8 1)) :
    Calls Try.prog 69 #[.slice (some ⟨b, off, none⟩) ds.length cap, .int .i64 most] w fun e w' => e = .returned (.tuple #[.int .i64 0, .slice (some ⟨b, off, none⟩) ds.length cap, .bool false]) ∧ w = w' := by
  unfold maxLen at hm
  have HO : Hid (∀ i, i < ds.length → w.cell? ⟨b, off + i, none⟩ = some (.int .u8 1)) := ho
  clear ho
  go_enter Try.func69, Try.ntmps69
  go_wp2
  go_loop [7] (fun i => ∃ j : Nat, j ≤ ds.length ∧ i = .int .i64 j) (fun i => ds.length - (intOf i).toNat)
  case atStart => exact ⟨0, Nat.zero_le _, rfl⟩
  case round =>
    obtain ⟨j, hj, rfl⟩ := hrel
    by_cases hjc : j < ds.length
    · have hcell := HO.out j hjc
      go_wp2
      go_round
      case rel => exact ⟨j + 1, by omega, by go_num⟩
      case measure => simp [intOf]; omega
    · have h1 : ((j : Int) == most) = false := by simp; omega
      have h2 : ((j : Int) == (ds.length : Int)) = true := by simp; omega
      go_wp2
      go_ret3
      exact ⟨rfl, rfl⟩

set_option maxHeartbeats 1000000 in
theorem take_nought (w : World) (b off cap : Nat) (ds : List Bool) (c : Nat) (most : Int) (hn : c < ds.length) (hm0 : (c : Int) < most) (hm1 : most ≤ 1024) (hl : ds.length ≤ cap) (hm : cap ≤ maxLen) (ho : ∀ i, i < c → w.cell? ⟨b, off + i, none⟩ = some (.int .u8 1)) (hz : w.cell? ⟨b, off + c, none⟩ = some (.int .u8 0)) :
    Calls Try.prog 69 #[.slice (some ⟨b, off, none⟩) ds.length cap, .int .i64 most] w fun e w' => ∃ v', e = .returned (.tuple #[.int .i64 c, v', .bool true]) ∧ (∃ o, v' = .slice (some ⟨b, o, none⟩) (ds.length - (c + 1)) (cap - (c + 1)) ∧ (cap ≠ c + 1 → o = off + (c + 1))) ∧ w' = w.drew := by
  unfold maxLen at hm
  have HO : Hid (∀ i, i < c → w.cell? ⟨b, off + i, none⟩ = some (.int .u8 1)) := ho
  clear ho
  go_enter Try.func69, Try.ntmps69
  go_wp2
  go_loop [7] (fun i => ∃ j : Nat, j ≤ c ∧ i = .int .i64 j) (fun i => c - (intOf i).toNat)
  case atStart => exact ⟨0, Nat.zero_le _, rfl⟩
  case round =>
    obtain ⟨j, hj, rfl⟩ := hrel
    have hjl : j < ds.length := by omega
    by_cases hjc : j < c
    · have hcell := HO.out j hjc
      go_wp2
      go_round
      case rel => exact ⟨j + 1, by omega, by go_num⟩
      case measure => simp [intOf]; omega
    · have e : j = c := by omega
      subst e
      have h1 : ((j : Int) == most) = false := by simp; omega
      have h2 : ((j : Int) == (ds.length : Int)) = false := by simp; omega
      by_cases hcn : cap = j + 1
      · go_wp2
        go_region
        all_goals go_wp2
        all_goals go_ret3
        all_goals exact ⟨_, rfl, ⟨off, by rw [hcn, Nat.sub_self]; rfl, fun h => absurd hcn h⟩, rfl⟩
      · go_wp2
        go_region
        all_goals go_wp2
        all_goals go_ret3
        all_goals exact ⟨_, rfl, ⟨off + (j + 1), rfl, fun h => rfl⟩, rfl⟩

set_option maxHeartbeats 1000000 in
theorem take_nil0 (w : World) :
    Calls Try.prog 69 #[.slice none 0 0, .int .i64 0] w fun e w' => e = .returned (.tuple #[.int .i64 0, .slice none 0 0, .bool true]) ∧ w' = w.drew := by
  go_enter Try.func69, Try.ntmps69
  go_wp2
  go_rounds 1
  all_goals go_region
  all_goals go_wp2
  all_goals go_ret3
  all_goals exact ⟨rfl, rfl⟩

set_option maxHeartbeats 1000000 in
theorem take_nil (w : World) (most : Int) (h0 : 0 < most) (h1 : most ≤ 1024) :
    Calls Try.prog 69 #[.slice none 0 0, .int .i64 most] w fun e w' => e = .returned (.tuple #[.int .i64 0, .slice none 0 0, .bool false]) ∧ w = w' := by
  have h2 : ((0 : Int) == most) = false := by simp; omega
  go_enter Try.func69, Try.ntmps69
  go_wp2
  go_rounds 1
  all_goals go_ret3
  all_goals exact ⟨rfl, rfl⟩

end Go.Proofs.Ythkfaackkcdcoab

/- A reader and the document's own digits side by side: each call by one contract for all arguments. -/
namespace Go.Proofs.Ythkfaackkcdcoab
set_option linter.unusedVariables false
set_option linter.unusedSimpArgs false
open Go.RowKit Dg

theorem cell_one {w : World} {b off : Nat} {ds : List Bool} (hc : ∀ j d, ds[j]? = some d → w.cell? ⟨b, off + j, none⟩ = some (.int .u8 (d.toNat : Int))) {i : Nat} (h : ds[i]? = some true) : w.cell? ⟨b, off + i, none⟩ = some (.int .u8 1) := hc i true h
theorem cell_nought {w : World} {b off : Nat} {ds : List Bool} (hc : ∀ j d, ds[j]? = some d → w.cell? ⟨b, off + j, none⟩ = some (.int .u8 (d.toNat : Int))) {i : Nat} (h : ds[i]? = some false) : w.cell? ⟨b, off + i, none⟩ = some (.int .u8 0) := hc i false h

theorem take_all (w : World) (v : Value) (ds : List Bool) (n : Int) (h : BtAt w v ds) :
    Calls Try.prog 69 #[v, .int .i64 n] w fun e w' => ∃ v', e = .returned (.tuple #[.int .i64 ((onesOut ds n).1 : Nat), v', .bool (onesOut ds n).2.2]) ∧ BtAt w' v' (ds.drop (onesOut ds n).2.1) ∧ (∀ k, v'.ownBlock = some k → v.ownBlock = some k) ∧ ∃ m, w' = w.drewN m := by
  by_cases hbad : n < 0 ∨ 1024 < n
  · refine (take_bad w v n hbad).mono ?_
    rintro e w' ⟨rfl, rfl⟩
    have hg : onesOut ds n = (0, 0, false) := by unfold onesOut; rw [if_neg (by omega)]
    rw [hg]
    exact ⟨v, rfl, by simpa using h, fun _ h => h, 0, rfl⟩
  · obtain ⟨N, rfl⟩ := Int.eq_ofNat_of_zero_le (show 0 ≤ n by omega)
    have hle := lead_le ds N
    have hlen := lead_le_length ds N
    rcases h with ⟨rfl, rfl⟩ | ⟨b, off, cap, rfl, hb, hl, hm, hc⟩
    · by_cases h0 : N = 0
      · subst h0
        refine (take_nil0 w).mono ?_
        rintro e w' ⟨rfl, rfl⟩
        exact ⟨_, rfl, Or.inl ⟨rfl, rfl⟩, fun _ h => h, 1, rfl⟩
      · have hg : onesOut [] (N : Nat) = (0, 0, false) := by
          unfold onesOut
          rw [if_pos (by omega), if_neg (by simp [lead]; omega), if_pos (by simp [lead])]
        rw [hg]
        refine (take_nil w N (by omega) (by omega)).mono ?_
        rintro e w' ⟨rfl, rfl⟩
        exact ⟨_, rfl, Or.inl ⟨rfl, rfl⟩, fun _ h => h, 0, rfl⟩
    · by_cases h1 : lead ds N = N
      · have hg : onesOut ds (N : Nat) = (N, N, true) := by unfold onesOut; rw [if_pos (by omega)]; simp [h1]
        rw [hg]
        refine (take_most w b off cap ds N (by omega) (by omega) hl hm (fun i hi => cell_one hc (lead_true ds N i (by omega)))).mono ?_
        rintro e w' ⟨v', rfl, ⟨o, rfl, ho⟩, rfl⟩
        exact ⟨_, rfl, (BtAt.drop hb (by omega) hl hm hc ho).drew, fun _ h => h, 1, rfl⟩
      · by_cases h2 : lead ds N = ds.length
        · have hg : onesOut ds (N : Nat) = (0, 0, false) := by unfold onesOut; rw [if_pos (by omega), if_neg (by simpa using h1), if_pos (by simpa using h2)]
          rw [hg]
          refine (take_end w b off cap ds N (by omega) (by omega) hl hm (fun i hi => cell_one hc (lead_true ds N i (by omega)))).mono ?_
          rintro e w' ⟨rfl, rfl⟩
          exact ⟨_, rfl, Or.inr ⟨b, off, cap, rfl, hb, hl, hm, hc⟩, fun _ h => h, 0, rfl⟩
        · have hg : onesOut ds (N : Nat) = (lead ds N, lead ds N + 1, true) := by unfold onesOut; rw [if_pos (by omega), if_neg (by simpa using h1), if_neg (by simpa using h2)]; simp
          rw [hg]
          refine (take_nought w b off cap ds (lead ds N) N (by omega) (by omega) (by omega) hl hm (fun i hi => cell_one hc (lead_true ds N i hi)) (cell_nought hc (lead_false ds N (by omega) (by omega)))).mono ?_
          rintro e w' ⟨v', rfl, ⟨o, rfl, ho⟩, rfl⟩
          exact ⟨_, rfl, (BtAt.drop hb (by omega) hl hm hc ho).drew, fun _ h => h, 1, rfl⟩

/-- What a reader has left. -/
def left (l : List Nat) (k : Nat) : List Bool := (unpack l).drop k
theorem left_get (l : List Nat) (k i : Nat) : (left l k)[i]? = (unpack l)[k + i]? := by simp [left]
theorem left_len (l : List Nat) (k : Nat) : (left l k).length = 8 * l.length - k := by simp [left]
theorem left_drop (l : List Nat) (k n : Nat) : left l (k + n) = (left l k).drop n := by simp [left]

theorem rones_all (w : World) (b : Nat) (rv : Value) (l : List Nat) (k : Nat) (n : Int) (h : RdAt w b rv l k) :
    Calls Try.prog 110 #[.pointer (some ⟨b, 0, none⟩), .int .i64 n] w fun e w' => e = .returned (.tuple #[.int .i64 ((onesOut (left l k) n).1 : Nat), .bool (onesOut (left l k) n).2.2]) ∧ RdAt w' b rv l (k + (onesOut (left l k) n).2.1) ∧ Kept (fun i => i = b) w w' := by
  by_cases hbad : n < 0 ∨ 1024 < n
  · refine (rones_bad w _ n hbad).mono ?_
    rintro e w' ⟨rfl, rfl⟩
    have hg : onesOut (left l k) n = (0, 0, false) := by unfold onesOut; rw [if_neg (by omega)]
    rw [hg]
    exact ⟨rfl, h, Kept.refl _ _⟩
  · obtain ⟨N, rfl⟩ := Int.eq_ofNat_of_zero_le (show 0 ≤ n by omega)
    have hle := lead_le (left l k) N
    have hlen := lead_le_length (left l k) N
    have hll := left_len l k
    have hkl := h.le
    by_cases h1 : lead (left l k) N = N
    · have hg : onesOut (left l k) (N : Nat) = (N, N, true) := by unfold onesOut; rw [if_pos (by omega)]; simp [h1]
      rw [hg]
      exact rones_most w b rv l k N h (by omega) (by omega) (fun i hi => by rw [← left_get]; exact lead_true _ N i (by omega))
    · by_cases h2 : lead (left l k) N = (left l k).length
      · have hg : onesOut (left l k) (N : Nat) = (0, 0, false) := by unfold onesOut; rw [if_pos (by omega), if_neg (by simpa using h1), if_pos (by simpa using h2)]
        rw [hg]
        refine (rones_end w b rv l k (left l k).length N h (by omega) (by omega) (by omega) (fun i hi => by rw [← left_get]; exact lead_true _ N i (by omega))).mono ?_
        rintro e w' ⟨rfl, rfl⟩
        exact ⟨rfl, h.drew, (Kept.refl _ _).drew⟩
      · have hg : onesOut (left l k) (N : Nat) = (lead (left l k) N, lead (left l k) N + 1, true) := by unfold onesOut; rw [if_pos (by omega), if_neg (by simpa using h1), if_neg (by simpa using h2)]; simp
        rw [hg]
        refine (rones_nought w b rv l k (lead (left l k) N) N h (by omega) (by omega) (by rw [← left_get]; exact lead_false _ N (by omega) (by omega)) (fun i hi => by rw [← left_get]; exact lead_true _ N i hi)).mono ?_
        rintro e w' ⟨rfl, h3, h4⟩
        exact ⟨rfl, h3, h4⟩

theorem get_all (w : World) (b : Nat) (rv : Value) (l : List Nat) (k : Nat) (n : Int) (h : RdAt w b rv l k) :
    Calls Try.prog 37 #[.pointer (some ⟨b, 0, none⟩), .int .i64 n] w fun e w' => e = .returned (.tuple #[.int .i64 ((getOut (left l k) n).1 : Nat), .bool (getOut (left l k) n).2.2]) ∧ RdAt w' b rv l (k + (getOut (left l k) n).2.1) ∧ Kept (fun i => i = b) w w' := by
  have hll := left_len l k
  have hkl := h.le
  by_cases hbad : n < 0 ∨ 62 < n
  · refine (get_bad w _ n hbad).mono ?_
    rintro e w' ⟨rfl, rfl⟩
    have hg : getOut (left l k) n = (0, 0, false) := by unfold getOut; rw [if_neg (by omega)]
    rw [hg]
    exact ⟨rfl, h, Kept.refl _ _⟩
  · by_cases hfew : 8 * (l.length : Int) - k < n
    · have hg : getOut (left l k) n = (0, 0, false) := by unfold getOut; rw [if_neg (by omega)]
      rw [hg]
      refine (get_few w b rv l k n h (by omega) (by omega) hfew).mono ?_
      rintro e w' ⟨rfl, rfl⟩
      exact ⟨rfl, h.drew, (Kept.refl _ _).drew⟩
    · obtain ⟨N, rfl⟩ := Int.eq_ofNat_of_zero_le (show 0 ≤ n by omega)
      have hg : getOut (left l k) (N : Nat) = (num ((left l k).take N), N, true) := by unfold getOut; rw [if_pos (by omega)]; simp
      rw [hg]
      exact get_any w b rv l k N h (by omega) (by omega)

/-- Are all noughts? -/
def noOnes (ds : List Bool) : Bool := !ds.any id
theorem noOnes_cons (d : Bool) (ds : List Bool) : noOnes (d :: ds) = (!d && noOnes ds) := by simp [noOnes]
theorem noOnes_split (ds : List Bool) : (noOnes ds = true ∧ ∀ i, i < ds.length → ds[i]? = some false) ∨ (noOnes ds = false ∧ ∃ c : Nat, ds[c]? = some true ∧ ∀ i : Nat, i < c → ds[i]? = some false) := by
  induction ds with
  | nil => exact Or.inl ⟨rfl, fun i h => by simp at h⟩
  | cons d ds ih =>
    cases d with
    | true => exact Or.inr ⟨by simp [noOnes], 0, rfl, fun i h => by omega⟩
    | false =>
      rw [noOnes_cons]
      rcases ih with ⟨h1, h2⟩ | ⟨h1, c, h2, h3⟩
      · refine Or.inl ⟨by simpa using h1, fun i h => ?_⟩
        cases i with
        | zero => rfl
        | succ i => rw [List.getElem?_cons_succ]; exact h2 i (by simpa using h)
      · refine Or.inr ⟨by simpa using h1, c + 1, by rw [List.getElem?_cons_succ]; exact h2, fun i h => ?_⟩
        cases i with
        | zero => rfl
        | succ i => rw [List.getElem?_cons_succ]; exact h3 i (by omega)

theorem rest_all (w : World) (b : Nat) (rv : Value) (l : List Nat) (k : Nat) (h : RdAt w b rv l k) :
    Calls Try.prog 22 #[.pointer (some ⟨b, 0, none⟩)] w fun e w' => e = .returned (.bool (noOnes (left l k))) ∧ w = w' := by
  have hll := left_len l k
  have hkl := h.le
  rcases noOnes_split (left l k) with ⟨h1, h2⟩ | ⟨h1, c, h2, h3⟩
  · rw [h1]
    refine rest_true w b rv l k h (fun i hi hi2 => ?_)
    have := h2 (i - k) (by omega)
    rw [left_get, show k + (i - k) = i by omega] at this
    exact this
  · rw [h1]
    refine rest_false w b rv l k (k + c) h (by omega) (by rw [← left_get]; exact h2) (fun i hi hi2 => ?_)
    have := h3 (i - k) (by omega)
    rw [left_get, show k + (i - k) = i by omega] at this
    exact this

set_option maxHeartbeats 1000000 in
theorem rrest_true (w : World) (a : Option Addr) (len cap : Nat) (hlen : len ≤ 4398046511104) (h : ∀ i, i < len → ∃ b off, a = some ⟨b, off, none⟩ ∧ w.cell? ⟨b, off + i, none⟩ = some (.int .u8 0)) :
    Calls Try.prog 28 #[.slice a len cap] w fun e w' => e = .returned (.bool true) ∧ w = w' := by
  have HO : Hid (∀ i, i < len → ∃ b off, a = some ⟨b, off, none⟩ ∧ w.cell? ⟨b, off + i, none⟩ = some (.int .u8 0)) := h
  clear h
  go_enter Try.func28, Try.ntmps28
  go_wp2
  go_loop [6] (fun i => ∃ j : Nat, j ≤ len ∧ i = .int .i64 j) (fun i => len - (intOf i).toNat)
  case atStart => exact ⟨0, Nat.zero_le _, rfl⟩
  case round =>
    obtain ⟨j, hj, rfl⟩ := hrel
    by_cases hjl : j < len
    · obtain ⟨b, off, rfl, hcell⟩ := HO.out j hjl
      go_wp2
      go_round
      case rel => exact ⟨j + 1, by omega, by go_num⟩
      case measure => simp [intOf]; omega
    · go_wp2
      go_ret
      exact ⟨rfl, rfl⟩

set_option maxHeartbeats 1000000 in
theorem rrest_false (w : World) (b off len cap c : Nat) (hlen : len ≤ 4398046511104) (hc : c < len) (h : ∀ i, i < c → w.cell? ⟨b, off + i, none⟩ = some (.int .u8 0)) (h1 : w.cell? ⟨b, off + c, none⟩ = some (.int .u8 1)) :
    Calls Try.prog 28 #[.slice (some ⟨b, off, none⟩) len cap] w fun e w' => e = .returned (.bool false) ∧ w = w' := by
  have HO : Hid (∀ i, i < c → w.cell? ⟨b, off + i, none⟩ = some (.int .u8 0)) := h
  clear h
  go_enter Try.func28, Try.ntmps28
  go_wp2
  go_loop [6] (fun i => ∃ j : Nat, j ≤ c ∧ i = .int .i64 j) (fun i => c - (intOf i).toNat)
  case atStart => exact ⟨0, Nat.zero_le _, rfl⟩
  case round =>
    obtain ⟨j, hj, rfl⟩ := hrel
    have hjl : j < len := by omega
    by_cases hjc : j < c
    · have hcell := HO.out j hjc
      go_wp2
      go_round
      case rel => exact ⟨j + 1, by omega, by go_num⟩
      case measure => simp [intOf]; omega
    · have e : j = c := by omega
      subst e
      go_wp2
      go_ret
      exact ⟨rfl, rfl⟩

theorem rrest_all (w : World) (v : Value) (ds : List Bool) (h : BtAt w v ds) (hlen : ds.length ≤ 4398046511104) :
    Calls Try.prog 28 #[v] w fun e w' => e = .returned (.bool (noOnes ds)) ∧ w = w' := by
  rcases noOnes_split ds with ⟨h1, h2⟩ | ⟨h1, c, h2, h3⟩
  · rw [h1]
    rcases h with ⟨rfl, rfl⟩ | ⟨b, off, cap, rfl, hb, hl, hm, hc⟩
    · exact rrest_true w none 0 0 (by decide) (fun i hi => by omega)
    · exact rrest_true w _ _ _ hlen (fun i hi => ⟨b, off, rfl, cell_nought hc (h2 i hi)⟩)
  · rw [h1]
    rcases h with ⟨rfl, rfl⟩ | ⟨b, off, cap, rfl, hb, hl, hm, hc⟩
    · simp at h2
    · exact rrest_false w b off _ cap c hlen (List.getElem?_eq_some_iff.1 h2).1 (fun i hi => cell_nought hc (h3 i hi)) (cell_one hc h2)

end Go.Proofs.Ythkfaackkcdcoab

/- The document's own answers: Of. -/
namespace Go.Proofs.Ythkfaackkcdcoab
set_option linter.unusedVariables false
set_option linter.unusedSimpArgs false
open Go.RowKit Dg

/-- Digits as bytes. -/
def bn (ds : List Bool) : List Nat := ds.map Bool.toNat
@[simp] theorem length_bn (ds : List Bool) : (bn ds).length = ds.length := by simp [bn]
theorem bn_snoc (ds : List Bool) (d : Bool) : u8s (bn (ds ++ [d])) = u8s (bn ds) ++ [.int .u8 (d.toNat : Int)] := by simp [u8s, bn]
theorem bn_get (ds : List Bool) (j : Nat) : (u8s (bn ds))[j]? = ds[j]?.map fun d => Value.int .u8 (d.toNat : Int) := by simp [u8s, bn]; rfl

theorem BtAt.of_owns {w : World} {base : Nat} {v : Value} {ds : List Bool} (h : w.ownsRow base 5 1 v ds.length (u8s (bn ds))) : BtAt w v ds := by
  rcases h.2 with ⟨rfl, hn⟩ | ⟨g, cap, cur, rfl, hb, hh, hn, hm, hcs, htake⟩
  · exact Or.inl ⟨rfl, List.eq_nil_of_length_eq_zero hn⟩
  · refine Or.inr ⟨g, 0, cap, rfl, (Array.getElem?_eq_some_iff.1 hh).1, hn, hm, fun j d hd => ?_⟩
    have hj : j < ds.length := (List.getElem?_eq_some_iff.1 hd).1
    have e : (u8s (bn ds))[j]? = some (.int .u8 (d.toNat : Int)) := by rw [bn_get, hd]; rfl
    rw [← htake, List.getElem?_take, if_pos (by omega)] at e
    simp only [World.cell?, hh]
    simpa using e

theorem bit_k (x k : Nat) (d : Bool) (hx : x < 256) (hd : d = ((x : Int) / 2 ^ k % 2 == 1)) : bits BinOp.and IntKind.u8 ((x : Int) / 2 ^ k) 1 = (d.toNat : Int) := by
  have e : (x : Int) / 2 ^ k = ((x / 2 ^ k : Nat) : Int) := by push_cast; rfl
  have hlt : x / 2 ^ k < 256 := Nat.lt_of_le_of_lt (Nat.div_le_self _ _) hx
  rw [e] at hd ⊢
  have e1 : (1 : Int) = ((1 : Nat) : Int) := rfl
  rw [e1, u8_and_nat _ _ hlt (by decide), nat_mask1, hd]
  have h2 : x / 2 ^ k % 2 = 0 ∨ x / 2 ^ k % 2 = 1 := by omega
  have e3 : ((x / 2 ^ k : Nat) : Int) % 2 = ((x / 2 ^ k % 2 : Nat) : Int) := by push_cast; rfl
  rw [e3]
  rcases h2 with h | h <;> rw [h] <;> rfl

theorem dig8 (x : Nat) : dig (x : Int) 8 = (List.range 8).map (digitOf x) := by
  have h : ∀ k j : Nat, 7 - j = k → ((x : Int) / 2 ^ k % 2 == 1) = digitOf x j := by
    intro k j hk
    unfold digitOf
    rw [hk]
    have e : (x : Int) / 2 ^ k % 2 = ((x / 2 ^ k % 2 : Nat) : Int) := by push_cast; rfl
    rw [e]
    have h2 : x / 2 ^ k % 2 = 0 ∨ x / 2 ^ k % 2 = 1 := by omega
    rcases h2 with h | h <;> rw [h] <;> rfl
  have e : List.range 8 = [0, 1, 2, 3, 4, 5, 6, 7] := by decide
  rw [e]
  simp only [dig, List.map_cons, List.map_nil]
  rw [h 7 0 rfl, h 6 1 rfl, h 5 2 rfl, h 4 3 rfl, h 3 4 rfl, h 2 5 rfl, h 1 6 rfl, h 0 7 rfl]

theorem unpack_snoc (l : List Nat) (x : Nat) : unpack (l ++ [x]) = unpack l ++ dig (x : Int) 8 := by rw [dig8]; simp [unpack]

theorem Try.underlyingBits : Try.prog.underlying 41 = some (.slice 5) := by kernel_rfl

/-- What of bytes a loop has laid as digits. -/
def OfAt (w wr : World) (v : Value) (ds : List Bool) : Prop := wr.ownsRow w.heap.size 5 1 v ds.length (u8s (bn ds)) ∧ Below w.heap.size w wr

set_option maxHeartbeats 2000000 in
theorem of_any (w : World) (v : Value) (l : List Nat) (h : SlAt w v l) (hl : l.length ≤ 1000000) (hb : ∀ x ∈ l, x < 256) :
    Calls Try.prog 19 #[v] w fun e w' => ∃ v', e = .returned v' ∧ w'.ownsRow w.heap.size 5 1 v' (unpack l).length (u8s (bn (unpack l))) ∧ Below w.heap.size w w' := by
  obtain ⟨i0, hi, hz0, hz1, hz2⟩ := info_parts Try.info5
  obtain ⟨ao, cap, rfl, hc⟩ := h
  have HC : Hid (∀ j x, l[j]? = some x → ∃ b off, ao = some ⟨b, off, none⟩ ∧ w.cell? ⟨b, off + j, none⟩ = some (.int .u8 ((x : Nat) : Int))) := hc
  have HB : Hid (∀ x ∈ l, x < 256) := hb
  clear hc hb
  go_enter Try.func19, Try.ntmps19
  go_wp2
  go_loopw [3, 8] (fun out i wr => ∃ j : Nat, j ≤ l.length ∧ i = .int .i64 j ∧ Hid (OfAt w wr out (unpack (l.take j)))) (fun _ i _ => l.length - (intOf i).toNat)
  case atStart => exact ⟨0, Nat.zero_le _, rfl, World.ownsRow_nil _ _ _ _, Below.refl _ _⟩
  case round =>
    obtain ⟨j, hj, rfl, hof⟩ := hrel
    by_cases hjl : j < l.length
    · obtain ⟨x, hx⟩ : ∃ x, l[j]? = some x := ⟨l[j], by simp [hjl]⟩
      obtain ⟨b, off, rfl, hcell⟩ := HC.out j x hx
      have hx256 := HB.out x (List.mem_of_getElem? hx)
      have HT : Hid (unpack (l.take (j + 1)) = unpack (l.take j) ++ dig (x : Int) 8) := by
        show _ = _
        rw [List.take_add_one, hx]; exact unpack_snoc _ _
      have hbw : b < w.heap.size := World.block_lt_of_cell? w _ hcell
      have HCELL : Hid (w.cell? ⟨b, off + j, none⟩ = some (.int .u8 (x : Int))) := hcell
      have HLEN : Hid ((unpack (l.take j)).length ≤ 8 * l.length) := by show _ ≤ _; simp; omega
      clear hx hcell
      go_wp2
      go_loopw [3, 5] (fun out k wr2 => ∃ (m : Nat) (rs : List Bool), m ≤ 8 ∧ k = .int .i64 ((m : Int) - 1) ∧ Hid (rs ++ dig (x : Int) m = unpack (l.take j) ++ dig (x : Int) 8) ∧ Hid (OfAt w wr2 out rs)) (fun _ k _ => (intOf k + 1).toNat)
      case atStart => exact ⟨8, unpack (l.take j), Nat.le_refl _, rfl, rfl, hof⟩
      case round =>
        obtain ⟨m, rs, hm, rfl, hrs, hof2⟩ := hrel
        match m, hm, hrs with
        | 0, _, hrs =>
          go_wp2
          go_roundw
          case rel =>
            refine ⟨j + 1, by omega, by go_num, ?_⟩
            have h0 := hrs.out
            rw [show dig (x : Int) 0 = [] from rfl, List.append_nil] at h0
            rw [HT.out, ← h0]
            exact hof2
          case measure => simp [intOf]; omega
        | k + 1, hm, hrs =>
          have ek : ((k + 1 : Nat) : Int) - 1 = (k : Int) := by omega
          rw [ek]
          obtain ⟨d, hd⟩ : ∃ d : Bool, d = ((x : Int) / 2 ^ k % 2 == 1) := ⟨_, rfl⟩
          have hbit := bit_k x k d hx256 hd
          have HD : Hid (d = ((x : Int) / 2 ^ k % 2 == 1)) := hd
          clear hd ek
          obtain ⟨ho, hbl⟩ := hof2.out
          have hcell : wr.cell? ⟨b, off + j, none⟩ = some (.int .u8 (x : Int)) := by rw [hbl.cell (p := ⟨b, off + j, none⟩) hbw]; exact HCELL.out
          have HOWN : Hid (wr.ownsRow w.heap.size 5 1 u3 rs.length (u8s (bn rs))) := ho
          have HBL : Hid (Below w.heap.size w wr) := hbl
          have hrl : rs.length ≤ 8000016 := by
            have h1 := congrArg List.length hrs.out
            simp only [List.length_append, length_dig] at h1
            have := HLEN.out
            omega
          have hsz : w.heap.size ≤ wr.heap.size := hbl.size
          clear ho hbl
          go_wp2_with (at_builtin; go_must (refine wpList_append_mine _ rfl (.tmp 15) (.tmp 24) 41 rfl w.heap.size 5 i0 (.int .u8 0) 1 1 Try.underlyingBits hi hz0 hz1 hz2 rfl (by decide) _ rs.length (u8s (bn rs)) rfl (HOWN.out.alloc _) ⟨wr.heap.size, 0, none⟩ 1 1 [.int .u8 (d.toNat : Int)] rfl rfl ?c1 ?c2 (by decide) ?b1 ?b2 ?b3 ?_))
          case c1 => intro j u hj; match j, hj with | 0, hj => simp at hj; subst hj; simp [Addr.add]
          case c2 => intro u hu; simp at hu; subst hu; rfl
          case b1 => unfold maxLen; omega
          case b2 => omega
          case b3 => simp; omega
          intro g cap2 w2 H1 HG HN
          go_wp2
          go_roundw
          case rel =>
            refine ⟨k, rs ++ [d], by omega, rfl, ?_, ?_, ?_⟩
            · show _ = _
              rw [← hrs.out, HD.out]
              simp [dig]
            · have := H1.out
              rw [← bn_snoc] at this
              simpa using this
            · refine (HBL.out.alloc hsz _).grown HG.out (by simp; omega) (fun k hk => ?_)
              exact (HOWN.out.lt k hk).1
          case measure => simp [intOf]
    · go_wp2
      go_ret
      have e : j = l.length := by omega
      have h1 := hof.out
      rw [e, List.take_length] at h1
      exact ⟨_, rfl, h1.1, h1.2⟩

end Go.Proofs.Ythkfaackkcdcoab

/- Lend and Intact. -/
namespace Go.Proofs.Ythkfaackkcdcoab
set_option linter.unusedVariables false
set_option linter.unusedSimpArgs false
open Go.RowKit Dg

/-- 'make([]T, n, c)': a new row of c zero elements. -/
theorem wpList_make_cap {P : Program} (w : World) {ops : Array Oper} {rest : List Oper} {o : Oper} {a : Act} {Q : Exit → Act → World → Prop}
    (hg : o.guard = none) (l c : Operand) (t : TypeId) (hop : o.op = Op.makeSlice t l c)
    (e : TypeId) (i : TypeInfo) (z : Value) (h1 : P.underlying t = some (.slice e)) (h2 : P.info? e = some i) (h3 : i.zero = some z)
    (kl kc : IntKind) (L C : Int) (n m : Nat) (hl : a.eval l = .int kl L) (hc : a.eval c = .int kc C) (hL : L = (n : Int)) (hC : C = (m : Int)) (hnm : n ≤ m) (b2 : i.bytes * m ≤ 281474976710656) (b3 : m ≤ maxLen)
    (hK : ∀ cur : Array Value, cur.size = m * i.size → wpList P ops Q rest (a.put o.dst (.slice (some ⟨w.heap.size, 0, none⟩) n m)) (w.alloc (.cells cur e))) :
    wpList P ops Q (o :: rest) a w := by
  refine wpList_plain hg fun K hK' => ?_
  have b3' : (m : Int) ≤ 9223372036854775807 := by unfold maxLen at b3; omega
  have b2' : (i.bytes : Int) * (m : Int) ≤ 281474976710656 := by
    have h : ((i.bytes * m : Nat) : Int) ≤ 281474976710656 := by omega
    rwa [Int.natCast_mul] at h
  have hrun := run_make (P := P) w t e i z h1 h2 h3 kl kc n m (by omega) (by omega) b2' b3'
  simp only [Int.toNat_natCast] at hrun
  subst hL
  subst hC
  unfold Oper.wp
  simp [execOp, hop, hl, hc, hrun, Result.andThen]
  exact hK' _ _ (hK _ (size_madeCells _ _))

/-- A row's cells, all of them. -/
def RowIs (w : World) (g : Nat) (X : List Value) : Prop := w.heap[g]? = some (.cells X.toArray 5 (0, 0))
theorem RowIs.cell {w : World} {g : Nat} {X : List Value} (h : RowIs w g X) {j : Nat} {u : Value} (hu : X[j]? = some u) : w.cell? ⟨g, j, none⟩ = some u := by
  have h' : w.heap[g]? = some (.cells X.toArray 5 (0, 0)) := h
  simp only [World.cell?, h']
  simpa using hu
theorem RowIs.frozen {w : World} {g : Nat} {X : List Value} (h : RowIs w g X) (j : Nat) : w.frozen? ⟨g, j, none⟩ = false := by
  have h' : w.heap[g]? = some (.cells X.toArray 5 (0, 0)) := h
  simp [World.frozen?, h']
theorem RowIs.set {w : World} {g : Nat} {X : List Value} (h : RowIs w g X) (j : Nat) (u : Value) : RowIs (w.setCell ⟨g, j, none⟩ u) g (X.set j u) := by
  have := heap_setCell_of (o := j) (show w.heap[g]? = some (.cells X.toArray 5 (0, 0)) from h) u
  unfold RowIs
  rw [this]
  simp
theorem RowIs.kept {w w' : World} {g : Nat} {X : List Value} {F : Nat → Prop} (h : RowIs w g X) (hk : Kept F w w') (hF : ¬ F g) : RowIs w' g X := by
  have h' : w.heap[g]? = some (.cells X.toArray 5 (0, 0)) := h
  unfold RowIs
  rw [hk.block g (Array.getElem?_eq_some_iff.1 h').1 hF]
  exact h'
theorem RowIs.below {w w' : World} {g : Nat} {X : List Value} (h : RowIs w g X) (hb : Below w.heap.size w w') : RowIs w' g X := h.kept (F := fun _ => False) (Kept.of_below hb) (fun h => h)
theorem RowIs.lt {w : World} {g : Nat} {X : List Value} (h : RowIs w g X) : g < w.heap.size := by
  have h' : w.heap[g]? = some (.cells X.toArray 5 (0, 0)) := h
  exact (Array.getElem?_eq_some_iff.1 h').1

end Go.Proofs.Ythkfaackkcdcoab

/- BitsReads: the walk of the law. -/
namespace Go.Proofs.Ythkfaackkcdcoab
set_option linter.unusedVariables false
set_option linter.unusedSimpArgs false
open Go.RowKit Dg

theorem get_all' (w : World) (b : Nat) (rv : Value) (l : List Nat) (k : Nat) (n : Int) (h : RdAt w b rv l k) (o : Nat × Nat × Bool) (ho : getOut (left l k) n = o) :
    Calls Try.prog 37 #[.pointer (some ⟨b, 0, none⟩), .int .i64 n] w fun e w' => e = .returned (.tuple #[.int .i64 (o.1 : Nat), .bool o.2.2]) ∧ RdAt w' b rv l (k + o.2.1) ∧ Kept (fun i => i = b) w w' := by
  subst ho; exact get_all w b rv l k n h
theorem rones_all' (w : World) (b : Nat) (rv : Value) (l : List Nat) (k : Nat) (n : Int) (h : RdAt w b rv l k) (o : Nat × Nat × Bool) (ho : onesOut (left l k) n = o) :
    Calls Try.prog 110 #[.pointer (some ⟨b, 0, none⟩), .int .i64 n] w fun e w' => e = .returned (.tuple #[.int .i64 (o.1 : Nat), .bool o.2.2]) ∧ RdAt w' b rv l (k + o.2.1) ∧ Kept (fun i => i = b) w w' := by
  subst ho; exact rones_all w b rv l k n h
theorem rget_all' (w : World) (v : Value) (l : List Nat) (k : Nat) (n : Int) (h : BtAt w v (left l k)) (o : Nat × Nat × Bool) (ho : getOut (left l k) n = o) :
    Calls Try.prog 23 #[v, .int .i64 n] w fun e w' => ∃ v', e = .returned (.tuple #[.int .i64 (o.1 : Nat), v', .bool o.2.2]) ∧ BtAt w' v' (left l (k + o.2.1)) ∧ (∀ k, v'.ownBlock = some k → v.ownBlock = some k) ∧ ∃ m, w' = w.drewN m := by
  subst ho; rw [left_drop]; exact rget_all w v _ n h
theorem take_all' (w : World) (v : Value) (l : List Nat) (k : Nat) (n : Int) (h : BtAt w v (left l k)) (o : Nat × Nat × Bool) (ho : onesOut (left l k) n = o) :
    Calls Try.prog 69 #[v, .int .i64 n] w fun e w' => ∃ v', e = .returned (.tuple #[.int .i64 (o.1 : Nat), v', .bool o.2.2]) ∧ BtAt w' v' (left l (k + o.2.1)) ∧ (∀ k, v'.ownBlock = some k → v.ownBlock = some k) ∧ ∃ m, w' = w.drewN m := by
  subst ho; rw [left_drop]; exact take_all w v _ n h

theorem BtAt.form {w : World} {v : Value} {ds : List Bool} (h : BtAt w v ds) : ∃ a cap, v = .slice a ds.length cap := by
  rcases h with ⟨rfl, rfl⟩ | ⟨b, off, cap, rfl, _⟩
  · exact ⟨none, 0, rfl⟩
  · exact ⟨_, cap, rfl⟩

theorem RowIs.sl {w : World} {g : Nat} {l : List Nat} (h : RowIs w g (u8s (l ++ [85, 85, 85]))) : SlAt w (.slice (some ⟨g, 0, none⟩) l.length (l.length + 3)) l := by
  refine ⟨some ⟨g, 0, none⟩, l.length + 3, rfl, fun j x hx => ⟨g, 0, rfl, ?_⟩⟩
  rw [Nat.zero_add]
  refine h.cell ?_
  rw [u8s_get, List.getElem?_append_left (List.getElem?_eq_some_iff.1 hx).1, hx]
  rfl

theorem RdAt.drewN {w : World} {b : Nat} {rv : Value} {l : List Nat} {k : Nat} (n : Nat) (h : RdAt w b rv l k) : RdAt (w.drewN n) b rv l k := ⟨h.box, h.row, h.le, h.ne, h.byte, h.small⟩

theorem rest_all' (w : World) (b : Nat) (rv : Value) (l : List Nat) (k : Nat) (h : RdAt w b rv l k) (q : Bool) (hq : q = noOnes (left l k)) :
    Calls Try.prog 22 #[.pointer (some ⟨b, 0, none⟩)] w fun e w' => e = .returned (.bool q) ∧ w = w' := by subst hq; exact rest_all w b rv l k h
theorem rrest_all' (w : World) (v : Value) (ds : List Bool) (h : BtAt w v ds) (hlen : ds.length ≤ 4398046511104) (q : Bool) (hq : q = noOnes ds) :
    Calls Try.prog 28 #[v] w fun e w' => e = .returned (.bool q) ∧ w = w' := by subst hq; exact rrest_all w v ds h hlen

/-- What the loop keeps: a reader and the document's digits, as much taken of each. -/
structure ReadAt (w wr : World) (r g : Nat) (rvr v : Value) (l : List Nat) (k : Nat) : Prop where
  rd : RdAt wr r rvr l k
  bt : BtAt wr v (left l k)
  ap : ∀ i, v.ownBlock = some i → r < i
  row : RowIs wr g (u8s (l ++ [85, 85, 85]))
  bel : Below w.heap.size w wr

end Go.Proofs.Ythkfaackkcdcoab
