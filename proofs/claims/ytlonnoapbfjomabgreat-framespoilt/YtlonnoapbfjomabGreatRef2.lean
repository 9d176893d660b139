/- The document's own answers, by their contracts: TakeOnes, Rest. -/
import Derived.Test.YtlonnoapbfjomabGreatRef1
namespace Go.Proofs.YtlonnoapbfjomabGreat
set_option linter.unusedVariables false
set_option linter.unusedSimpArgs false
open Go.RowKit Dg

/-- How many ones are ahead, m at most. -/
def lead : List Bool → Nat → Nat
  | [], _ => 0
  | _ :: _, 0 => 0
  | true :: ds, m + 1 => lead ds m + 1
  | false :: _, _ + 1 => 0
theorem lead_le (ds : List Bool) : ∀ m, lead ds m ≤ m := by
  induction ds with
  | nil => intro m; simp [lead]
  | cons d ds ih =>
    intro m
    cases m with
    | zero => simp [lead]
    | succ m => cases d with
      | true => have := ih m; simp [lead]; omega
      | false => simp [lead]
theorem lead_le_length (ds : List Bool) : ∀ m, lead ds m ≤ ds.length := by
  induction ds with
  | nil => intro m; simp [lead]
  | cons d ds ih =>
    intro m
    cases m with
    | zero => simp [lead]
    | succ m => cases d with
      | true => have := ih m; simp [lead]; omega
      | false => simp [lead]
theorem lead_true (ds : List Bool) : ∀ m i, i < lead ds m → ds[i]? = some true := by
  induction ds with
  | nil => intro m i h; simp [lead] at h
  | cons d ds ih =>
    intro m i h
    cases m with
    | zero => simp [lead] at h
    | succ m => cases d with
      | true =>
        simp only [lead] at h
        cases i with
        | zero => rfl
        | succ i => rw [List.getElem?_cons_succ]; exact ih m i (by omega)
      | false => simp [lead] at h
theorem lead_false (ds : List Bool) : ∀ m, lead ds m < m → lead ds m < ds.length → ds[lead ds m]? = some false := by
  induction ds with
  | nil => intro m _ h; simp at h
  | cons d ds ih =>
    intro m h1 h2
    cases m with
    | zero => omega
    | succ m => cases d with
      | true =>
        simp only [lead, List.length_cons] at h1 h2 ⊢
        rw [List.getElem?_cons_succ]
        exact ih m (by omega) (by omega)
      | false => simp [lead]

/-- Ones: what comes, how many are taken, whether it may be. -/
def onesOut (ds : List Bool) (most : Int) : Nat × Nat × Bool :=
  if 0 ≤ most ∧ most ≤ 1024 then
    if lead ds most.toNat = most.toNat then (most.toNat, most.toNat, true)
    else if lead ds most.toNat = ds.length then (0, 0, false)
    else (lead ds most.toNat, lead ds most.toNat + 1, true)
  else (0, 0, false)

set_option maxHeartbeats 1000000 in
theorem take_bad (w : World) (v : Value) (n : Int) (hn : n < 0 ∨ 1024 < n) :
    Calls Tryz.prog 80 #[v, .int .i64 n] w fun e w' => e = .returned (.tuple #[.int .i64 0, v, .bool false]) ∧ w = w' := by
  rcases hn with h | h
  · go_enter Tryz.func80, Tryz.ntmps80
    go_wp2
    go_ret3
    exact ⟨rfl, rfl⟩
  · have h' : 0 ≤ n := by omega
    go_enter Tryz.func80, Tryz.ntmps80
    go_wp2
    go_ret3
    exact ⟨rfl, rfl⟩

set_option maxHeartbeats 1000000 in
theorem take_most (w : World) (b off cap : Nat) (ds : List Bool) (c : Nat) (hn : c ≤ ds.length) (hm1 : c ≤ 1024) (hl : ds.length ≤ cap) (hm : cap ≤ maxLen) (ho : ∀ i, i < c → w.cell? ⟨b, off + i, none⟩ = some (.int .u8 1)) :
    Calls Tryz.prog 80 #[.slice (some ⟨b, off, none⟩) ds.length cap, .int .i64 c] w fun e w' => ∃ v', e = .returned (.tuple #[.int .i64 c, v', .bool true]) ∧ (∃ o, v' = .slice (some ⟨b, o, none⟩) (ds.length - c) (cap - c) ∧ (cap ≠ c → o = off + c)) ∧ w' = w.drew := by
  unfold maxLen at hm
  have HO : Hid (∀ i, i < c → w.cell? ⟨b, off + i, none⟩ = some (.int .u8 1)) := ho
  clear ho
  go_enter Tryz.func80, Tryz.ntmps80
  go_wp2
  go_loop [7] (fun i => ∃ j : Nat, j ≤ c ∧ i = .int .i64 j) (fun i => c - (intOf i).toNat)
  case atStart => exact ⟨0, Nat.zero_le _, rfl⟩
  case round =>
    obtain ⟨j, hj, rfl⟩ := hrel
    by_cases hjc : j < c
    · have hcell := HO.out j hjc
      have hjl : j < ds.length := by omega
      go_wp2
      go_round
      case rel => exact ⟨j + 1, by omega, by go_num⟩
      case measure => simp [intOf]; omega
    · have e : j = c := by omega
      subst e
      by_cases hcn : cap = j
      · go_wp2
        go_region
        all_goals go_wp2
        all_goals go_ret3
        all_goals exact ⟨_, rfl, ⟨off, by rw [hcn, Nat.sub_self]; rfl, fun h => absurd hcn h⟩, rfl⟩
      · go_wp2
        go_region
        all_goals go_wp2
        all_goals go_ret3
        all_goals exact ⟨_, rfl, ⟨off + j, rfl, fun h => rfl⟩, rfl⟩

set_option maxHeartbeats 1000000 in
theorem take_end (w : World) (b off cap : Nat) (ds : List Bool) (most : Int) (hm0 : (ds.length : Int) < most) (hm1 : most ≤ 1024) (hl : ds.length ≤ cap) (hm : cap ≤ maxLen) (ho : ∀ i, i < ds.length → w.cell? ⟨b, off + i, none⟩ = some (.int .u8 1)) :
    Calls Tryz.prog 80 #[.slice (some ⟨b, off, none⟩) ds.length cap, .int .i64 most] w fun e w' => e = .returned (.tuple #[.int .i64 0, .slice (some ⟨b, off, none⟩) ds.length cap, .bool false]) ∧ w = w' := by
  unfold maxLen at hm
  have HO : Hid (∀ i, i < ds.length → w.cell? ⟨b, off + i, none⟩ = some (.int .u8 1)) := ho
  clear ho
  go_enter Tryz.func80, Tryz.ntmps80
  go_wp2
  go_loop [7] (fun i => ∃ j : Nat, j ≤ ds.length ∧ i = .int .i64 j) (fun i => ds.length - (intOf i).toNat)
  case atStart => exact ⟨0, Nat.zero_le _, rfl⟩
  case round =>
    obtain ⟨j, hj, rfl⟩ := hrel
    by_cases hjc : j < ds.length
    · have hcell := HO.out j hjc
      go_wp2
      go_round
      case rel => exact ⟨j + 1, by omega, by go_num⟩
      case measure => simp [intOf]; omega
    · have h1 : ((j : Int) == most) = false := by simp; omega
      have h2 : ((j : Int) == (ds.length : Int)) = true := by simp; omega
      go_wp2
      go_ret3
      exact ⟨rfl, rfl⟩

set_option maxHeartbeats 1000000 in
theorem take_nought (w : World) (b off cap : Nat) (ds : List Bool) (c : Nat) (most : Int) (hn : c < ds.length) (hm0 : (c : Int) < most) (hm1 : most ≤ 1024) (hl : ds.length ≤ cap) (hm : cap ≤ maxLen) (ho : ∀ i, i < c → w.cell? ⟨b, off + i, none⟩ = some (.int .u8 1)) (hz : w.cell? ⟨b, off + c, none⟩ = some (.int .u8 0)) :
    Calls Tryz.prog 80 #[.slice (some ⟨b, off, none⟩) ds.length cap, .int .i64 most] w fun e w' => ∃ v', e = .returned (.tuple #[.int .i64 c, v', .bool true]) ∧ (∃ o, v' = .slice (some ⟨b, o, none⟩) (ds.length - (c + 1)) (cap - (c + 1)) ∧ (cap ≠ c + 1 → o = off + (c + 1))) ∧ w' = w.drew := by
  unfold maxLen at hm
  have HO : Hid (∀ i, i < c → w.cell? ⟨b, off + i, none⟩ = some (.int .u8 1)) := ho
  clear ho
  go_enter Tryz.func80, Tryz.ntmps80
  go_wp2
  go_loop [7] (fun i => ∃ j : Nat, j ≤ c ∧ i = .int .i64 j) (fun i => c - (intOf i).toNat)
  case atStart => exact ⟨0, Nat.zero_le _, rfl⟩
  case round =>
    obtain ⟨j, hj, rfl⟩ := hrel
    have hjl : j < ds.length := by omega
    by_cases hjc : j < c
    · have hcell := HO.out j hjc
      go_wp2
      go_round
      case rel => exact ⟨j + 1, by omega, by go_num⟩
      case measure => simp [intOf]; omega
    · have e : j = c := by omega
      subst e
      have h1 : ((j : Int) == most) = false := by simp; omega
      have h2 : ((j : Int) == (ds.length : Int)) = false := by simp; omega
      by_cases hcn : cap = j + 1
      · go_wp2
        go_region
        all_goals go_wp2
        all_goals go_ret3
        all_goals exact ⟨_, rfl, ⟨off, by rw [hcn, Nat.sub_self]; rfl, fun h => absurd hcn h⟩, rfl⟩
      · go_wp2
        go_region
        all_goals go_wp2
        all_goals go_ret3
        all_goals exact ⟨_, rfl, ⟨off + (j + 1), rfl, fun h => rfl⟩, rfl⟩

set_option maxHeartbeats 1000000 in
theorem take_nil0 (w : World) :
    Calls Tryz.prog 80 #[.slice none 0 0, .int .i64 0] w fun e w' => e = .returned (.tuple #[.int .i64 0, .slice none 0 0, .bool true]) ∧ w' = w.drew := by
  go_enter Tryz.func80, Tryz.ntmps80
  go_wp2
  go_rounds 1
  all_goals go_region
  all_goals go_wp2
  all_goals go_ret3
  all_goals exact ⟨rfl, rfl⟩

set_option maxHeartbeats 1000000 in
theorem take_nil (w : World) (most : Int) (h0 : 0 < most) (h1 : most ≤ 1024) :
    Calls Tryz.prog 80 #[.slice none 0 0, .int .i64 most] w fun e w' => e = .returned (.tuple #[.int .i64 0, .slice none 0 0, .bool false]) ∧ w = w' := by
  have h2 : ((0 : Int) == most) = false := by simp; omega
  go_enter Tryz.func80, Tryz.ntmps80
  go_wp2
  go_rounds 1
  all_goals go_ret3
  all_goals exact ⟨rfl, rfl⟩

end Go.Proofs.YtlonnoapbfjomabGreat
