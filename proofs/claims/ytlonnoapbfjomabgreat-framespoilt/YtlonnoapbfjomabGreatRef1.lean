/- The document's own answers, by their contracts: digits as bytes: Get, TakeOnes, Rest. -/
import Derived.Test.YtlonnoapbfjomabGreatActs
namespace Go.Proofs.YtlonnoapbfjomabGreat
set_option linter.unusedVariables false
set_option linter.unusedSimpArgs false
open Go.RowKit Dg

/-- Digits, a byte each, that can be read. -/
def BtAt (w : World) (v : Value) (ds : List Bool) : Prop :=
  (v = .slice none 0 0 ∧ ds = []) ∨
  ∃ b off cap, v = .slice (some ⟨b, off, none⟩) ds.length cap ∧ b < w.heap.size ∧ ds.length ≤ cap ∧ cap ≤ maxLen ∧ ∀ j d, ds[j]? = some d → w.cell? ⟨b, off + j, none⟩ = some (.int .u8 (d.toNat : Int))

theorem BtAt.kept {w w' : World} {v : Value} {ds : List Bool} {F : Nat → Prop} (h : BtAt w v ds) (hk : Kept F w w') (hF : ∀ k, v.ownBlock = some k → ¬ F k) : BtAt w' v ds := by
  rcases h with h | ⟨b, off, cap, rfl, hb, hl, hm, hc⟩
  · exact Or.inl h
  · refine Or.inr ⟨b, off, cap, rfl, Nat.lt_of_lt_of_le hb hk.size, hl, hm, fun j d hd => ?_⟩
    rw [hk.cell hb (hF b rfl)]
    exact hc j d hd
theorem BtAt.below {w w' : World} {v : Value} {ds : List Bool} (h : BtAt w v ds) (hb : Below w.heap.size w w') : BtAt w' v ds :=
  h.kept (F := fun _ => False) (Kept.of_below hb) (fun _ _ h => h)
theorem BtAt.drew {w : World} {v : Value} {ds : List Bool} (h : BtAt w v ds) : BtAt w.drew v ds := h
theorem BtAt.drewN {w : World} {v : Value} {ds : List Bool} (n : Nat) (h : BtAt w v ds) : BtAt (w.drewN n) v ds := h
theorem BtAt.lt {w : World} {v : Value} {ds : List Bool} (h : BtAt w v ds) : ∀ k, v.ownBlock = some k → k < w.heap.size := by
  rcases h with ⟨rfl, _⟩ | ⟨b, off, cap, rfl, hb, _⟩
  · intro k hk; simp [Value.ownBlock] at hk
  · intro k hk; simp [Value.ownBlock] at hk; omega

set_option maxHeartbeats 1000000 in
theorem rget_bad (w : World) (v : Value) (n : Int) (hn : n < 0 ∨ 62 < n) :
    Calls Tryz.prog 34 #[v, .int .i64 n] w fun e w' => e = .returned (.tuple #[.int .i64 0, v, .bool false]) ∧ w = w' := by
  rcases hn with h | h
  · go_enter Tryz.func34, Tryz.ntmps34
    go_wp2
    go_ret3
    exact ⟨rfl, rfl⟩
  · have h' : 0 ≤ n := by omega
    go_enter Tryz.func34, Tryz.ntmps34
    go_wp2
    go_ret3
    exact ⟨rfl, rfl⟩

set_option maxHeartbeats 1000000 in
theorem rget_few (w : World) (a : Option Addr) (len cap : Nat) (n : Int) (h0 : 0 ≤ n) (h62 : n ≤ 62) (hn : (len : Int) < n) :
    Calls Tryz.prog 34 #[.slice a len cap, .int .i64 n] w fun e w' => e = .returned (.tuple #[.int .i64 0, .slice a len cap, .bool false]) ∧ w = w' := by
  go_enter Tryz.func34, Tryz.ntmps34
  go_wp2
  go_ret3
  exact ⟨rfl, rfl⟩

set_option maxHeartbeats 1000000 in
theorem rget_raw (w : World) (b off cap : Nat) (ds : List Bool) (n : Nat) (hn : n ≤ ds.length) (h62 : n ≤ 62) (hl : ds.length ≤ cap) (hm : cap ≤ maxLen) (hc : ∀ j d, ds[j]? = some d → w.cell? ⟨b, off + j, none⟩ = some (.int .u8 (d.toNat : Int))) :
    Calls Tryz.prog 34 #[.slice (some ⟨b, off, none⟩) ds.length cap, .int .i64 n] w fun e w' => ∃ v', e = .returned (.tuple #[.int .i64 (num (ds.take n) : Nat), v', .bool true]) ∧ (∃ o, v' = .slice (some ⟨b, o, none⟩) (ds.length - n) (cap - n) ∧ (cap ≠ n → o = off + n)) ∧ w' = w.drew := by
  unfold maxLen at hm
  have HC : Hid (∀ j d, ds[j]? = some d → w.cell? ⟨b, off + j, none⟩ = some (.int .u8 (d.toNat : Int))) := hc
  clear hc
  go_enter Tryz.func34, Tryz.ntmps34
  go_wp2
  go_loop [7, 8] (fun x i => ∃ j : Nat, j ≤ n ∧ i = .int .i64 j ∧ x = .int .i64 (num (ds.take j) : Nat)) (fun _ i => n - (intOf i).toNat)
  case atStart => exact ⟨0, Nat.zero_le _, rfl, rfl⟩
  case round =>
    obtain ⟨j, hj, rfl, rfl⟩ := hrel
    by_cases hjn : j < n
    · obtain ⟨d, hd⟩ : ∃ d, ds[j]? = some d := ⟨ds[j], by simp⟩
      have hcell := HC.out j d hd
      obtain ⟨x, hx⟩ : ∃ x, x = num (ds.take j) := ⟨_, rfl⟩
      have hxb : x < 2305843009213693952 := by
        have h1 := num_lt (ds.take j)
        have h2 : 2 ^ (ds.take j).length ≤ 2 ^ 61 := Nat.pow_le_pow_right (by decide) (by simp; omega)
        have h3 : (2 : Nat) ^ 61 = 2305843009213693952 := by decide
        omega
      have HX : Hid (num (ds.take (j + 1)) = 2 * x + d.toNat) := by
        rw [List.take_add_one, hd]
        show num (ds.take j ++ [d]) = _
        rw [num_snoc, hx]
      have hd1 : d.toNat ≤ 1 := by cases d <;> decide
      rw [← hx]
      clear hx hd
      go_wp2
      go_round
      case rel => exact ⟨j + 1, by omega, by go_num, by rw [HX.out]; go_num⟩
      case measure => simp [intOf]; omega
    · have e : j = n := by omega
      subst e
      by_cases hcn : cap = j
      · go_wp2
        go_region
        all_goals go_wp2
        all_goals go_ret3
        all_goals exact ⟨_, rfl, ⟨off, by rw [hcn, Nat.sub_self]; rfl, fun h => absurd hcn h⟩, rfl⟩
      · go_wp2
        go_region
        all_goals go_wp2
        all_goals go_ret3
        all_goals exact ⟨_, rfl, ⟨off + j, rfl, fun h => rfl⟩, rfl⟩

set_option maxHeartbeats 1000000 in
theorem rget_nil (w : World) :
    Calls Tryz.prog 34 #[.slice none 0 0, .int .i64 0] w fun e w' => e = .returned (.tuple #[.int .i64 0, .slice none 0 0, .bool true]) ∧ w' = w.drew := by
  go_enter Tryz.func34, Tryz.ntmps34
  go_wp2
  go_rounds 1
  all_goals go_region
  all_goals go_wp2
  all_goals go_ret3
  all_goals exact ⟨rfl, rfl⟩

/-- What is behind the first n digits. -/
theorem BtAt.drop {w : World} {b off cap o n : Nat} {ds : List Bool} (hb : b < w.heap.size) (hn : n ≤ ds.length) (hl : ds.length ≤ cap) (hm : cap ≤ maxLen) (hc : ∀ j d, ds[j]? = some d → w.cell? ⟨b, off + j, none⟩ = some (.int .u8 (d.toNat : Int))) (ho : cap ≠ n → o = off + n) :
    BtAt w (.slice (some ⟨b, o, none⟩) (ds.length - n) (cap - n)) (ds.drop n) := by
  refine Or.inr ⟨b, o, cap - n, by simp, hb, by simp; omega, by omega, fun j d hd => ?_⟩
  have hj : n + j < ds.length := by
    have := (List.getElem?_eq_some_iff.1 hd).1
    simp at this; omega
  rw [ho (by omega)]
  rw [List.getElem?_drop] at hd
  have := hc (n + j) d hd
  rw [Nat.add_assoc]
  exact this

/-- Get: what comes, how many are taken, whether it may be. -/
def getOut (ds : List Bool) (n : Int) : Nat × Nat × Bool :=
  if 0 ≤ n ∧ n ≤ 62 ∧ n ≤ ds.length then (num (ds.take n.toNat), n.toNat, true) else (0, 0, false)

theorem rget_all (w : World) (v : Value) (ds : List Bool) (n : Int) (h : BtAt w v ds) :
    Calls Tryz.prog 34 #[v, .int .i64 n] w fun e w' => ∃ v', e = .returned (.tuple #[.int .i64 ((getOut ds n).1 : Nat), v', .bool (getOut ds n).2.2]) ∧ BtAt w' v' (ds.drop (getOut ds n).2.1) ∧ (∀ k, v'.ownBlock = some k → v.ownBlock = some k) ∧ ∃ m, w' = w.drewN m := by
  by_cases hbad : n < 0 ∨ 62 < n
  · refine (rget_bad w v n hbad).mono ?_
    rintro e w' ⟨rfl, rfl⟩
    have hg : getOut ds n = (0, 0, false) := by unfold getOut; rw [if_neg (by omega)]
    rw [hg]
    exact ⟨v, rfl, by simpa using h, fun _ h => h, 0, rfl⟩
  · by_cases hfew : (ds.length : Int) < n
    · have hg : getOut ds n = (0, 0, false) := by unfold getOut; rw [if_neg (by omega)]
      rw [hg]
      rcases h with ⟨rfl, rfl⟩ | ⟨b, off, cap, rfl, hb, hl, hm, hc⟩
      · refine (rget_few w none 0 0 n (by omega) (by omega) (by simpa using hfew)).mono ?_
        rintro e w' ⟨rfl, rfl⟩
        exact ⟨_, rfl, Or.inl ⟨rfl, rfl⟩, fun _ h => h, 0, rfl⟩
      · refine (rget_few w _ _ cap n (by omega) (by omega) hfew).mono ?_
        rintro e w' ⟨rfl, rfl⟩
        exact ⟨_, rfl, Or.inr ⟨b, off, cap, rfl, hb, hl, hm, hc⟩, fun _ h => h, 0, rfl⟩
    · obtain ⟨N, rfl⟩ := Int.eq_ofNat_of_zero_le (show 0 ≤ n by omega)
      have hg : getOut ds (N : Nat) = (num (ds.take N), N, true) := by unfold getOut; rw [if_pos (by omega)]; simp
      rw [hg]
      rcases h with ⟨rfl, rfl⟩ | ⟨b, off, cap, rfl, hb, hl, hm, hc⟩
      · have hN : N = 0 := by simp at hfew; omega
        subst hN
        refine (rget_nil w).mono ?_
        rintro e w' ⟨rfl, rfl⟩
        exact ⟨_, rfl, Or.inl ⟨rfl, rfl⟩, fun _ h => h, 1, rfl⟩
      · refine (rget_raw w b off cap ds N (by omega) (by omega) hl hm hc).mono ?_
        rintro e w' ⟨v', rfl, ⟨o, rfl, ho⟩, rfl⟩
        exact ⟨_, rfl, (BtAt.drop hb (by omega) hl hm hc ho).drew, fun _ h => h, 1, rfl⟩

end Go.Proofs.YtlonnoapbfjomabGreat
