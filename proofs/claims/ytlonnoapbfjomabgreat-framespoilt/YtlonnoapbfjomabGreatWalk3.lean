/- Writer: Put and Ones. -/
import Derived.Test.YtlonnoapbfjomabGreatWalk2
namespace Go.Proofs.YtlonnoapbfjomabGreat
set_option linter.unusedVariables false
set_option linter.unusedSimpArgs false
open Go.RowKit Dg

theorem Wrote.refl {w : World} {b : Nat} {rv : Value} {ds : List Bool} (h : WrAt w b rv ds) : Wrote w w b rv ds := ⟨rv, h, Kept.refl _ _, fun k hk => Or.inl hk⟩

set_option maxHeartbeats 400000 in
theorem put_bad (w : World) (p : Value) (v n : Int) (hn : n < 0 ∨ 62 < n) :
    Calls Tryz.prog 50 #[p, .int .i64 v, .int .i64 n] w fun e w' => e = .returned (.bool false) ∧ w = w' := by
  rcases hn with h | h
  · go_enter Tryz.func50, Tryz.ntmps50
    go_wp2
    go_ret
    exact ⟨rfl, rfl⟩
  · have h' : 0 ≤ n := by omega
    go_enter Tryz.func50, Tryz.ntmps50
    go_wp2
    go_ret
    exact ⟨rfl, rfl⟩

theorem bit_and (x : Int) (d : Bool) (hd : d = (x % 2 == 1)) : bits BinOp.and IntKind.u8 (x % 256) 1 = (d.toNat : Int) := by
  rw [u8_and (x % 256) 1 (by omega) (by omega) (by decide) (by decide)]
  have e : (x % 256).toNat &&& (1 : Int).toNat = (x % 256).toNat % 2 := nat_mask1 _
  rw [e, hd]
  by_cases h : x % 2 = 1
  · simp [h]; omega
  · have : x % 2 = 0 := by omega
    simp [this]; omega

set_option maxHeartbeats 1000000 in
theorem put_any (w : World) (b : Nat) (rv : Value) (ds : List Bool) (v : Int) (n : Nat) (h : WrAt w b rv ds) (hlt : ds.length < 4398046511000) (hn : n ≤ 62) :
    Calls Tryz.prog 50 #[.pointer (some ⟨b, 0, none⟩), .int .i64 v, .int .i64 n] w fun e w' => e = .returned (.bool true) ∧ Wrote w w' b rv (ds ++ dig v n) := by
  have HH : Hid (Wrote w w b rv ds) := Wrote.refl h
  clear h
  go_enter Tryz.func50, Tryz.ntmps50
  go_wp2
  go_loopw [7] (fun i wr => ∃ (k : Nat) (rs : List Bool), i = .int .i64 ((k : Int) - 1) ∧ k ≤ n ∧ Hid (rs ++ dig v k = ds ++ dig v n) ∧ Hid (Wrote w wr b rv rs)) (fun i _ => (intOf i + 1).toNat)
  case atStart => exact ⟨n, ds, rfl, Nat.le_refl _, rfl, HH.out⟩
  case round =>
    obtain ⟨k, rs, rfl, hk, hrs, hwr⟩ := hrel
    match k, hk, hrs with
    | 0, _, hrs =>
      go_wp2
      go_ret
      refine ⟨rfl, ?_⟩
      have := hrs.out
      simp only [dig, List.append_nil] at this
      rw [← this]
      exact hwr.out
    | j + 1, hk, hrs =>
      have ej : ((j + 1 : Nat) : Int) - 1 = (j : Int) := by omega
      rw [ej]
      obtain ⟨d, hd⟩ : ∃ d : Bool, d = (v / 2 ^ j % 2 == 1) := ⟨_, rfl⟩
      have hbit := bit_and _ d hd
      have HD : Hid (d = (v / 2 ^ j % 2 == 1)) := hd
      clear hd ej
      have hlen : rs.length < 4398046511104 := by
        have := congrArg List.length hrs.out
        simp at this; omega
      obtain ⟨rv1, hw1, hk1, hn1⟩ := hwr.out
      have HK : Hid (Kept (Wf b rv) w wr) := hk1
      have HN : Hid (∀ k, rv1.ownBlock = some k → rv.ownBlock = some k ∨ w.heap.size ≤ k) := hn1
      have HW : Hid (WrAt wr b rv1 rs) := hw1
      clear hk1 hn1 hw1
      go_wp2_with (go_at_call 70; refine (add_any wr b rv1 rs d HW.out hlen).mono ?_; rintro e w2 ⟨rfl, h2⟩)
      go_roundw
      case rel =>
        refine ⟨j, rs ++ [d], rfl, by omega, ?_, Wrote.trans HK.out HN.out h2⟩
        have := hrs.out
        simp only [dig] at this
        show _ = _
        rw [HD.out, ← this]; simp
      case measure => simp [intOf]

set_option maxHeartbeats 400000 in
theorem ones_bad (w : World) (p : Value) (n : Int) (hn : n < 0 ∨ 1024 < n) :
    Calls Tryz.prog 101 #[p, .int .i64 n] w fun e w' => e = .returned (.bool false) ∧ w = w' := by
  rcases hn with h | h
  · go_enter Tryz.func101, Tryz.ntmps101
    go_wp2
    go_ret
    exact ⟨rfl, rfl⟩
  · have h' : 0 ≤ n := by omega
    go_enter Tryz.func101, Tryz.ntmps101
    go_wp2
    go_ret
    exact ⟨rfl, rfl⟩

set_option maxHeartbeats 1000000 in
theorem ones_any (w : World) (b : Nat) (rv : Value) (ds : List Bool) (n : Nat) (h : WrAt w b rv ds) (hlt : ds.length < 4398046500000) (hn : n ≤ 1024) :
    Calls Tryz.prog 101 #[.pointer (some ⟨b, 0, none⟩), .int .i64 n] w fun e w' => e = .returned (.bool true) ∧ Wrote w w' b rv (ds ++ (List.replicate n true ++ [false])) := by
  have HH : Hid (Wrote w w b rv ds) := Wrote.refl h
  clear h
  go_enter Tryz.func101, Tryz.ntmps101
  go_wp2
  go_loopw [12] (fun i wr => ∃ (k : Nat), i = .int .i64 (k : Int) ∧ k ≤ n ∧ Hid (Wrote w wr b rv (ds ++ List.replicate k true))) (fun i _ => n - (intOf i).toNat)
  case atStart => exact ⟨0, rfl, Nat.zero_le _, by simpa using HH⟩
  case round =>
    obtain ⟨k, rfl, hk, hwr⟩ := hrel
    have hlen : (ds ++ List.replicate k true).length < 4398046511104 := by simp; omega
    obtain ⟨rv1, hw1, hk1, hn1⟩ := hwr.out
    have HK : Hid (Kept (Wf b rv) w wr) := hk1
    have HN : Hid (∀ k, rv1.ownBlock = some k → rv.ownBlock = some k ∨ w.heap.size ≤ k) := hn1
    have HW : Hid (WrAt wr b rv1 (ds ++ List.replicate k true)) := hw1
    have HL : Hid ((ds ++ List.replicate k true).length < 4398046511104) := hlen
    clear hk1 hn1 hw1 hlen
    by_cases hkn : k < n
    · go_wp2_with (go_at_call 70; refine (add_any wr b rv1 _ true HW.out HL.out).mono ?_; rintro e w2 ⟨rfl, h2⟩)
      go_roundw
      case rel =>
        refine ⟨k + 1, by go_num, by omega, ?_⟩
        have h3 := Wrote.trans HK.out HN.out h2
        have e : ds ++ List.replicate k true ++ [true] = ds ++ List.replicate (k + 1) true := by
          rw [List.replicate_succ', List.append_assoc]
        rw [e] at h3
        exact h3
      case measure => simp [intOf]; omega
    · go_wp2_with (go_at_call 70; refine (add_any wr b rv1 _ false HW.out HL.out).mono ?_; rintro e w2 ⟨rfl, h2⟩)
      go_ret
      refine ⟨rfl, ?_⟩
      have h3 := Wrote.trans HK.out HN.out h2
      have e : k = n := by omega
      rw [e, List.append_assoc] at h3
      exact h3

end Go.Proofs.YtlonnoapbfjomabGreat
