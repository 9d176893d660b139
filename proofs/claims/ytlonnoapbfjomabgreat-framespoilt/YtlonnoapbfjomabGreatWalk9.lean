/- The reader: Ones and Rest. -/
import Derived.Test.YtlonnoapbfjomabGreatWalk8
namespace Go.Proofs.YtlonnoapbfjomabGreat
set_option linter.unusedVariables false
set_option linter.unusedSimpArgs false
open Go.RowKit Dg

set_option maxHeartbeats 400000 in
theorem rones_bad (w : World) (p : Value) (n : Int) (hn : n < 0 ∨ 1024 < n) :
    Calls Tryz.prog 108 #[p, .int .i64 n] w fun e w' => e = .returned (.tuple #[.int .i64 0, .bool false]) ∧ w = w' := by
  rcases hn with h | h
  · go_enter Tryz.func108, Tryz.ntmps108
    go_wp2
    go_ret2
    exact ⟨rfl, rfl⟩
  · have h' : 0 ≤ n := by omega
    go_enter Tryz.func108, Tryz.ntmps108
    go_wp2
    go_ret2
    exact ⟨rfl, rfl⟩

set_option maxHeartbeats 1000000 in
/-- There are as many ones as are asked for. -/
theorem rones_most (w : World) (b : Nat) (rv : Value) (l : List Nat) (k c : Nat) (h : RdAt w b rv l k) (hm : c ≤ 1024) (hc : k + c ≤ 8 * l.length) (ho : ∀ i, i < c → (unpack l)[k + i]? = some true) :
    Calls Tryz.prog 108 #[.pointer (some ⟨b, 0, none⟩), .int .i64 c] w fun e w' => e = .returned (.tuple #[.int .i64 c, .bool true]) ∧ RdAt w' b rv l (k + c) ∧ Kept (fun i => i = b) w w' := by
  have HR : Hid (RdAt w b rv l k) := h
  have HO : Hid (∀ i, i < c → (unpack l)[k + i]? = some true) := ho
  have hb1 : w.cell? ⟨b, 1, none⟩ = some (.int .i64 (k : Int)) := by simp [World.cell?, h.box]
  have fb1 : w.frozen? ⟨b, 1, none⟩ = false := by simp [World.frozen?, h.box]
  have hsm : l.length ≤ 4398046511104 := h.small
  clear h ho
  go_enter Tryz.func108, Tryz.ntmps108
  go_wp2_with (go_at_call 75; refine (left_any _ b rv l k HR.out).mono ?_; rintro e w2 ⟨rfl, rfl⟩)
  go_loop [7] (fun i => ∃ j : Nat, j ≤ c ∧ i = .int .i64 j) (fun i => c - (intOf i).toNat)
  case atStart => exact ⟨0, Nat.zero_le _, rfl⟩
  case round =>
    obtain ⟨j, hj, rfl⟩ := hrel
    by_cases hjc : j < c
    · have hjl : (j : Int) < 8 * (l.length : Int) - k := by omega
      go_wp2_with (go_at_call 63; refine (digit_at _ b rv l k HR.out.drew (k + j) true (HO.out j hjc) _ (by omega)).mono ?_; rintro e w2 ⟨rfl, rfl⟩)
      go_round
      case rel => exact ⟨j + 1, by omega, by go_num⟩
      case measure => simp [intOf]; omega
    · have e : j = c := by omega
      subst e
      go_wp2
      go_ret2
      refine ⟨rfl, ?_, ?_⟩
      · have := (HR.out.drew).take (k + j) (by omega)
        have e : ((k + j : Nat) : Int) = (k : Int) + j := by omega
        rw [e] at this
        exact this
      · exact (Kept.refl _ _).drew.trans (Kept.setCell _ _ _ rfl)

set_option maxHeartbeats 1000000 in
/-- The digits end. -/
theorem rones_end (w : World) (b : Nat) (rv : Value) (l : List Nat) (k c : Nat) (most : Int) (h : RdAt w b rv l k) (hm0 : (c : Int) < most) (hm : most ≤ 1024) (hc : k + c = 8 * l.length) (ho : ∀ i, i < c → (unpack l)[k + i]? = some true) :
    Calls Tryz.prog 108 #[.pointer (some ⟨b, 0, none⟩), .int .i64 most] w fun e w' => e = .returned (.tuple #[.int .i64 0, .bool false]) ∧ w' = w.drew := by
  have HR : Hid (RdAt w b rv l k) := h
  have HO : Hid (∀ i, i < c → (unpack l)[k + i]? = some true) := ho
  have hb1 : w.cell? ⟨b, 1, none⟩ = some (.int .i64 (k : Int)) := by simp [World.cell?, h.box]
  have hsm : l.length ≤ 4398046511104 := h.small
  have HC : Hid (k + c = 8 * l.length) := hc
  have hc2 : (8 * (l.length : Int) - k) = c := by omega
  have HC2 : Hid ((8 * (l.length : Int) - k) = c) := hc2
  clear h ho hc hc2
  go_enter Tryz.func108, Tryz.ntmps108
  go_wp2_with (go_at_call 75; refine (left_any _ b rv l k HR.out).mono ?_; rintro e w2 ⟨rfl, rfl⟩)
  go_loop [7] (fun i => ∃ j : Nat, j ≤ c ∧ i = .int .i64 j) (fun i => c - (intOf i).toNat)
  case atStart => exact ⟨0, Nat.zero_le _, rfl⟩
  case round =>
    obtain ⟨j, hj, rfl⟩ := hrel
    by_cases hjc : j < c
    · have hjl : (j : Int) < 8 * (l.length : Int) - k := by have := HC.out; omega
      go_wp2_with (go_at_call 63; refine (digit_at _ b rv l k HR.out.drew (k + j) true (HO.out j hjc) _ (by omega)).mono ?_; rintro e w2 ⟨rfl, rfl⟩)
      go_round
      case rel => exact ⟨j + 1, by omega, by go_num⟩
      case measure => simp [intOf]; omega
    · have e : j = c := by omega
      subst e
      have hjl : ¬ (j : Int) < 8 * (l.length : Int) - k := by have := HC.out; omega
      have hje : ((j : Int) == 8 * (l.length : Int) - k) = true := by have := HC2.out; simp; omega
      have hjm : ((j : Int) == most) = false := by simp; omega
      go_wp2
      go_ret2
      exact ⟨rfl, rfl⟩

set_option maxHeartbeats 1000000 in
/-- A nought comes. -/
theorem rones_nought (w : World) (b : Nat) (rv : Value) (l : List Nat) (k c : Nat) (most : Int) (h : RdAt w b rv l k) (hm0 : (c : Int) < most) (hm : most ≤ 1024) (hc : (unpack l)[k + c]? = some false) (ho : ∀ i, i < c → (unpack l)[k + i]? = some true) :
    Calls Tryz.prog 108 #[.pointer (some ⟨b, 0, none⟩), .int .i64 most] w fun e w' => e = .returned (.tuple #[.int .i64 c, .bool true]) ∧ RdAt w' b rv l (k + c + 1) ∧ Kept (fun i => i = b) w w' := by
  have HR : Hid (RdAt w b rv l k) := h
  have HO : Hid (∀ i, i < c → (unpack l)[k + i]? = some true) := ho
  have HC : Hid ((unpack l)[k + c]? = some false) := hc
  have hlt : k + c < 8 * l.length := by have := (List.getElem?_eq_some_iff.1 hc).1; simpa using this
  have hb1 : w.cell? ⟨b, 1, none⟩ = some (.int .i64 (k : Int)) := by simp [World.cell?, h.box]
  have fb1 : w.frozen? ⟨b, 1, none⟩ = false := by simp [World.frozen?, h.box]
  have hsm : l.length ≤ 4398046511104 := h.small
  clear h ho hc
  go_enter Tryz.func108, Tryz.ntmps108
  go_wp2_with (go_at_call 75; refine (left_any _ b rv l k HR.out).mono ?_; rintro e w2 ⟨rfl, rfl⟩)
  go_loop [7] (fun i => ∃ j : Nat, j ≤ c ∧ i = .int .i64 j) (fun i => c - (intOf i).toNat)
  case atStart => exact ⟨0, Nat.zero_le _, rfl⟩
  case round =>
    obtain ⟨j, hj, rfl⟩ := hrel
    have hjl : (j : Int) < 8 * (l.length : Int) - k := by omega
    by_cases hjc : j < c
    · go_wp2_with (go_at_call 63; refine (digit_at _ b rv l k HR.out.drew (k + j) true (HO.out j hjc) _ (by omega)).mono ?_; rintro e w2 ⟨rfl, rfl⟩)
      go_round
      case rel => exact ⟨j + 1, by omega, by go_num⟩
      case measure => simp [intOf]; omega
    · have e : j = c := by omega
      subst e
      have hjm : ((j : Int) == most) = false := by simp; omega
      have hje : ((j : Int) == 8 * (l.length : Int) - k) = false := by simp; omega
      go_wp2_with (go_at_call 63; refine (digit_at _ b rv l k HR.out.drew (k + j) false HC.out _ (by omega)).mono ?_; rintro e w2 ⟨rfl, rfl⟩)
      go_ret2
      refine ⟨rfl, ?_, ?_⟩
      · have := (HR.out.drew).take (k + j + 1) (by omega)
        have e : ((k + j + 1 : Nat) : Int) = (k : Int) + (j + 1) := by omega
        rw [e] at this
        exact this
      · exact (Kept.refl _ _).drew.trans (Kept.setCell _ _ _ rfl)

set_option maxHeartbeats 1000000 in
theorem rest_true (w : World) (b : Nat) (rv : Value) (l : List Nat) (k : Nat) (h : RdAt w b rv l k) (ho : ∀ i, k ≤ i → i < 8 * l.length → (unpack l)[i]? = some false) :
    Calls Tryz.prog 32 #[.pointer (some ⟨b, 0, none⟩)] w fun e w' => e = .returned (.bool true) ∧ w = w' := by
  have HR : Hid (RdAt w b rv l k) := h
  have HO : Hid (∀ i, k ≤ i → i < 8 * l.length → (unpack l)[i]? = some false) := ho
  have hb0 : w.cell? ⟨b, 0, none⟩ = some rv := by simp [World.cell?, h.box]
  have hb1 : w.cell? ⟨b, 1, none⟩ = some (.int .i64 (k : Int)) := by simp [World.cell?, h.box]
  have hsm : l.length ≤ 4398046511104 := h.small
  have hle : k ≤ 8 * l.length := h.le
  have hrv : ∃ ao cap, rv = .slice ao l.length cap := by obtain ⟨ao, cap, e, _⟩ := h.row; exact ⟨ao, cap, e⟩
  obtain ⟨ao, cap, rfl⟩ := hrv
  clear h ho
  go_enter Tryz.func32, Tryz.ntmps32
  go_wp2
  go_loop [3] (fun i => ∃ j : Nat, k ≤ j ∧ j ≤ 8 * l.length ∧ i = .int .i64 j) (fun i => 8 * l.length - (intOf i).toNat)
  case atStart => exact ⟨k, Nat.le_refl _, hle, rfl⟩
  case round =>
    obtain ⟨j, hj, hj2, rfl⟩ := hrel
    by_cases hjc : j < 8 * l.length
    · go_wp2_with (go_at_call 63; refine (digit_at _ b _ l k HR.out j false (HO.out j hj hjc) _ rfl).mono ?_; rintro e w2 ⟨rfl, rfl⟩)
      go_round
      case rel => exact ⟨j + 1, by omega, by omega, by go_num⟩
      case measure => simp [intOf]; omega
    · go_wp2
      go_ret
      exact ⟨rfl, rfl⟩

set_option maxHeartbeats 1000000 in
theorem rest_false (w : World) (b : Nat) (rv : Value) (l : List Nat) (k c : Nat) (h : RdAt w b rv l k) (hkc : k ≤ c) (hc : (unpack l)[c]? = some true) (ho : ∀ i, k ≤ i → i < c → (unpack l)[i]? = some false) :
    Calls Tryz.prog 32 #[.pointer (some ⟨b, 0, none⟩)] w fun e w' => e = .returned (.bool false) ∧ w = w' := by
  have HR : Hid (RdAt w b rv l k) := h
  have HO : Hid (∀ i, k ≤ i → i < c → (unpack l)[i]? = some false) := ho
  have HC : Hid ((unpack l)[c]? = some true) := hc
  have hlt : c < 8 * l.length := by have := (List.getElem?_eq_some_iff.1 hc).1; simpa using this
  have hb0 : w.cell? ⟨b, 0, none⟩ = some rv := by simp [World.cell?, h.box]
  have hb1 : w.cell? ⟨b, 1, none⟩ = some (.int .i64 (k : Int)) := by simp [World.cell?, h.box]
  have hsm : l.length ≤ 4398046511104 := h.small
  have hrv : ∃ ao cap, rv = .slice ao l.length cap := by obtain ⟨ao, cap, e, _⟩ := h.row; exact ⟨ao, cap, e⟩
  obtain ⟨ao, cap, rfl⟩ := hrv
  clear h ho hc
  go_enter Tryz.func32, Tryz.ntmps32
  go_wp2
  go_loop [3] (fun i => ∃ j : Nat, k ≤ j ∧ j ≤ c ∧ i = .int .i64 j) (fun i => c - (intOf i).toNat)
  case atStart => exact ⟨k, Nat.le_refl _, hkc, rfl⟩
  case round =>
    obtain ⟨j, hj, hj2, rfl⟩ := hrel
    have hjl : (j : Int) < 8 * (l.length : Int) := by omega
    by_cases hjc : j < c
    · go_wp2_with (go_at_call 63; refine (digit_at _ b _ l k HR.out j false (HO.out j hj hjc) _ rfl).mono ?_; rintro e w2 ⟨rfl, rfl⟩)
      go_round
      case rel => exact ⟨j + 1, by omega, by omega, by go_num⟩
      case measure => simp [intOf]; omega
    · have e : j = c := by omega
      subst e
      go_wp2_with (go_at_call 63; refine (digit_at _ b _ l k HR.out j true HC.out _ rfl).mono ?_; rintro e w2 ⟨rfl, rfl⟩)
      go_ret
      exact ⟨rfl, rfl⟩

end Go.Proofs.YtlonnoapbfjomabGreat
