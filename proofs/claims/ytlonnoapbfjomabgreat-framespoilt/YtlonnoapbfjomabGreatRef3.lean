/- A reader and the document's own digits side by side: each call by one contract for all arguments. -/
import Derived.Test.YtlonnoapbfjomabGreatRef2
namespace Go.Proofs.YtlonnoapbfjomabGreat
set_option linter.unusedVariables false
set_option linter.unusedSimpArgs false
open Go.RowKit Dg

theorem cell_one {w : World} {b off : Nat} {ds : List Bool} (hc : ∀ j d, ds[j]? = some d → w.cell? ⟨b, off + j, none⟩ = some (.int .u8 (d.toNat : Int))) {i : Nat} (h : ds[i]? = some true) : w.cell? ⟨b, off + i, none⟩ = some (.int .u8 1) := hc i true h
theorem cell_nought {w : World} {b off : Nat} {ds : List Bool} (hc : ∀ j d, ds[j]? = some d → w.cell? ⟨b, off + j, none⟩ = some (.int .u8 (d.toNat : Int))) {i : Nat} (h : ds[i]? = some false) : w.cell? ⟨b, off + i, none⟩ = some (.int .u8 0) := hc i false h

theorem take_all (w : World) (v : Value) (ds : List Bool) (n : Int) (h : BtAt w v ds) :
    Calls Tryz.prog 80 #[v, .int .i64 n] w fun e w' => ∃ v', e = .returned (.tuple #[.int .i64 ((onesOut ds n).1 : Nat), v', .bool (onesOut ds n).2.2]) ∧ BtAt w' v' (ds.drop (onesOut ds n).2.1) ∧ (∀ k, v'.ownBlock = some k → v.ownBlock = some k) ∧ ∃ m, w' = w.drewN m := by
  by_cases hbad : n < 0 ∨ 1024 < n
  · refine (take_bad w v n hbad).mono ?_
    rintro e w' ⟨rfl, rfl⟩
    have hg : onesOut ds n = (0, 0, false) := by unfold onesOut; rw [if_neg (by omega)]
    rw [hg]
    exact ⟨v, rfl, by simpa using h, fun _ h => h, 0, rfl⟩
  · obtain ⟨N, rfl⟩ := Int.eq_ofNat_of_zero_le (show 0 ≤ n by omega)
    have hle := lead_le ds N
    have hlen := lead_le_length ds N
    rcases h with ⟨rfl, rfl⟩ | ⟨b, off, cap, rfl, hb, hl, hm, hc⟩
    · by_cases h0 : N = 0
      · subst h0
        refine (take_nil0 w).mono ?_
        rintro e w' ⟨rfl, rfl⟩
        exact ⟨_, rfl, Or.inl ⟨rfl, rfl⟩, fun _ h => h, 1, rfl⟩
      · have hg : onesOut [] (N : Nat) = (0, 0, false) := by
          unfold onesOut
          rw [if_pos (by omega), if_neg (by simp [lead]; omega), if_pos (by simp [lead])]
        rw [hg]
        refine (take_nil w N (by omega) (by omega)).mono ?_
        rintro e w' ⟨rfl, rfl⟩
        exact ⟨_, rfl, Or.inl ⟨rfl, rfl⟩, fun _ h => h, 0, rfl⟩
    · by_cases h1 : lead ds N = N
      · have hg : onesOut ds (N : Nat) = (N, N, true) := by unfold onesOut; rw [if_pos (by omega)]; simp [h1]
        rw [hg]
        refine (take_most w b off cap ds N (by omega) (by omega) hl hm (fun i hi => cell_one hc (lead_true ds N i (by omega)))).mono ?_
        rintro e w' ⟨v', rfl, ⟨o, rfl, ho⟩, rfl⟩
        exact ⟨_, rfl, (BtAt.drop hb (by omega) hl hm hc ho).drew, fun _ h => h, 1, rfl⟩
      · by_cases h2 : lead ds N = ds.length
        · have hg : onesOut ds (N : Nat) = (0, 0, false) := by unfold onesOut; rw [if_pos (by omega), if_neg (by simpa using h1), if_pos (by simpa using h2)]
          rw [hg]
          refine (take_end w b off cap ds N (by omega) (by omega) hl hm (fun i hi => cell_one hc (lead_true ds N i (by omega)))).mono ?_
          rintro e w' ⟨rfl, rfl⟩
          exact ⟨_, rfl, Or.inr ⟨b, off, cap, rfl, hb, hl, hm, hc⟩, fun _ h => h, 0, rfl⟩
        · have hg : onesOut ds (N : Nat) = (lead ds N, lead ds N + 1, true) := by unfold onesOut; rw [if_pos (by omega), if_neg (by simpa using h1), if_neg (by simpa using h2)]; simp
          rw [hg]
          refine (take_nought w b off cap ds (lead ds N) N (by omega) (by omega) (by omega) hl hm (fun i hi => cell_one hc (lead_true ds N i hi)) (cell_nought hc (lead_false ds N (by omega) (by omega)))).mono ?_
          rintro e w' ⟨v', rfl, ⟨o, rfl, ho⟩, rfl⟩
          exact ⟨_, rfl, (BtAt.drop hb (by omega) hl hm hc ho).drew, fun _ h => h, 1, rfl⟩

/-- What a reader has left. -/
def left (l : List Nat) (k : Nat) : List Bool := (unpack l).drop k
theorem left_get (l : List Nat) (k i : Nat) : (left l k)[i]? = (unpack l)[k + i]? := by simp [left]
theorem left_len (l : List Nat) (k : Nat) : (left l k).length = 8 * l.length - k := by simp [left]
theorem left_drop (l : List Nat) (k n : Nat) : left l (k + n) = (left l k).drop n := by simp [left]

theorem rones_all (w : World) (b : Nat) (rv : Value) (l : List Nat) (k : Nat) (n : Int) (h : RdAt w b rv l k) :
    Calls Tryz.prog 108 #[.pointer (some ⟨b, 0, none⟩), .int .i64 n] w fun e w' => e = .returned (.tuple #[.int .i64 ((onesOut (left l k) n).1 : Nat), .bool (onesOut (left l k) n).2.2]) ∧ RdAt w' b rv l (k + (onesOut (left l k) n).2.1) ∧ Kept (fun i => i = b) w w' := by
  by_cases hbad : n < 0 ∨ 1024 < n
  · refine (rones_bad w _ n hbad).mono ?_
    rintro e w' ⟨rfl, rfl⟩
    have hg : onesOut (left l k) n = (0, 0, false) := by unfold onesOut; rw [if_neg (by omega)]
    rw [hg]
    exact ⟨rfl, h, Kept.refl _ _⟩
  · obtain ⟨N, rfl⟩ := Int.eq_ofNat_of_zero_le (show 0 ≤ n by omega)
    have hle := lead_le (left l k) N
    have hlen := lead_le_length (left l k) N
    have hll := left_len l k
    have hkl := h.le
    by_cases h1 : lead (left l k) N = N
    · have hg : onesOut (left l k) (N : Nat) = (N, N, true) := by unfold onesOut; rw [if_pos (by omega)]; simp [h1]
      rw [hg]
      exact rones_most w b rv l k N h (by omega) (by omega) (fun i hi => by rw [← left_get]; exact lead_true _ N i (by omega))
    · by_cases h2 : lead (left l k) N = (left l k).length
      · have hg : onesOut (left l k) (N : Nat) = (0, 0, false) := by unfold onesOut; rw [if_pos (by omega), if_neg (by simpa using h1), if_pos (by simpa using h2)]
        rw [hg]
        refine (rones_end w b rv l k (left l k).length N h (by omega) (by omega) (by omega) (fun i hi => by rw [← left_get]; exact lead_true _ N i (by omega))).mono ?_
        rintro e w' ⟨rfl, rfl⟩
        exact ⟨rfl, h.drew, (Kept.refl _ _).drew⟩
      · have hg : onesOut (left l k) (N : Nat) = (lead (left l k) N, lead (left l k) N + 1, true) := by unfold onesOut; rw [if_pos (by omega), if_neg (by simpa using h1), if_neg (by simpa using h2)]; simp
        rw [hg]
        refine (rones_nought w b rv l k (lead (left l k) N) N h (by omega) (by omega) (by rw [← left_get]; exact lead_false _ N (by omega) (by omega)) (fun i hi => by rw [← left_get]; exact lead_true _ N i hi)).mono ?_
        rintro e w' ⟨rfl, h3, h4⟩
        exact ⟨rfl, h3, h4⟩

theorem get_all (w : World) (b : Nat) (rv : Value) (l : List Nat) (k : Nat) (n : Int) (h : RdAt w b rv l k) :
    Calls Tryz.prog 58 #[.pointer (some ⟨b, 0, none⟩), .int .i64 n] w fun e w' => e = .returned (.tuple #[.int .i64 ((getOut (left l k) n).1 : Nat), .bool (getOut (left l k) n).2.2]) ∧ RdAt w' b rv l (k + (getOut (left l k) n).2.1) ∧ Kept (fun i => i = b) w w' := by
  have hll := left_len l k
  have hkl := h.le
  by_cases hbad : n < 0 ∨ 62 < n
  · refine (get_bad w _ n hbad).mono ?_
    rintro e w' ⟨rfl, rfl⟩
    have hg : getOut (left l k) n = (0, 0, false) := by unfold getOut; rw [if_neg (by omega)]
    rw [hg]
    exact ⟨rfl, h, Kept.refl _ _⟩
  · by_cases hfew : 8 * (l.length : Int) - k < n
    · have hg : getOut (left l k) n = (0, 0, false) := by unfold getOut; rw [if_neg (by omega)]
      rw [hg]
      refine (get_few w b rv l k n h (by omega) (by omega) hfew).mono ?_
      rintro e w' ⟨rfl, rfl⟩
      exact ⟨rfl, h.drew, (Kept.refl _ _).drew⟩
    · obtain ⟨N, rfl⟩ := Int.eq_ofNat_of_zero_le (show 0 ≤ n by omega)
      have hg : getOut (left l k) (N : Nat) = (num ((left l k).take N), N, true) := by unfold getOut; rw [if_pos (by omega)]; simp
      rw [hg]
      exact get_any w b rv l k N h (by omega) (by omega)

/-- Are all noughts? -/
def noOnes (ds : List Bool) : Bool := !ds.any id
theorem noOnes_cons (d : Bool) (ds : List Bool) : noOnes (d :: ds) = (!d && noOnes ds) := by simp [noOnes]
theorem noOnes_split (ds : List Bool) : (noOnes ds = true ∧ ∀ i, i < ds.length → ds[i]? = some false) ∨ (noOnes ds = false ∧ ∃ c : Nat, ds[c]? = some true ∧ ∀ i : Nat, i < c → ds[i]? = some false) := by
  induction ds with
  | nil => exact Or.inl ⟨rfl, fun i h => by simp at h⟩
  | cons d ds ih =>
    cases d with
    | true => exact Or.inr ⟨by simp [noOnes], 0, rfl, fun i h => by omega⟩
    | false =>
      rw [noOnes_cons]
      rcases ih with ⟨h1, h2⟩ | ⟨h1, c, h2, h3⟩
      · refine Or.inl ⟨by simpa using h1, fun i h => ?_⟩
        cases i with
        | zero => rfl
        | succ i => rw [List.getElem?_cons_succ]; exact h2 i (by simpa using h)
      · refine Or.inr ⟨by simpa using h1, c + 1, by rw [List.getElem?_cons_succ]; exact h2, fun i h => ?_⟩
        cases i with
        | zero => rfl
        | succ i => rw [List.getElem?_cons_succ]; exact h3 i (by omega)

theorem rest_all (w : World) (b : Nat) (rv : Value) (l : List Nat) (k : Nat) (h : RdAt w b rv l k) :
    Calls Tryz.prog 32 #[.pointer (some ⟨b, 0, none⟩)] w fun e w' => e = .returned (.bool (noOnes (left l k))) ∧ w = w' := by
  have hll := left_len l k
  have hkl := h.le
  rcases noOnes_split (left l k) with ⟨h1, h2⟩ | ⟨h1, c, h2, h3⟩
  · rw [h1]
    refine rest_true w b rv l k h (fun i hi hi2 => ?_)
    have := h2 (i - k) (by omega)
    rw [left_get, show k + (i - k) = i by omega] at this
    exact this
  · rw [h1]
    refine rest_false w b rv l k (k + c) h (by omega) (by rw [← left_get]; exact h2) (fun i hi hi2 => ?_)
    have := h3 (i - k) (by omega)
    rw [left_get, show k + (i - k) = i by omega] at this
    exact this

set_option maxHeartbeats 1000000 in
theorem rrest_true (w : World) (a : Option Addr) (len cap : Nat) (hlen : len ≤ 4398046511104) (h : ∀ i, i < len → ∃ b off, a = some ⟨b, off, none⟩ ∧ w.cell? ⟨b, off + i, none⟩ = some (.int .u8 0)) :
    Calls Tryz.prog 39 #[.slice a len cap] w fun e w' => e = .returned (.bool true) ∧ w = w' := by
  have HO : Hid (∀ i, i < len → ∃ b off, a = some ⟨b, off, none⟩ ∧ w.cell? ⟨b, off + i, none⟩ = some (.int .u8 0)) := h
  clear h
  go_enter Tryz.func39, Tryz.ntmps39
  go_wp2
  go_loop [6] (fun i => ∃ j : Nat, j ≤ len ∧ i = .int .i64 j) (fun i => len - (intOf i).toNat)
  case atStart => exact ⟨0, Nat.zero_le _, rfl⟩
  case round =>
    obtain ⟨j, hj, rfl⟩ := hrel
    by_cases hjl : j < len
    · obtain ⟨b, off, rfl, hcell⟩ := HO.out j hjl
      go_wp2
      go_round
      case rel => exact ⟨j + 1, by omega, by go_num⟩
      case measure => simp [intOf]; omega
    · go_wp2
      go_ret
      exact ⟨rfl, rfl⟩

set_option maxHeartbeats 1000000 in
theorem rrest_false (w : World) (b off len cap c : Nat) (hlen : len ≤ 4398046511104) (hc : c < len) (h : ∀ i, i < c → w.cell? ⟨b, off + i, none⟩ = some (.int .u8 0)) (h1 : w.cell? ⟨b, off + c, none⟩ = some (.int .u8 1)) :
    Calls Tryz.prog 39 #[.slice (some ⟨b, off, none⟩) len cap] w fun e w' => e = .returned (.bool false) ∧ w = w' := by
  have HO : Hid (∀ i, i < c → w.cell? ⟨b, off + i, none⟩ = some (.int .u8 0)) := h
  clear h
  go_enter Tryz.func39, Tryz.ntmps39
  go_wp2
  go_loop [6] (fun i => ∃ j : Nat, j ≤ c ∧ i = .int .i64 j) (fun i => c - (intOf i).toNat)
  case atStart => exact ⟨0, Nat.zero_le _, rfl⟩
  case round =>
    obtain ⟨j, hj, rfl⟩ := hrel
    have hjl : j < len := by omega
    by_cases hjc : j < c
    · have hcell := HO.out j hjc
      go_wp2
      go_round
      case rel => exact ⟨j + 1, by omega, by go_num⟩
      case measure => simp [intOf]; omega
    · have e : j = c := by omega
      subst e
      go_wp2
      go_ret
      exact ⟨rfl, rfl⟩

theorem rrest_all (w : World) (v : Value) (ds : List Bool) (h : BtAt w v ds) (hlen : ds.length ≤ 4398046511104) :
    Calls Tryz.prog 39 #[v] w fun e w' => e = .returned (.bool (noOnes ds)) ∧ w = w' := by
  rcases noOnes_split ds with ⟨h1, h2⟩ | ⟨h1, c, h2, h3⟩
  · rw [h1]
    rcases h with ⟨rfl, rfl⟩ | ⟨b, off, cap, rfl, hb, hl, hm, hc⟩
    · exact rrest_true w none 0 0 (by decide) (fun i hi => by omega)
    · exact rrest_true w _ _ _ hlen (fun i hi => ⟨b, off, rfl, cell_nought hc (h2 i hi)⟩)
  · rw [h1]
    rcases h with ⟨rfl, rfl⟩ | ⟨b, off, cap, rfl, hb, hl, hm, hc⟩
    · simp at h2
    · exact rrest_false w b off _ cap c hlen (List.getElem?_eq_some_iff.1 h2).1 (fun i hi => cell_nought hc (h3 i hi)) (cell_one hc h2)

end Go.Proofs.YtlonnoapbfjomabGreat
