/- A reader and the document's own digits side by side: each call by one contract for all arguments. -/
import Derived.Test.YtlonnoapbfjomaaRef2
namespace Go.Proofs.Ytlonnoapbfjomaa
set_option linter.unusedVariables false
set_option linter.unusedSimpArgs false
open Go.RowKit Dg

theorem cell_one {w : World} {b off : Nat} {ds : List Bool} (hc : ∀ j d, ds[j]? = some d → w.cell? ⟨b, off + j, none⟩ = some (.int .u8 (d.toNat : Int))) {i : Nat} (h : ds[i]? = some true) : w.cell? ⟨b, off + i, none⟩ = some (.int .u8 1) := hc i true h
theorem cell_nought {w : World} {b off : Nat} {ds : List Bool} (hc : ∀ j d, ds[j]? = some d → w.cell? ⟨b, off + j, none⟩ = some (.int .u8 (d.toNat : Int))) {i : Nat} (h : ds[i]? = some false) : w.cell? ⟨b, off + i, none⟩ = some (.int .u8 0) := hc i false h

/-- What a reader has left. -/
def left (l : List Nat) (k : Nat) : List Bool := (unpack l).drop k
theorem left_get (l : List Nat) (k i : Nat) : (left l k)[i]? = (unpack l)[k + i]? := by simp [left]
theorem left_len (l : List Nat) (k : Nat) : (left l k).length = 8 * l.length - k := by simp [left]
theorem left_drop (l : List Nat) (k n : Nat) : left l (k + n) = (left l k).drop n := by simp [left]

theorem rones_all (w : World) (b : Nat) (rv : Value) (l : List Nat) (k : Nat) (n : Int) (h : RdAt w b rv l k) :
    Calls Try.prog 106 #[.pointer (some ⟨b, 0, none⟩), .int .i64 n] w fun e w' => e = .returned (.tuple #[.int .i64 ((onesOut (left l k) n).1 : Nat), .bool (onesOut (left l k) n).2.2]) ∧ RdAt w' b rv l (k + (onesOut (left l k) n).2.1) ∧ Kept (fun i => i = b) w w' := by
  by_cases hbad : n < 0 ∨ 1024 < n
  · refine (rones_bad w _ n hbad).mono ?_
    rintro e w' ⟨rfl, rfl⟩
    have hg : onesOut (left l k) n = (0, 0, false) := by unfold onesOut; rw [if_neg (by omega)]
    rw [hg]
    exact ⟨rfl, h, Kept.refl _ _⟩
  · obtain ⟨N, rfl⟩ := Int.eq_ofNat_of_zero_le (show 0 ≤ n by omega)
    have hle := lead_le (left l k) N
    have hlen := lead_le_length (left l k) N
    have hll := left_len l k
    have hkl := h.le
    by_cases h1 : lead (left l k) N = N
    · have hg : onesOut (left l k) (N : Nat) = (N, N, true) := by unfold onesOut; rw [if_pos (by omega)]; simp [h1]
      rw [hg]
      exact rones_most w b rv l k N h (by omega) (by omega) (fun i hi => by rw [← left_get]; exact lead_true _ N i (by omega))
    · by_cases h2 : lead (left l k) N = (left l k).length
      · have hg : onesOut (left l k) (N : Nat) = (0, 0, false) := by unfold onesOut; rw [if_pos (by omega), if_neg (by simpa using h1), if_pos (by simpa using h2)]
        rw [hg]
        refine (rones_end w b rv l k (left l k).length N h (by omega) (by omega) (by omega) (fun i hi => by rw [← left_get]; exact lead_true _ N i (by omega))).mono ?_
        rintro e w' ⟨rfl, rfl⟩
        exact ⟨rfl, h.drew, (Kept.refl _ _).drew⟩
      · have hg : onesOut (left l k) (N : Nat) = (lead (left l k) N, lead (left l k) N + 1, true) := by unfold onesOut; rw [if_pos (by omega), if_neg (by simpa using h1), if_neg (by simpa using h2)]; simp
        rw [hg]
        refine (rones_nought w b rv l k (lead (left l k) N) N h (by omega) (by omega) (by rw [← left_get]; exact lead_false _ N (by omega) (by omega)) (fun i hi => by rw [← left_get]; exact lead_true _ N i hi)).mono ?_
        rintro e w' ⟨rfl, h3, h4⟩
        exact ⟨rfl, h3, h4⟩

theorem get_all (w : World) (b : Nat) (rv : Value) (l : List Nat) (k : Nat) (n : Int) (h : RdAt w b rv l k) :
    Calls Try.prog 44 #[.pointer (some ⟨b, 0, none⟩), .int .i64 n] w fun e w' => e = .returned (.tuple #[.int .i64 ((getOut (left l k) n).1 : Nat), .bool (getOut (left l k) n).2.2]) ∧ RdAt w' b rv l (k + (getOut (left l k) n).2.1) ∧ Kept (fun i => i = b) w w' := by
  have hll := left_len l k
  have hkl := h.le
  by_cases hbad : n < 0 ∨ 62 < n
  · refine (get_bad w _ n hbad).mono ?_
    rintro e w' ⟨rfl, rfl⟩
    have hg : getOut (left l k) n = (0, 0, false) := by unfold getOut; rw [if_neg (by omega)]
    rw [hg]
    exact ⟨rfl, h, Kept.refl _ _⟩
  · by_cases hfew : 8 * (l.length : Int) - k < n
    · have hg : getOut (left l k) n = (0, 0, false) := by unfold getOut; rw [if_neg (by omega)]
      rw [hg]
      refine (get_few w b rv l k n h (by omega) (by omega) hfew).mono ?_
      rintro e w' ⟨rfl, rfl⟩
      exact ⟨rfl, h.drew, (Kept.refl _ _).drew⟩
    · obtain ⟨N, rfl⟩ := Int.eq_ofNat_of_zero_le (show 0 ≤ n by omega)
      have hg : getOut (left l k) (N : Nat) = (num ((left l k).take N), N, true) := by unfold getOut; rw [if_pos (by omega)]; simp
      rw [hg]
      exact get_any w b rv l k N h (by omega) (by omega)

/-- Are all noughts? -/
def noOnes (ds : List Bool) : Bool := !ds.any id
theorem noOnes_cons (d : Bool) (ds : List Bool) : noOnes (d :: ds) = (!d && noOnes ds) := by simp [noOnes]
theorem noOnes_split (ds : List Bool) : (noOnes ds = true ∧ ∀ i, i < ds.length → ds[i]? = some false) ∨ (noOnes ds = false ∧ ∃ c : Nat, ds[c]? = some true ∧ ∀ i : Nat, i < c → ds[i]? = some false) := by
  induction ds with
  | nil => exact Or.inl ⟨rfl, fun i h => by simp at h⟩
  | cons d ds ih =>
    cases d with
    | true => exact Or.inr ⟨by simp [noOnes], 0, rfl, fun i h => by omega⟩
    | false =>
      rw [noOnes_cons]
      rcases ih with ⟨h1, h2⟩ | ⟨h1, c, h2, h3⟩
      · refine Or.inl ⟨by simpa using h1, fun i h => ?_⟩
        cases i with
        | zero => rfl
        | succ i => rw [List.getElem?_cons_succ]; exact h2 i (by simpa using h)
      · refine Or.inr ⟨by simpa using h1, c + 1, by rw [List.getElem?_cons_succ]; exact h2, fun i h => ?_⟩
        cases i with
        | zero => rfl
        | succ i => rw [List.getElem?_cons_succ]; exact h3 i (by omega)

theorem rest_all (w : World) (b : Nat) (rv : Value) (l : List Nat) (k : Nat) (h : RdAt w b rv l k) :
    Calls Try.prog 31 #[.pointer (some ⟨b, 0, none⟩)] w fun e w' => e = .returned (.bool (noOnes (left l k))) ∧ w = w' := by
  have hll := left_len l k
  have hkl := h.le
  rcases noOnes_split (left l k) with ⟨h1, h2⟩ | ⟨h1, c, h2, h3⟩
  · rw [h1]
    refine rest_true w b rv l k h (fun i hi hi2 => ?_)
    have := h2 (i - k) (by omega)
    rw [left_get, show k + (i - k) = i by omega] at this
    exact this
  · rw [h1]
    refine rest_false w b rv l k (k + c) h (by omega) (by rw [← left_get]; exact h2) (fun i hi hi2 => ?_)
    have := h3 (i - k) (by omega)
    rw [left_get, show k + (i - k) = i by omega] at this
    exact this

end Go.Proofs.Ytlonnoapbfjomaa
