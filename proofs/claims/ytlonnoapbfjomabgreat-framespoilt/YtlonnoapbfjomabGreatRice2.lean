/- Numbers in a row that can be read; sizes, Best. -/
import Derived.Test.YtlonnoapbfjomabGreatRice1
import Derived.Test.YtlonnoapbfjomabGreatInts
namespace Go.Proofs.YtlonnoapbfjomabGreat
set_option linter.unusedVariables false
set_option linter.unusedSimpArgs false
open Go.RowKit Dg

theorem sizeOf1_bounds (z k : Int) : 0 ≤ sizeOf1 z k ∧ sizeOf1 z k ≤ 56 := by
  unfold sizeOf1
  split
  · rename_i h
    obtain ⟨h1, h2⟩ := h
    have := isNum_true h1
    have := isPar_true h2
    have := quot_le z k.toNat (by omega)
    unfold sizeIn
    split <;> omega
  · omega

/-- All sizes together. -/
def sumSize (l : List Int) (k : Int) : Int := (l.map fun z => sizeOf1 z k).sum
theorem sumSize_bounds (l : List Int) (k : Int) : 0 ≤ sumSize l k ∧ sumSize l k ≤ 56 * l.length := by
  induction l with
  | nil => simp [sumSize]
  | cons x l ih =>
    have := sizeOf1_bounds x k
    simp only [sumSize, List.map_cons, List.sum_cons, List.length_cons] at ih ⊢
    omega
theorem sumSize_take (l : List Int) (k : Int) (j : Nat) (x : Int) (h : l[j]? = some x) : sumSize (l.take (j + 1)) k = sumSize (l.take j) k + sizeOf1 x k := by
  rw [List.take_add_one, h]
  simp [sumSize]

set_option maxHeartbeats 1000000 in
theorem sizes_any (w : World) (a : Option Addr) (cap : Nat) (l : List Int) (k : Int) (h : IntsAt w a l) (hl : l.length ≤ 4096) (s : Int) (HS : Hid (s = sumSize l k)) :
    Calls Tryz.prog 98 #[.int .i64 k, .slice a l.length cap] w fun e w' => e = .returned (.int .i64 s) ∧ w = w' := by
  have HI : Hid (IntsAt w a l) := h
  clear h
  go_enter Tryz.func98, Tryz.ntmps98
  go_wp2
  go_loopw [5, 10] (fun s i wr => ∃ (j : Nat) (t : Int), i = .int .i64 (j : Int) ∧ s = .int .i64 t ∧ j ≤ l.length ∧ Hid (t = sumSize (l.take j) k) ∧ 0 ≤ t ∧ t ≤ 56 * j ∧ w = wr) (fun s i _ => l.length - (intOf i).toNat)
  case atStart => exact ⟨0, 0, rfl, rfl, Nat.zero_le _, rfl, by decide, by decide, rfl⟩
  case round =>
    obtain ⟨j, t, rfl, rfl, hj, ht, ht0, ht1, rfl⟩ := hrel
    by_cases hjn : j < l.length
    · obtain ⟨x, hx⟩ : ∃ x, l[j]? = some x := ⟨l[j], by simp [hjn]⟩
      obtain ⟨b, off, rfl, hc⟩ := HI.out j x hx
      obtain ⟨sz, hsz⟩ : ∃ sz, sz = sizeOf1 x k := ⟨_, rfl⟩
      have hb := sizeOf1_bounds x k
      rw [← hsz] at hb
      obtain ⟨hb1, hb2⟩ := hb
      have HSZ : Hid (sz = sizeOf1 x k) := hsz
      have HX : Hid (l[j]? = some x) := hx
      clear hx hsz HI
      go_wp2_with (go_at_call 107; refine (size_any x k _).mono ?_; rw [← HSZ.out]; rintro e w2 ⟨rfl, rfl⟩)
      go_roundw
      case rel => exact ⟨j + 1, t + sz, by go_num, rfl, by omega, by show _ = _; rw [sumSize_take l k j x HX.out, ← ht.out, ← HSZ.out], by omega, by omega, by trivial⟩
      case measure => simp [intOf]; omega
    · go_wp2
      go_ret
      have e : j = l.length := by omega
      have e2 := ht.out
      rw [e, List.take_length, ← HS.out] at e2
      exact ⟨by rw [← e2]; rfl, rfl⟩

/-- The best parameter up to j, and the size of all with it. -/
def bestTo (l : List Int) : Nat → Nat × Int
  | 0 => (0, sumSize l 0)
  | j + 1 => if sumSize l ((j + 1 : Nat) : Int) < (bestTo l j).2 then (j + 1, sumSize l ((j + 1 : Nat) : Int)) else bestTo l j
theorem bestTo_le (l : List Int) (j : Nat) : (bestTo l j).1 ≤ j := by
  induction j with
  | zero => exact Nat.le_refl _
  | succ j ih => unfold bestTo; split <;> first | omega | (simp only; omega) | (show j + 1 ≤ j + 1; omega)
theorem bestTo_size (l : List Int) (j : Nat) : (bestTo l j).2 = sumSize l ((bestTo l j).1 : Nat) := by
  induction j with
  | zero => rfl
  | succ j ih => unfold bestTo; split <;> simp [*]
theorem bestTo_least (l : List Int) (j p : Nat) (hp : p ≤ j) : (bestTo l j).2 ≤ sumSize l (p : Int) ∧ (p < (bestTo l j).1 → (bestTo l j).2 < sumSize l (p : Int)) := by
  induction j with
  | zero =>
    have : p = 0 := by omega
    subst this
    exact ⟨Int.le_refl _, fun h => by simp [bestTo] at h⟩
  | succ j ih =>
    unfold bestTo
    by_cases h : sumSize l ((j + 1 : Nat) : Int) < (bestTo l j).2
    · rw [if_pos h]
      by_cases hpj : p = j + 1
      · subst hpj; exact ⟨Int.le_refl _, fun h => by simp at h⟩
      · have := (ih (by omega)).1
        exact ⟨by simp only; omega, fun _ => by simp only; omega⟩
    · rw [if_neg h]
      by_cases hpj : p = j + 1
      · subst hpj
        have := bestTo_le l j
        exact ⟨by omega, fun h => by omega⟩
      · exact ih (by omega)
theorem bestTo_bounds (l : List Int) (j : Nat) : 0 ≤ (bestTo l j).2 ∧ (bestTo l j).2 ≤ 56 * l.length := by
  rw [bestTo_size]; exact sumSize_bounds l _

set_option maxHeartbeats 1000000 in
theorem best_bad (w : World) (a : Option Addr) (cap : Nat) (l : List Int) (h : IntsAt w a l) (hl : l.length ≤ 4096) (hbad : ∃ x ∈ l, isNum x = false) :
    Calls Tryz.prog 85 #[.slice a l.length cap] w fun e w' => e = .returned (.tuple #[.int .i64 0, .int .i64 0]) ∧ w = w' := by
  have HI : Hid (IntsAt w a l) := h
  have HB : Hid (∃ x ∈ l, isNum x = false) := hbad
  clear h hbad
  go_enter Tryz.func85, Tryz.ntmps85
  go_wp2
  go_loopw [10] (fun i wr => ∃ (j : Nat), i = .int .i64 (j : Int) ∧ j ≤ l.length ∧ Hid (∀ x ∈ l.take j, isNum x = true) ∧ w = wr) (fun i _ => l.length - (intOf i).toNat)
  case atStart => exact ⟨0, rfl, Nat.zero_le _, by intro x hx; simp at hx, rfl⟩
  case round =>
    obtain ⟨j, rfl, hj, ht, rfl⟩ := hrel
    by_cases hjn : j < l.length
    · obtain ⟨x, hx⟩ : ∃ x, l[j]? = some x := ⟨l[j], by simp [hjn]⟩
      obtain ⟨b, off, rfl, hc⟩ := HI.out j x hx
      have HX : Hid (l[j]? = some x) := hx
      clear hx HI
      by_cases hn : isNum x = true
      · have HN : Hid (isNum x = true) := hn
        clear hn
        go_wp2_with (go_at_call 97; refine (isNumber_any x _).mono ?_; rw [HN.out]; rintro e w2 ⟨rfl, rfl⟩)
        go_roundw
        case rel =>
          refine ⟨j + 1, by go_num, by omega, ?_, by trivial⟩
          intro y hy
          rw [List.take_add_one, HX.out] at hy
          rcases List.mem_append.1 hy with h1 | h1
          · exact ht.out y h1
          · simp at h1; subst h1; exact HN.out
        case measure => simp [intOf]; omega
      · have HN : Hid (isNum x = false) := by show _ = _; simpa using hn
        clear hn
        go_wp2_with (go_at_call 97; refine (isNumber_any x _).mono ?_; rw [HN.out]; rintro e w2 ⟨rfl, rfl⟩)
        go_ret2
        exact ⟨rfl, rfl⟩
    · exfalso
      obtain ⟨x, hx, hf⟩ := HB.out
      have := ht.out x (by rw [List.take_of_length_le (by omega)]; exact hx)
      rw [this] at hf
      cases hf

set_option maxHeartbeats 2000000 in
theorem best_all (w : World) (a : Option Addr) (cap : Nat) (l : List Int) (h : IntsAt w a l) (hl : l.length ≤ 4096) (hall : ∀ x ∈ l, isNum x = true) (bk : Nat) (bs : Int) (HR : Hid (bestTo l 24 = (bk, bs))) :
    Calls Tryz.prog 85 #[.slice a l.length cap] w fun e w' => e = .returned (.tuple #[.int .i64 bk, .int .i64 bs]) ∧ w = w' := by
  have HI : Hid (IntsAt w a l) := h
  have HB : Hid (∀ x ∈ l, isNum x = true) := hall
  clear h hall
  go_enter Tryz.func85, Tryz.ntmps85
  go_wp2
  go_loopw [2, 10] (fun k0 i wr => ∃ (j : Nat), k0 = .int .i64 0 ∧ i = .int .i64 (j : Int) ∧ j ≤ l.length ∧ w = wr) (fun _ i _ => l.length - (intOf i).toNat)
  case atStart => exact ⟨0, rfl, rfl, Nat.zero_le _, rfl⟩
  case round =>
    obtain ⟨j, rfl, rfl, hj, rfl⟩ := hrel
    by_cases hjn : j < l.length
    · obtain ⟨x, hx⟩ : ∃ x, l[j]? = some x := ⟨l[j], by simp [hjn]⟩
      obtain ⟨b, off, rfl, hc⟩ := HI.out j x hx
      have HN : Hid (isNum x = true) := HB.out x (List.mem_of_getElem? hx)
      clear hx HI HB
      go_wp2_with (go_at_call 97; refine (isNumber_any x _).mono ?_; rw [HN.out]; rintro e w2 ⟨rfl, rfl⟩)
      go_roundw
      case rel => exact ⟨j + 1, rfl, by go_num, by omega, by trivial⟩
      case measure => simp [intOf]; omega
    · obtain ⟨s0, hs0⟩ : ∃ s, s = sumSize l 0 := ⟨_, rfl⟩
      have HS0 : Hid (s0 = sumSize l 0) := hs0
      clear hs0
      go_wp2_with (go_at_call 98; refine (sizes_any _ a cap l 0 HI.out hl s0 HS0).mono ?_; rintro e w2 ⟨rfl, rfl⟩)
      go_loopw [2, 3, 6] (fun bk s i wr => ∃ (j p : Nat) (t : Int), i = .int .i64 ((j : Int) + 1) ∧ bk = .int .i64 (p : Int) ∧ s = .int .i64 t ∧ j ≤ 24 ∧ Hid (bestTo l j = (p, t)) ∧ w = wr) (fun bk s i _ => 25 - (intOf i).toNat)
      case atStart => exact ⟨0, 0, s0, rfl, rfl, rfl, Nat.zero_le _, by show _ = _; rw [HS0.out]; rfl, rfl⟩
      case round =>
        obtain ⟨j, p, t, rfl, rfl, rfl, hj, ht, rfl⟩ := hrel
        by_cases hj24 : j < 24
        · obtain ⟨s1, hs1⟩ : ∃ s, s = sumSize l ((j : Int) + 1) := ⟨_, rfl⟩
          have HS1 : Hid (s1 = sumSize l ((j : Int) + 1)) := hs1
          have e1 : bestTo l (j + 1) = if s1 < t then (j + 1, s1) else (p, t) := by
            have e : ((j + 1 : Nat) : Int) = (j : Int) + 1 := by omega
            rw [bestTo, ht.out, e, ← hs1]
          have E1 : Hid (bestTo l (j + 1) = if s1 < t then (j + 1, s1) else (p, t)) := e1
          clear hs1 e1
          by_cases hlt : s1 < t
          · go_wp2_with (go_at_call 98; refine (sizes_any _ a cap l _ HI.out hl s1 HS1).mono ?_; rintro e w2 ⟨rfl, rfl⟩)
            go_roundw
            case rel => exact ⟨j + 1, j + 1, s1, by go_num, by go_num, rfl, by omega, by show _ = _; rw [E1.out, if_pos hlt], by trivial⟩
            case measure => simp [intOf]; omega
          · go_wp2_with (go_at_call 98; refine (sizes_any _ a cap l _ HI.out hl s1 HS1).mono ?_; rintro e w2 ⟨rfl, rfl⟩)
            go_roundw
            case rel => exact ⟨j + 1, p, t, by go_num, rfl, rfl, by omega, by show _ = _; rw [E1.out, if_neg (by omega)], by trivial⟩
            case measure => simp [intOf]; omega
        · have e : j = 24 := by omega
          have e2 := ht.out
          rw [e, HR.out] at e2
          cases e2
          go_wp2
          go_ret2
          exact ⟨rfl, rfl⟩

end Go.Proofs.YtlonnoapbfjomabGreat
