/- The texts Bools, MpMath, MpWord, MpPop, MpMem, MpLib, MpIn, MpP1, one behind the other. -/
import Derived.Test.YthfeecgpgempdaaDoorPart02
import Derived.Laws.Bits64b
import Derived.Lib.TrailingZeros

/- A slice of bools that can be read; a part of it. -/
namespace Go.Proofs.YthfeecgpgempdaaDoor
set_option linter.unusedVariables false
set_option linter.unusedSimpArgs false
open Go.RowKit Dg

/-- Bools that can be read. -/
def BlAt (w : World) (a : Option Addr) (l : List Bool) : Prop := ∀ j x, l[j]? = some x → ∃ b off, a = some ⟨b, off, none⟩ ∧ w.cell? ⟨b, off + j, none⟩ = some (.bool x)
theorem BlAt.nil (w : World) (a : Option Addr) : BlAt w a [] := fun j x h => by simp at h
theorem BlAt.kept {w w' : World} {a : Option Addr} {l : List Bool} {F : Nat → Prop} (h : BlAt w a l) (hk : Kept F w w') (hF : l ≠ [] → ∀ y, a = some y → ¬ F y.block) : BlAt w' a l := by
  intro j x hx
  obtain ⟨b, off, rfl, hc⟩ := h j x hx
  refine ⟨b, off, rfl, ?_⟩
  rw [hk.cell (World.block_lt_of_cell? w _ hc) (hF (fun e => by rw [e] at hx; simp at hx) ⟨b, off, none⟩ rfl)]
  exact hc
theorem BlAt.take {w : World} {a : Option Addr} {l : List Bool} (h : BlAt w a l) (n : Nat) : BlAt w a (l.take n) := by
  intro j x hx
  rw [List.getElem?_take] at hx
  split at hx
  · exact h j x hx
  · cases hx
theorem BlAt.lt {w : World} {a : Option Addr} {l : List Bool} (h : BlAt w a l) (hne : l ≠ []) : ∀ y, a = some y → y.block < w.heap.size := by
  intro y hy
  obtain ⟨b, off, e, hc⟩ := h 0 (l[0]'(List.length_pos_iff.2 hne)) (List.getElem?_eq_getElem _)
  rw [hy] at e
  cases e
  exact World.block_lt_of_cell? w _ hc
theorem slice_bools (a : Option Addr) (n cap k : Nat) (hk : k ≤ cap) (W : World) : (Instr.sliceAt 59 (.slice a n cap) none (some (.int .i64 (k : Int))) none).run Tryd.prog W = .ok (.slice a k cap) W := by
  have hs : ∀ w, (sizeOf 4).run Tryd.prog w = .ok 1 w := fun _ => by kernel_rfl
  simp [Instr.sliceAt, Instr.slice, Instr.sliceBounds, Instr.sliceBound, asIntOf, run_underlying Tryd.underlying59, hs, hk]
  cases a <;> simp [Addr.add]
end Go.Proofs.YthfeecgpgempdaaDoor

/- Maps of sectors as plain data: which one is the first, where a run begins; no program. -/
namespace Go.Proofs.YthfeecgpgempdaaDoor
set_option linter.unusedVariables false
set_option linter.unusedSimpArgs false
open Go.RowKit Dg

/-- r is the least free one that is not below f; -1: there is none. -/
def IsFirst (m : List Bool) (f r : Int) : Prop := (∃ k : Nat, r = (k : Int) ∧ f ≤ (k : Int) ∧ m[k]? = some false ∧ ∀ j : Nat, f ≤ (j : Int) → j < k → m[j]? ≠ some false) ∨ (r = -1 ∧ ∀ j : Nat, f ≤ (j : Int) → m[j]? ≠ some false)
theorem IsFirst.one {m : List Bool} {f r s : Int} (h : IsFirst m f r) (h2 : IsFirst m f s) : r = s := by
  rcases h with ⟨k, rfl, h1, h3, h4⟩ | ⟨rfl, h1⟩
  · rcases h2 with ⟨l, rfl, g1, g3, g4⟩ | ⟨rfl, g1⟩
    · rcases Nat.lt_trichotomy k l with e | e | e
      · exact absurd h3 (g4 k h1 e)
      · rw [e]
      · exact absurd g3 (h4 l g1 e)
    · exact absurd h3 (g1 k h1)
  · rcases h2 with ⟨l, rfl, g1, g3, g4⟩ | ⟨rfl, g1⟩
    · exact absurd g3 (h1 l g1)
    · rfl
/-- n free ones begin at i, one behind the other. -/
def FreeAt (m : List Bool) (i n : Nat) : Prop := ∀ j, j < n → m[i + j]? = some false
/-- r is the least place at which n free ones begin; -1: there is none (n below 1: -1). -/
def IsRun (m : List Bool) (n r : Int) : Prop := (∃ k l : Nat, n = (l : Int) ∧ 1 ≤ l ∧ r = (k : Int) ∧ FreeAt m k l ∧ ∀ i, i < k → ¬ FreeAt m i l) ∨ (r = -1 ∧ (n < 1 ∨ ∃ l : Nat, n = (l : Int) ∧ ∀ i, ¬ FreeAt m i l))
theorem IsRun.one {m : List Bool} {n r s : Int} (h : IsRun m n r) (h2 : IsRun m n s) : r = s := by
  rcases h with ⟨k, l, rfl, h1, rfl, h3, h4⟩ | ⟨rfl, h1⟩
  · rcases h2 with ⟨k', l', e, g1, rfl, g3, g4⟩ | ⟨rfl, g1⟩
    · obtain rfl : l = l' := by omega
      rcases Nat.lt_trichotomy k k' with e | e | e
      · exact absurd h3 (g4 k e)
      · rw [e]
      · exact absurd g3 (h4 k' e)
    · rcases g1 with g1 | ⟨l', e, g1⟩
      · omega
      · obtain rfl : l = l' := by omega
        exact absurd h3 (g1 k)
  · rcases h2 with ⟨k', l', rfl, g1, rfl, g3, g4⟩ | ⟨rfl, g1⟩
    · rcases h1 with h1 | ⟨l, e, h1⟩
      · omega
      · obtain rfl : l' = l := by omega
        exact absurd g3 (h1 k')
    · rfl
theorem FreeAt.le {m : List Bool} {i n : Nat} (h : FreeAt m i n) (hn : 1 ≤ n) : i + n ≤ m.length := by
  have e := h (n - 1) (by omega)
  have := (List.getElem?_eq_some_iff.1 e).1
  omega
/-- How many of the first j are used. -/
def usedN (m : List Bool) : Nat → Nat
  | 0 => 0
  | j + 1 => usedN m j + (if m[j]? = some true then 1 else 0)
theorem usedN_le (m : List Bool) : ∀ j, usedN m j ≤ j
  | 0 => Nat.le_refl _
  | j + 1 => by
    have := usedN_le m j
    unfold usedN
    split <;> omega

end Go.Proofs.YthfeecgpgempdaaDoor

/- A map's words, as plain numbers: which digits they have; levels; how many ones; where the next one is; no program. -/
namespace Go.Proofs.YthfeecgpgempdaaDoor
set_option linter.unusedVariables false
set_option linter.unusedSimpArgs false
open Go.RowKit Dg

/-- The number with the digits f 0 .. f (n - 1). -/
def numB (f : Nat → Bool) : Nat → Nat
  | 0 => 0
  | n + 1 => 2 ^ n * (f n).toNat + numB f n
theorem numB_lt (f : Nat → Bool) : ∀ n, numB f n < 2 ^ n
  | 0 => Nat.one_pos
  | n + 1 => by
    have h := numB_lt f n
    unfold numB
    rw [Nat.pow_succ]
    cases f n <;> simp [Bool.toNat] <;> omega
theorem numB_bit (f : Nat → Bool) : ∀ n j, j < n → (numB f n).testBit j = f j
  | 0, j, h => absurd h (Nat.not_lt_zero _)
  | n + 1, j, h => by
    have hlt := numB_lt f n
    unfold numB
    cases hf : f n
    · rw [show (false : Bool).toNat = 0 from rfl, Nat.mul_zero, Nat.zero_add]
      rcases Nat.lt_or_ge j n with h1 | h1
      · exact numB_bit f n j h1
      · have e : j = n := by omega
        subst e
        rw [hf, Nat.testBit_lt_two_pow hlt]
    · rw [show (true : Bool).toNat = 1 from rfl, Nat.mul_one]
      rcases Nat.lt_or_ge j n with h1 | h1
      · rw [Nat.testBit_two_pow_add_gt h1]
        exact numB_bit f n j h1
      · have e : j = n := by omega
        subst e
        rw [Nat.testBit_two_pow_add_eq, Nat.testBit_lt_two_pow hlt, hf]; rfl

/-- A place's digit: used, or behind the last one. -/
def dgt (m : List Bool) (i : Nat) : Bool := (m[i]?).getD true
theorem dgt_false {m : List Bool} {i : Nat} : dgt m i = false ↔ m[i]? = some false := by
  unfold dgt
  cases h : m[i]? with
  | none => simp
  | some b => cases b <;> simp
theorem dgt_behind {m : List Bool} {i : Nat} (h : m.length ≤ i) : dgt m i = true := by
  unfold dgt
  rw [List.getElem?_eq_none h]; rfl
theorem dgt_set {m : List Bool} {i : Nat} (h : i < m.length) (b : Bool) (j : Nat) : dgt (m.set i b) j = if i = j then b else dgt m j := by
  unfold dgt
  rw [List.getElem?_set]
  by_cases e : i = j
  · rw [if_pos e, if_pos e]
    rw [if_pos (by omega)]; rfl
  · rw [if_neg e, if_neg e]

/-- The words of a map: a digit a sector, ones behind. -/
structure IsWs (m : List Bool) (l : List Nat) : Prop where
  len : l.length = (m.length + 63) / 64
  lt : ∀ x ∈ l, x < 18446744073709551616
  bit : ∀ k x, l[k]? = some x → ∀ j, j < 64 → x.testBit j = dgt m (64 * k + j)
theorem eq_of_bits64 {x y : Nat} (hx : x < 18446744073709551616) (hy : y < 18446744073709551616) (h : ∀ j, j < 64 → x.testBit j = y.testBit j) : x = y := by
  apply Nat.eq_of_testBit_eq
  intro j
  rcases Nat.lt_or_ge j 64 with h1 | h1
  · exact h j h1
  · have h2 : (18446744073709551616 : Nat) ≤ 2 ^ j := Nat.le_trans (by decide : (18446744073709551616 : Nat) ≤ 2 ^ 64) (Nat.pow_le_pow_right (by decide) h1)
    rw [Nat.testBit_lt_two_pow (Nat.lt_of_lt_of_le hx h2), Nat.testBit_lt_two_pow (Nat.lt_of_lt_of_le hy h2)]
theorem IsWs.one {m : List Bool} {l l' : List Nat} (h : IsWs m l) (h' : IsWs m l') : l = l' := by
  have hl : l.length = l'.length := by rw [h.len, h'.len]
  refine List.ext_getElem? fun k => ?_
  rcases Nat.lt_or_ge k l.length with h1 | h1
  · have e1 := List.getElem?_eq_getElem h1
    have e2 := List.getElem?_eq_getElem (show k < l'.length by omega)
    rw [e1, e2]
    congr 1
    exact eq_of_bits64 (h.lt _ (List.getElem_mem h1)) (h'.lt _ (List.getElem_mem _)) fun j hj => by rw [h.bit k _ e1 j hj, h'.bit k _ e2 j hj]
  · rw [List.getElem?_eq_none h1, List.getElem?_eq_none (by omega)]
/-- Those words. -/
def wsOf (m : List Bool) : List Nat := (List.range ((m.length + 63) / 64)).map fun k => numB (fun j => dgt m (64 * k + j)) 64
theorem length_wsOf (m : List Bool) : (wsOf m).length = (m.length + 63) / 64 := by simp [wsOf]
theorem wsOf_is (m : List Bool) : IsWs m (wsOf m) where
  len := length_wsOf m
  lt := fun x hx => by
    obtain ⟨k, -, rfl⟩ := List.mem_map.1 hx
    exact numB_lt _ 64
  bit := fun k x hx j hj => by
    unfold wsOf at hx
    rw [List.getElem?_map] at hx
    rcases Nat.lt_or_ge k ((m.length + 63) / 64) with h1 | h1
    · rw [List.getElem?_range h1] at hx
      simp only [Option.map_some, Option.some.injEq] at hx
      subst hx
      exact numB_bit _ 64 j hj
    · rw [List.getElem?_eq_none (by simp; exact h1)] at hx
      cases hx
theorem IsWs.of {m : List Bool} {l : List Nat} (h : IsWs m l) : l = wsOf m := h.one (wsOf_is m)
theorem wsOf_nil : wsOf [] = [] := rfl

/-- 2^64 - 1, moved up by r. -/
theorem full_bit (r j : Nat) (hr : r < 64) (hj : j < 64) : (18446744073709551616 - 2 ^ r).testBit j = decide (r ≤ j) := by
  have h2 : 2 ^ r < 2 ^ 64 := Nat.pow_lt_pow_right (by decide) hr
  have h1 : 1 ≤ 2 ^ r := Nat.one_le_two_pow
  have e : 18446744073709551616 - 2 ^ r = 2 ^ 64 - ((2 ^ r - 1) + 1) := by omega
  rw [e, Nat.testBit_two_pow_sub_succ (by omega), Nat.testBit_two_pow_sub_one]
  by_cases h : r ≤ j
  · simp [hj, h]
  · simp [hj, h]; omega
theorem shl_full (r : Nat) (hr : r < 64) : 18446744073709551615 * 2 ^ r % 18446744073709551616 = 18446744073709551616 - 2 ^ r := by
  have h2 : 2 ^ r < 2 ^ 64 := Nat.pow_lt_pow_right (by decide) hr
  have h1 : 1 ≤ 2 ^ r := Nat.one_le_two_pow
  have e : 18446744073709551615 * 2 ^ r = 18446744073709551616 * (2 ^ r - 1) + (18446744073709551616 - 2 ^ r) := by omega
  rw [e, Nat.mul_add_mod]
  exact Nat.mod_eq_of_lt (by omega)
/-- Words with n noughts, and ones behind them. -/
def noughtsL (n : Nat) : List Nat := if n % 64 = 0 then List.replicate ((n + 63) / 64) 0 else (List.replicate ((n + 63) / 64) 0).set ((n + 63) / 64 - 1) (18446744073709551616 - 2 ^ (n % 64))
theorem noughts_is (n : Nat) : IsWs (List.replicate n false) (noughtsL n) where
  len := by unfold noughtsL; split <;> simp
  lt := fun x hx => by
    unfold noughtsL at hx
    have h1 : 1 ≤ 2 ^ (n % 64) := Nat.one_le_two_pow
    split at hx
    · have := (List.mem_replicate.1 hx).2; omega
    · rcases List.mem_or_eq_of_mem_set hx with h | h
      · have := (List.mem_replicate.1 h).2; omega
      · omega
  bit := fun k x hx j hj => by
    have hd : dgt (List.replicate n false) (64 * k + j) = decide (n ≤ 64 * k + j) := by
      unfold dgt
      rw [List.getElem?_replicate]
      by_cases h : 64 * k + j < n
      · rw [if_pos h, decide_eq_false (by omega)]; rfl
      · rw [if_neg h, decide_eq_true (by omega)]; rfl
    rw [hd]
    unfold noughtsL at hx
    split at hx
    · rename_i h0
      rw [List.getElem?_replicate] at hx
      split at hx
      · cases hx
        rw [Nat.zero_testBit, decide_eq_false (by omega)]
      · cases hx
    · rename_i h0
      rw [List.getElem?_set, List.length_replicate, List.getElem?_replicate] at hx
      split at hx
      · rename_i h1
        split at hx
        · cases hx
          rw [full_bit _ _ (by omega) hj]
          congr 1
          rw [eq_iff_iff]
          omega
        · cases hx
      · split at hx
        · cases hx
          rw [Nat.zero_testBit, decide_eq_false (by omega)]
        · cases hx
/-- A sector turned. -/
theorem IsWs.turn {m : List Bool} {l : List Nat} (h : IsWs m l) {i : Nat} {b : Bool} (hi : m[i]? = some b) {x : Nat} (hx : l[i / 64]? = some x) : IsWs (m.set i (!b)) (l.set (i / 64) (x ^^^ 2 ^ (i % 64))) where
  len := by rw [List.length_set, List.length_set]; exact h.len
  lt := fun y hy => by
    rcases List.mem_or_eq_of_mem_set hy with h1 | h1
    · exact h.lt y h1
    · rw [h1]
      exact Nat.xor_lt_two_pow (n := 64) (h.lt x (List.mem_of_getElem? hx)) (Nat.pow_lt_pow_right (by decide) (by omega))
  bit := fun k y hy j hj => by
    have hil := (List.getElem?_eq_some_iff.1 hi).1
    rw [dgt_set hil]
    rw [List.getElem?_set] at hy
    split at hy
    · rename_i e
      split at hy
      · cases hy
        subst e
        rw [Nat.testBit_xor, h.bit _ _ hx j hj, Nat.testBit_two_pow]
        by_cases e2 : i % 64 = j
        · have e3 : i = 64 * (i / 64) + j := by omega
          rw [if_pos e3, ← e3]
          unfold dgt
          rw [hi]
          simp [e2]
        · rw [if_neg (by omega)]
          simp [e2]
      · cases hy
    · rename_i e
      rw [if_neg (by omega)]
      exact h.bit k y hy j hj

/-- Which words are full. -/
def upB (l : List Nat) : List Bool := l.map fun x => decide (x = 18446744073709551615)
@[simp] theorem length_upB (l : List Nat) : (upB l).length = l.length := by simp [upB]
theorem upB_get (l : List Nat) (k : Nat) : (upB l)[k]? = l[k]?.map fun x => decide (x = 18446744073709551615) := by simp [upB]
/-- Level k: none (no words) behind the one that has one word. -/
def lvlOf : Nat → List Bool → List Nat
  | 0, m => wsOf m
  | k + 1, m => if (wsOf m).length = 1 then [] else lvlOf k (upB (wsOf m))
/-- Level k of any number. -/
def lvlZ (k : Int) (m : List Bool) : List Nat := if k < 0 then [] else lvlOf k.toNat m
theorem lvlOf_next : ∀ (k : Nat) (m : List Bool), 1 < (lvlOf k m).length → lvlOf (k + 1) m = wsOf (upB (lvlOf k m))
  | 0, m, h => by
    show (if (wsOf m).length = 1 then [] else lvlOf 0 (upB (wsOf m))) = _
    have : (wsOf m).length ≠ 1 := by have : 1 < (wsOf m).length := h; omega
    rw [if_neg this]; rfl
  | k + 1, m, h => by
    have h0 : (wsOf m).length ≠ 1 := fun e => by
      have : lvlOf (k + 1) m = [] := by show (if _ then _ else _) = _; rw [if_pos e]
      rw [this] at h
      exact absurd h (by decide)
    have e1 : lvlOf (k + 1) m = lvlOf k (upB (wsOf m)) := by show (if _ then _ else _) = _; rw [if_neg h0]
    have e2 : lvlOf (k + 1 + 1) m = lvlOf (k + 1) (upB (wsOf m)) := by show (if _ then _ else _) = _; rw [if_neg h0]
    rw [e1] at h
    rw [e2, lvlOf_next k _ h, e1]

/-- How many of f 0 .. f (n - 1) are ones. -/
def cntB (f : Nat → Bool) : Nat → Nat
  | 0 => 0
  | n + 1 => cntB f n + (f n).toNat
theorem cntB_congr {f g : Nat → Bool} : ∀ n, (∀ j, j < n → f j = g j) → cntB f n = cntB g n
  | 0, _ => rfl
  | n + 1, h => by unfold cntB; rw [cntB_congr n fun j hj => h j (by omega), h n (by omega)]
theorem cntB_add (f : Nat → Bool) (a : Nat) : ∀ n, cntB f (a + n) = cntB f a + cntB (fun j => f (a + j)) n
  | 0 => rfl
  | n + 1 => by
    show cntB f (a + n) + _ = _
    rw [cntB_add f a n]
    show _ + (f (a + n)).toNat = cntB f a + (cntB (fun j => f (a + j)) n + (f (a + n)).toNat)
    omega
theorem cntB_le (f : Nat → Bool) : ∀ n, cntB f n ≤ n
  | 0 => Nat.le_refl _
  | n + 1 => by unfold cntB; have := cntB_le f n; cases f n <;> simp [Bool.toNat] <;> omega
theorem cntB_used (m : List Bool) : ∀ j, j ≤ m.length → cntB (dgt m) j = usedN m j
  | 0, _ => rfl
  | j + 1, h => by
    unfold cntB usedN
    rw [cntB_used m j (by omega)]
    unfold dgt
    rw [List.getElem?_eq_getElem (by omega)]
    cases m[j] <;> rfl
theorem cntB_behind (m : List Bool) : ∀ d, cntB (dgt m) (m.length + d) = usedN m m.length + d
  | 0 => cntB_used m _ (Nat.le_refl _)
  | d + 1 => by
    show cntB (dgt m) (m.length + d) + _ = _
    have e : dgt m (m.length.add d) = true := dgt_behind (Nat.le_add_right _ _)
    rw [cntB_behind m d, e]
    rfl
/-- How many ones a word has. -/
def popN (x : Nat) : Nat := cntB x.testBit 64
theorem popN_le (x : Nat) : popN x ≤ 64 := cntB_le _ _
/-- Of the first k words. -/
def popL (l : List Nat) : Nat → Nat
  | 0 => 0
  | k + 1 => popL l k + popN (l.getD k 0)
theorem popL_is {m : List Bool} {l : List Nat} (h : IsWs m l) : ∀ k, k ≤ l.length → popL l k = cntB (dgt m) (64 * k)
  | 0, _ => rfl
  | k + 1, hk => by
    have e := List.getElem?_eq_getElem (show k < l.length by omega)
    unfold popL
    rw [popL_is h k (by omega), Nat.mul_succ, cntB_add, List.getD_eq_getElem?_getD, e]
    congr 1
    exact cntB_congr 64 fun j hj => h.bit k _ e j hj
theorem popL_all {m : List Bool} {l : List Nat} (h : IsWs m l) : popL l l.length + m.length = usedN m m.length + 64 * l.length := by
  have hl := h.len
  rw [popL_is h _ (Nat.le_refl _)]
  have := cntB_behind m (64 * l.length - m.length)
  rw [show m.length + (64 * l.length - m.length) = 64 * l.length by omega] at this
  omega

/-- r is the least place, from f on, whose digit is u; N, if there is none below it. -/
def IsSeek (m : List Bool) (N f : Nat) (u : Bool) (r : Nat) : Prop := (f ≤ r ∧ r < N ∧ dgt m r = u ∨ r = N) ∧ ∀ j, f ≤ j → j < r → j < N → dgt m j ≠ u
theorem IsSeek.first {m : List Bool} {N f r : Nat} (h : IsSeek m N f false r) (hN : m.length ≤ N) : IsFirst m (f : Int) (if r < m.length then (r : Int) else -1) := by
  obtain ⟨h1, h2⟩ := h
  split
  · rename_i h3
    refine .inl ⟨r, rfl, ?_, ?_, fun j g1 g2 => ?_⟩
    · rcases h1 with h1 | h1 <;> omega
    · rcases h1 with h1 | h1
      · exact dgt_false.1 h1.2.2
      · omega
    · exact fun e => h2 j (by omega) g2 (by omega) (dgt_false.2 e)
  · rename_i h3
    refine .inr ⟨rfl, fun j g1 e => ?_⟩
    have := (List.getElem?_eq_some_iff.1 e).1
    exact h2 j (by omega) (by omega) (by omega) (dgt_false.2 e)
/-- The free ones from a up to e, and none at e. -/
theorem IsSeek.run {m : List Bool} {N a e : Nat} (h : IsSeek m N a true e) (hN : m.length ≤ N) (ha : a < N) (h0 : m[a]? = some false) : a < e ∧ e ≤ N ∧ (∀ j, a ≤ j → j < e → m[j]? = some false) ∧ m[e]? ≠ some false := by
  obtain ⟨h1, h2⟩ := h
  have hae : a ≤ e := by rcases h1 with h1 | h1 <;> omega
  have hne : a ≠ e := fun e' => by
    rcases h1 with h1 | h1
    · rw [← e', dgt_false.2 h0] at h1; exact absurd h1.2.2 (by decide)
    · omega
  refine ⟨by omega, by rcases h1 with h1 | h1 <;> omega, fun j g1 g2 => ?_, fun g => ?_⟩
  · have h3 := h2 j g1 g2 (by rcases h1 with h1 | h1 <;> omega)
    exact dgt_false.1 (by cases hd : dgt m j; rfl; exact absurd hd h3)
  · rcases h1 with h1 | h1
    · rw [dgt_false.2 g] at h1; exact absurd h1.2.2 (by decide)
    · have := (List.getElem?_eq_some_iff.1 g).1; omega

end Go.Proofs.YthfeecgpgempdaaDoor

/- How many ones a word has, by sums of neighbours: bytes beside each other, each for itself; no program. -/
namespace Go.Proofs.YthfeecgpgempdaaDoor
set_option linter.unusedVariables false
set_option linter.unusedSimpArgs false
open Go.RowKit Dg

/-- f of each byte. -/
def by8 (f : Nat → Nat) : Nat → Nat → Nat
  | 0, _ => 0
  | n + 1, x => f (x % 256) + 256 * by8 f n (x / 256)
/-- The byte c, n times. -/
def rep8 (c : Nat) : Nat → Nat
  | 0 => 0
  | n + 1 => c + 256 * rep8 c n
theorem and_split (u v : Nat) : u &&& v = (u % 256 &&& v % 256) + 256 * (u / 256 &&& v / 256) := by
  have h1 := Nat.and_mod_two_pow (a := u) (b := v) (n := 8)
  have h2 := Nat.and_div_two_pow (a := u) (b := v) (n := 8)
  simp only [show (2 : Nat) ^ 8 = 256 from rfl] at h1 h2
  rw [← h1, ← h2]
  omega
theorem rep8_mod (c n : Nat) (h : c < 256) : rep8 c (n + 1) % 256 = c ∧ rep8 c (n + 1) / 256 = rep8 c n := by
  show (c + 256 * rep8 c n) % 256 = c ∧ (c + 256 * rep8 c n) / 256 = rep8 c n
  omega
def sA (a : Nat) : Nat := (a / 2 &&& 85) + (a &&& 85)
def sB (a : Nat) : Nat := (a / 4 &&& 51) + (a &&& 51)
def sC (a : Nat) : Nat := (a / 16 + a) &&& 15
def sT (a : Nat) : Nat := sC (sB (sA a))
theorem sA_lt : ∀ a, a < 256 → sA a < 256 := by decide +kernel
theorem sB_lt : ∀ a, a < 256 → sB (sA a) < 256 ∧ sB (sA a) % 16 ≤ 4 ∧ sB (sA a) / 16 ≤ 4 := by decide +kernel
theorem sT_is : ∀ a, a < 256 → sT a = cntB a.testBit 8 := by decide +kernel
theorem halfA : ∀ a, a < 256 → ∀ c, c < 2 → (a / 2 + 128 * c) &&& 85 = a / 2 &&& 85 := by decide +kernel
theorem halfB : ∀ a, a < 256 → ∀ c, c < 4 → (a / 4 + 64 * c) &&& 51 = a / 4 &&& 51 := by decide +kernel
theorem stepA : ∀ n x, (x / 2 &&& rep8 85 n) + (x &&& rep8 85 n) = by8 sA n x
  | 0, x => by simp [rep8, by8]
  | n + 1, x => by
    obtain ⟨e1, e2⟩ := rep8_mod 85 n (by decide)
    rw [and_split (x / 2), and_split x, e1, e2]
    unfold by8
    have h1 := stepA n (x / 256)
    have h2 := halfA (x % 256) (by omega) (x / 256 % 2) (by omega)
    have h3 : x / 2 % 256 = x % 256 / 2 + 128 * (x / 256 % 2) := by omega
    have h4 : x / 2 / 256 = x / 256 / 2 := by omega
    rw [h3, h4, h2, ← h1]
    unfold sA
    omega
theorem stepB' : ∀ n x, (x / 4 &&& rep8 51 n) + (x &&& rep8 51 n) = by8 sB n x
  | 0, x => by simp [rep8, by8]
  | n + 1, x => by
    obtain ⟨e1, e2⟩ := rep8_mod 51 n (by decide)
    rw [and_split (x / 4), and_split x, e1, e2]
    unfold by8
    have h1 := stepB' n (x / 256)
    have h2 := halfB (x % 256) (by omega) (x / 256 % 4) (by omega)
    have h3 : x / 4 % 256 = x % 256 / 4 + 64 * (x / 256 % 4) := by omega
    have h4 : x / 4 / 256 = x / 256 / 4 := by omega
    rw [h3, h4, h2, ← h1]
    unfold sB
    omega
/-- No nibble of it is over 4. -/
def Low4 : Nat → Nat → Prop
  | 0, _ => True
  | n + 1, x => x % 256 % 16 ≤ 4 ∧ x % 256 / 16 ≤ 4 ∧ Low4 n (x / 256)
theorem low4_ff {n x : Nat} (h : Low4 (n + 1) x) : x % 16 ≤ 4 := by have := h.1; omega
theorem and15 (u : Nat) : u &&& 15 = u % 16 := by rw [show (15 : Nat) = 2 ^ 4 - 1 from rfl, Nat.and_two_pow_sub_one_eq_mod]
theorem stepC : ∀ n x, Low4 n x → (0 < n → x / 256 ^ n = 0) → (x / 16 + x) &&& rep8 15 n = by8 sC n x
  | 0, x, _, _ => by simp [rep8, by8]
  | n + 1, x, h, hx => by
    obtain ⟨e1, e2⟩ := rep8_mod 15 n (by decide)
    obtain ⟨g1, g2, g3⟩ := h
    rw [and_split, e1, e2]
    unfold by8 sC
    have hlow : x / 256 % 16 ≤ 4 := by
      cases n with
      | zero =>
        have := hx (by decide)
        rw [Nat.pow_succ, Nat.pow_zero, Nat.one_mul] at this
        omega
      | succ n => exact low4_ff g3
    have hx' : 0 < n → x / 256 / 256 ^ n = 0 := fun _ => by
      rw [Nat.div_div_eq_div_mul, Nat.mul_comm, ← Nat.pow_succ]
      exact hx (by omega)
    have h1 := stepC n (x / 256) g3 hx'
    have h3 : (x / 16 + x) % 256 = x % 256 / 16 + x % 256 + 16 * (x / 256 % 16) := by omega
    have h4 : (x / 16 + x) / 256 = x / 256 / 16 + x / 256 := by omega
    rw [h3, h4, h1, and15, and15]
    congr 1
    omega
theorem by8_mod (f : Nat → Nat) (n x : Nat) (h : f (x % 256) < 256) : by8 f (n + 1) x % 256 = f (x % 256) ∧ by8 f (n + 1) x / 256 = by8 f n (x / 256) := by
  show (f (x % 256) + 256 * by8 f n (x / 256)) % 256 = _ ∧ (f (x % 256) + 256 * by8 f n (x / 256)) / 256 = _
  omega
theorem by8_comp (f g : Nat → Nat) (h : ∀ a, a < 256 → f a < 256) : ∀ n x, by8 g n (by8 f n x) = by8 (fun a => g (f a)) n x
  | 0, x => rfl
  | n + 1, x => by
    obtain ⟨e1, e2⟩ := by8_mod f n x (h _ (Nat.mod_lt _ (by decide)))
    conv => lhs; unfold by8
    rw [e1, e2, by8_comp f g h n]
    rfl
theorem by8_lt (f : Nat → Nat) (h : ∀ a, a < 256 → f a < 256) : ∀ n x, by8 f n x < 256 ^ n
  | 0, x => Nat.one_pos
  | n + 1, x => by
    have h1 := by8_lt f h n (x / 256)
    have h2 := h (x % 256) (Nat.mod_lt _ (by decide))
    rw [Nat.pow_succ]
    unfold by8
    omega
theorem low4_by8 (f : Nat → Nat) (h : ∀ a, a < 256 → f a < 256 ∧ f a % 16 ≤ 4 ∧ f a / 16 ≤ 4) : ∀ n x, Low4 n (by8 f n x)
  | 0, x => trivial
  | n + 1, x => by
    have h1 := h (x % 256) (Nat.mod_lt _ (by decide))
    obtain ⟨e1, e2⟩ := by8_mod f n x h1.1
    show _ ∧ _ ∧ Low4 n _
    rw [e1, e2]
    exact ⟨h1.2.1, h1.2.2, low4_by8 f h n _⟩
/-- The sum over the bytes. -/
def sum8 (f : Nat → Nat) : Nat → Nat → Nat
  | 0, _ => 0
  | n + 1, x => f (x % 256) + sum8 f n (x / 256)
theorem sum8_cnt : ∀ n x, sum8 sT n x = cntB x.testBit (8 * n)
  | 0, x => rfl
  | n + 1, x => by
    unfold sum8
    rw [sT_is _ (Nat.mod_lt _ (by decide)), sum8_cnt n, Nat.mul_succ, Nat.add_comm (8 * n), cntB_add]
    congr 1
    · refine cntB_congr 8 fun j hj => ?_
      rw [show (256 : Nat) = 2 ^ 8 from rfl, Nat.testBit_mod_two_pow]
      simp [hj]
    · refine cntB_congr _ fun j hj => ?_
      rw [show (256 : Nat) = 2 ^ 8 from rfl, Nat.testBit_div_two_pow, Nat.add_comm]
/-- The steps of a word. -/
def pA (x : Nat) : Nat := (x / 2 &&& 6148914691236517205) + (x &&& 6148914691236517205)
def pB (x : Nat) : Nat := (x / 4 &&& 3689348814741910323) + (x &&& 3689348814741910323)
def pC (x : Nat) : Nat := (x / 16 + x) &&& 1085102592571150095
def pD (x : Nat) : Nat := x + x / 256
def pE (x : Nat) : Nat := x + x / 65536
def pF (x : Nat) : Nat := x + x / 4294967296
theorem pA_is (x : Nat) : pA x = by8 sA 8 x := by rw [← stepA 8 x, show rep8 85 8 = 6148914691236517205 from by decide]; rfl
theorem pB_is (x : Nat) : pB (pA x) = by8 (fun a => sB (sA a)) 8 x := by
  rw [pA_is, ← by8_comp sA sB sA_lt, ← stepB' 8, show rep8 51 8 = 3689348814741910323 from by decide]; rfl
theorem pC_is (x : Nat) : pC (pB (pA x)) = by8 sT 8 x := by
  rw [pB_is]
  have h1 := by8_comp (fun a => sB (sA a)) sC (fun a h => (sB_lt a h).1) 8 x
  show _ = by8 (fun a => sC (sB (sA a))) 8 x
  rw [← h1, ← stepC 8 _ (low4_by8 _ sB_lt 8 x) (fun _ => Nat.div_eq_of_lt (by8_lt _ (fun a h => (sB_lt a h).1) 8 x)), show rep8 15 8 = 1085102592571150095 from by decide]
  rfl
theorem sT_le : ∀ a, a < 256 → sT a ≤ 8 := fun a h => by rw [sT_is a h]; exact cntB_le _ _
theorem pop_bounds (x : Nat) : pA x < 18446744073709551616 ∧ pB (pA x) < 18446744073709551616 ∧ pC (pB (pA x)) < 18446744073709551616 := by
  refine ⟨?_, ?_, ?_⟩
  · rw [pA_is]; exact by8_lt sA sA_lt 8 x
  · rw [pB_is]; exact by8_lt _ (fun a h => (sB_lt a h).1) 8 x
  · rw [pC_is]; exact by8_lt _ (fun a h => Nat.lt_of_le_of_lt (sT_le a h) (by decide)) 8 x
theorem pop_end (x : Nat) (hx : x < 18446744073709551616) : pD (pC (pB (pA x))) < 18446744073709551616 ∧ pE (pD (pC (pB (pA x)))) < 18446744073709551616 ∧ pF (pE (pD (pC (pB (pA x))))) < 4611686018427387904 ∧ pF (pE (pD (pC (pB (pA x))))) % 128 = popN x := by
  have hs : popN x = sum8 sT 8 x := (sum8_cnt 8 x).symm
  rw [hs, pC_is]
  have T : ∀ y : Nat, ∃ t, t = sT (y % 256) ∧ t ≤ 8 := fun y => ⟨_, rfl, sT_le _ (Nat.mod_lt _ (by decide))⟩
  simp only [by8, sum8]
  obtain ⟨t0, e0, l0⟩ := T x
  obtain ⟨t1, e1, l1⟩ := T (x / 256)
  obtain ⟨t2, e2, l2⟩ := T (x / 256 / 256)
  obtain ⟨t3, e3, l3⟩ := T (x / 256 / 256 / 256)
  obtain ⟨t4, e4, l4⟩ := T (x / 256 / 256 / 256 / 256)
  obtain ⟨t5, e5, l5⟩ := T (x / 256 / 256 / 256 / 256 / 256)
  obtain ⟨t6, e6, l6⟩ := T (x / 256 / 256 / 256 / 256 / 256 / 256)
  obtain ⟨t7, e7, l7⟩ := T (x / 256 / 256 / 256 / 256 / 256 / 256 / 256)
  rw [← e0, ← e1, ← e2, ← e3, ← e4, ← e5, ← e6, ← e7]
  clear e0 e1 e2 e3 e4 e5 e6 e7 T hs
  obtain ⟨y, hy⟩ : ∃ y, y = t0 + 256 * (t1 + 256 * (t2 + 256 * (t3 + 256 * (t4 + 256 * (t5 + 256 * (t6 + 256 * (t7 + 256 * 0))))))) := ⟨_, rfl⟩
  rw [← hy]
  have d1 : pD y = (t0 + t1) + 256 * ((t1 + t2) + 256 * ((t2 + t3) + 256 * ((t3 + t4) + 256 * ((t4 + t5) + 256 * ((t5 + t6) + 256 * ((t6 + t7) + 256 * t7)))))) := by unfold pD; omega
  obtain ⟨z, hz⟩ : ∃ z, z = pD y := ⟨_, rfl⟩
  rw [← hz] at d1 ⊢
  have d2 : pE z = (t0 + t1 + t2 + t3) + 256 * ((t1 + t2 + t3 + t4) + 256 * ((t2 + t3 + t4 + t5) + 256 * ((t3 + t4 + t5 + t6) + 256 * ((t4 + t5 + t6 + t7) + 256 * ((t5 + t6 + t7) + 256 * ((t6 + t7) + 256 * t7)))))) := by unfold pE; omega
  obtain ⟨u, hu⟩ : ∃ u, u = pE z := ⟨_, rfl⟩
  rw [← hu] at d2 ⊢
  have d3 : u / 4294967296 = (t4 + t5 + t6 + t7) + 256 * ((t5 + t6 + t7) + 256 * ((t6 + t7) + 256 * t7)) := by omega
  unfold pF
  rw [d3]
  refine ⟨by omega, by omega, by omega, by omega⟩

end Go.Proofs.YthfeecgpgempdaaDoor

/- Rows of bools and of words of the call's own. -/
namespace Go.Proofs.YthfeecgpgempdaaDoor
set_option linter.unusedVariables false
set_option linter.unusedSimpArgs false
open Go.RowKit Dg

def bls (m : List Bool) : List Value := m.map fun b => Value.bool b
@[simp] theorem length_bls (m : List Bool) : (bls m).length = m.length := by simp [bls]
theorem bls_get (m : List Bool) (k : Nat) : (bls m)[k]? = m[k]?.map fun b => Value.bool b := by simp [bls]
theorem bls_set (m : List Bool) (k : Nat) (b : Bool) : bls (m.set k b) = (bls m).set k (.bool b) := by simp [bls]
/-- A row of bools of the call's own. -/
def OwnBls (w : World) (base : Nat) (v : Value) (m : List Bool) : Prop := w.ownsRow base 4 1 v m.length (bls m)
theorem OwnBls.nil (w : World) (base : Nat) : OwnBls w base (.slice none 0 0) [] := World.ownsRow_nil _ _ _ _
theorem bl_own_cell {w : World} {base g n c : Nat} {m : List Bool} {j : Nat} {x : Bool} (h : w.ownsRow base 4 1 (.slice (some ⟨g, 0, none⟩) n c) n (bls m)) (hx : m[j]? = some x) :
    w.cell? ⟨g, j, none⟩ = some (.bool x) ∧ w.frozen? ⟨g, j, none⟩ = false := by
  have hl : m.length = n := by have := h.1; simpa using this
  have hj : j < m.length := (List.getElem?_eq_some_iff.1 hx).1
  rcases h.2 with ⟨e1, _⟩ | ⟨g', cap', cur, hv, hgb, hh, hncap, _, hcs, htake⟩
  · cases e1
  · cases hv
    refine ⟨?_, by simp [World.frozen?, hh]⟩
    have e : (bls m)[j]? = some (.bool x) := by rw [bls_get, hx]; rfl
    rw [← htake, List.getElem?_take, if_pos (by omega)] at e
    simp only [World.cell?, hh]
    simpa using e
theorem OwnBls.slice {w : World} {base : Nat} {v : Value} {m : List Bool} (h : OwnBls w base v m) : ∃ a cap, v = .slice a m.length cap ∧ BlAt w a m ∧ (a = none ∧ m = [] ∧ cap = 0 ∨ ∃ g, a = some ⟨g, 0, none⟩ ∧ base ≤ g ∧ g < w.heap.size) := by
  have h' := h
  rcases h.2 with ⟨rfl, hn⟩ | ⟨g, cap, cur, rfl, hb, hh, hn, _, hcs, htake⟩
  · have : m = [] := List.eq_nil_of_length_eq_zero hn
    subst this
    exact ⟨none, 0, rfl, BlAt.nil w _, .inl ⟨rfl, rfl, rfl⟩⟩
  · refine ⟨some ⟨g, 0, none⟩, cap, rfl, fun j x hx => ⟨g, 0, rfl, ?_⟩, .inr ⟨g, rfl, hb, (Array.getElem?_eq_some_iff.1 hh).1⟩⟩
    rw [Nat.zero_add]
    exact (bl_own_cell h' hx).1
theorem made_bls (n : Nat) : (madeCells (Value.bool false).cells (n * 1)).toList = bls (List.replicate n false) := by
  apply List.ext_getElem?
  intro k
  by_cases hk : k < n
  · simp [madeCells, bls, hk, Value.cells, Nat.mod_one]
  · rw [List.getElem?_eq_none (by simp [madeCells]; omega), List.getElem?_eq_none (by simp; omega)]
theorem bl_own_new (w : World) (base : Nat) (Z : Array Value) (N : Nat) (m : List Bool) (hZ : Z.toList = bls m) (hl : m.length = N) (hN : N ≤ 1000000) (hb : base ≤ w.heap.size) :
    (w.alloc (.cells Z 4)).ownsRow base 4 1 (.slice (some ⟨w.heap.size, 0, none⟩) N N) N (bls m) := by
  have hs : Z.size = N := by have := congrArg List.length hZ; simpa [hl] using this
  refine ⟨by simp [hl], .inr ⟨w.heap.size, N, Z, rfl, hb, heap_alloc_new w _, Nat.le_refl _, by unfold maxLen; omega, by omega, ?_⟩⟩
  rw [hZ]; exact List.take_of_length_le (by simp [hl])

def w64s (l : List Nat) : List Value := l.map fun x : Nat => Value.int .u64 (x : Int)
@[simp] theorem length_w64s (l : List Nat) : (w64s l).length = l.length := by simp [w64s]
theorem w64s_get (l : List Nat) (k : Nat) : (w64s l)[k]? = l[k]?.map fun x : Nat => Value.int .u64 (x : Int) := by simp [w64s]
/-- A row of words of the call's own. -/
def OwnWs (w : World) (base : Nat) (v : Value) (l : List Nat) : Prop := w.ownsRow base 77 1 v l.length (w64s l)
theorem OwnWs.nil (w : World) (base : Nat) : OwnWs w base (.slice none 0 0) [] := World.ownsRow_nil _ _ _ _
/-- Words that can be read. -/
def WsAt (w : World) (a : Option Addr) (l : List Nat) : Prop := ∀ j x, l[j]? = some x → ∃ b off, a = some ⟨b, off, none⟩ ∧ w.cell? ⟨b, off + j, none⟩ = some (.int .u64 ((x : Nat) : Int))
theorem OwnWs.slice {w : World} {base : Nat} {v : Value} {l : List Nat} (h : OwnWs w base v l) : ∃ a cap, v = .slice a l.length cap ∧ WsAt w a l ∧ (a = none ∧ l = [] ∧ cap = 0 ∨ ∃ g, a = some ⟨g, 0, none⟩ ∧ base ≤ g ∧ g < w.heap.size) := by
  rcases h.2 with ⟨rfl, hn⟩ | ⟨g, cap, cur, rfl, hb, hh, hn, _, hcs, htake⟩
  · have : l = [] := List.eq_nil_of_length_eq_zero hn
    subst this
    exact ⟨none, 0, rfl, fun j x h => by simp at h, .inl ⟨rfl, rfl, rfl⟩⟩
  · refine ⟨some ⟨g, 0, none⟩, cap, rfl, fun j x hx => ⟨g, 0, rfl, ?_⟩, .inr ⟨g, rfl, hb, (Array.getElem?_eq_some_iff.1 hh).1⟩⟩
    rw [Nat.zero_add]
    have hj : j < l.length := (List.getElem?_eq_some_iff.1 hx).1
    have e : (w64s l)[j]? = some (.int .u64 (x : Int)) := by rw [w64s_get, hx]; rfl
    rw [← htake, List.getElem?_take, if_pos (by omega)] at e
    simp only [World.cell?, hh]
    simpa using e
/-- 'append(out, w)' of one word that was just built. -/
theorem wpList_append_w64 {P : Program} (w0 : World) {ops : Array Oper} {rest : List Oper} {o : Oper} {a : Act} {Q : Exit → Act → World → Prop}
    (hgd : o.guard = none) (s x : Operand) (t : TypeId) (ho : o.op = .call { callee := .builtin .append, args := #[s, x], argTypes := #[t, t] })
    (base : Nat) (i : TypeInfo) (ht : P.underlying t = some (.slice 77)) (hi : P.info? 77 = some i) (hz : i.zero = some (.int .u64 0)) (hsize : i.size = 1) (hby : i.bytes = 8)
    (v : Value) (l : List Nat) (hs : a.eval s = v) (hown : OwnWs w0 base v l) (y : Nat) (hx : a.eval x = .slice (some ⟨w0.heap.size, 0, none⟩) 1 1)
    (hl : l.length ≤ 1000000) (hbase : base ≤ w0.heap.size)
    (h : ∀ v' w', Hid (OwnWs w' base v' (l ++ [y])) → Hid (Below base w0 w') → wpList P ops Q rest (a.put o.dst v') w') : wpList P ops Q (o :: rest) a (w0.alloc (.cells #[.int .u64 (y : Int)] 77)) := by
  refine wpList_append_mine _ hgd s x t ho base 77 i (.int .u64 0) 1 8 ht hi hz hsize hby rfl (by decide) v l.length (w64s l) hs (World.ownsRow.alloc hown _) ⟨w0.heap.size, 0, none⟩ 1 1 [.int .u64 (y : Int)] hx rfl ?c1 ?c2 (by decide) ?b1 ?b2 ?b3 ?_
  case c1 => intro j u hj; match j, hj with | 0, hj => simp at hj; subst hj; simp [Addr.add]
  case c2 => intro u hu; simp at hu; subst hu; rfl
  case b1 => unfold maxLen; omega
  case b2 => omega
  case b3 => simp; omega
  intro g cap w' H1 HG HN
  refine h _ w' ?_ ?_
  · show World.ownsRow _ _ _ _ _ _ _
    have := H1.out
    simpa [w64s] using this
  · exact ((Below.refl base w0).alloc hbase _).grown HG.out (by simp; omega) (fun k hk => (World.ownsRow.lt hown k hk).1)
/-- 'append(row, b)' of one bool that was just built. -/
theorem wpList_append_bl {P : Program} (w0 : World) {ops : Array Oper} {rest : List Oper} {o : Oper} {a : Act} {Q : Exit → Act → World → Prop}
    (hgd : o.guard = none) (s x : Operand) (t : TypeId) (ho : o.op = .call { callee := .builtin .append, args := #[s, x], argTypes := #[t, t] })
    (base : Nat) (i : TypeInfo) (ht : P.underlying t = some (.slice 4)) (hi : P.info? 4 = some i) (hz : i.zero = some (.bool false)) (hsize : i.size = 1) (hby : i.bytes = 1)
    (v : Value) (l : List Bool) (hs : a.eval s = v) (hown : OwnBls w0 base v l) (y : Bool) (hx : a.eval x = .slice (some ⟨w0.heap.size, 0, none⟩) 1 1)
    (hl : l.length ≤ 1000000) (hbase : base ≤ w0.heap.size)
    (h : ∀ v' w', Hid (OwnBls w' base v' (l ++ [y])) → Hid (Below base w0 w') → wpList P ops Q rest (a.put o.dst v') w') : wpList P ops Q (o :: rest) a (w0.alloc (.cells #[.bool y] 4)) := by
  refine wpList_append_mine _ hgd s x t ho base 4 i (.bool false) 1 1 ht hi hz hsize hby rfl (by decide) v l.length (bls l) hs (World.ownsRow.alloc hown _) ⟨w0.heap.size, 0, none⟩ 1 1 [.bool y] hx rfl ?c1 ?c2 (by decide) ?b1 ?b2 ?b3 ?_
  case c1 => intro j u hj; match j, hj with | 0, hj => simp at hj; subst hj; simp [Addr.add]
  case c2 => intro u hu; simp at hu; subst hu; rfl
  case b1 => unfold maxLen; omega
  case b2 => omega
  case b3 => simp; omega
  intro g cap w' H1 HG HN
  refine h _ w' ?_ ?_
  · show World.ownsRow _ _ _ _ _ _ _
    have := H1.out
    simpa [bls] using this
  · exact ((Below.refl base w0).alloc hbase _).grown HG.out (by simp; omega) (fun k hk => (World.ownsRow.lt hown k hk).1)
set_option maxRecDepth 100000 in
theorem Tryd.infoBl : (Tryd.prog.info? 4).map (fun i => (i.zero, i.size, i.bytes)) = some (some (.bool false), 1, 1) := by kernel_rfl
set_option maxRecDepth 100000 in
theorem Tryd.infoW64 : (Tryd.prog.info? 77).map (fun i => (i.zero, i.size, i.bytes)) = some (some (.int .u64 0), 1, 8) := by kernel_rfl

end Go.Proofs.YthfeecgpgempdaaDoor

/- Two calls of the library's: how many ones a word has; where its lowest one is. -/
namespace Go.Proofs.YthfeecgpgempdaaDoor
set_option linter.unusedVariables false
set_option linter.unusedSimpArgs false
open Go.RowKit Dg

/-- The library's table in its variable. -/
def Tab (w : World) : Prop := ∀ j, j < 64 → w.cell? ⟨0, j, none⟩ = some (.int .u8 ((Lib.deBruijn64tab.getD j 0 : Nat) : Int))
theorem Tab.lt {w : World} (h : Tab w) : 0 < w.heap.size := World.block_lt_of_cell? w _ (h 0 (by decide))
theorem Tab.kept {w w' : World} {F : Nat → Prop} (h : Tab w) (hk : Kept F w w') (hF : ¬ F 0) : Tab w' := fun j hj => by rw [hk.cell h.lt hF]; exact h j hj
theorem Tab.below {w w' : World} {B : Nat} (h : Tab w) (hk : Below B w w') (hB : 0 < B) : Tab w' := fun j hj => by rw [hk.cell (p := ⟨0, j, none⟩) hB]; exact h j hj

theorem ctz_spec {x : Nat} (h0 : x ≠ 0) (h : x < 18446744073709551616) : Lib.ctz 64 x < 64 ∧ x.testBit (Lib.ctz 64 x) = true ∧ ∀ j, j < Lib.ctz 64 x → x.testBit j = false := by
  obtain ⟨m, hm, hk⟩ := Lib.ctzFrom_spec 64 x (by omega) h
  have e : Lib.ctz 64 x = Lib.ctzFrom 64 x := by simp [Lib.ctz, h0]
  rw [e]
  generalize Lib.ctzFrom 64 x = k at hm hk
  refine ⟨hk, ?_, fun j hj => ?_⟩
  · rw [hm, Nat.mul_comm, Nat.testBit_mul_two_pow]
    simp [Nat.testBit_zero]
  · rw [hm, Nat.mul_comm, Nat.testBit_mul_two_pow]
    simp [Nat.not_le.2 hj]

theorem tz_key (x a : Nat) (hx : x < 18446744073709551616) (hx0 : x ≠ 0) (hlow : x &&& (18446744073709551616 - x) = a) :
    IntKind.u64.wrap (bits BinOp.and IntKind.u64 (x : Int) (IntKind.u64.wrap (-(x : Int))) * 285870213051353865) / 288230376151711744 = ((a * 285870213051353865 % 18446744073709551616 / 288230376151711744 : Nat) : Int) := by
  have e1 : IntKind.u64.wrap (-(x : Int)) = ((18446744073709551616 - x : Nat) : Int) := by rw [IntKind.wrap_u64]; omega
  rw [e1, bits_and_u64_nat x _ hx (by omega), hlow, IntKind.wrap_u64]
  omega
set_option maxRecDepth 100000 in
set_option maxHeartbeats 1000000 in
theorem tz_core (x k idx : Nat) (w : World) (hx0 : ((x : Int) == 0) = false)
    (key : IntKind.u64.wrap (bits BinOp.and IntKind.u64 (x : Int) (IntKind.u64.wrap (-(x : Int))) * 285870213051353865) / 288230376151711744 = (idx : Int))
    (hi : idx < 64) (hk : k < 64) (hcell : w.cell? ⟨0, idx, none⟩ = some (.int .u8 k)) :
    Calls Tryd.prog 57 #[.int .u64 x] w fun e w' => e = .returned (.int .i64 k) ∧ w' = w := by
  go_enter Tryd.func57, Tryd.ntmps57
  go_wp2_with (simp only [key])
  go_ret
  exact ⟨rfl, rfl⟩
theorem tz_any (w : World) (hT : Tab w) (x : Nat) (h0 : x ≠ 0) (hx : x < 18446744073709551616) (k : Nat) (hk : k = Lib.ctz 64 x) :
    Calls Tryd.prog 57 #[.int .u64 (x : Int)] w fun e w' => e = .returned (.int .i64 (k : Int)) ∧ w = w' := by
  obtain ⟨hlow, hk64⟩ := Lib.lowest_bit 64 x h0 hx
  obtain ⟨hi, htab⟩ := Lib.deBruijn64_at _ hk64
  have hcell := hT _ hi
  rw [htab] at hcell
  subst hk
  exact (tz_core x _ _ w (by simp; omega) (tz_key x _ hx h0 hlow) hi hk64 hcell).mono fun e w' ⟨h1, h2⟩ => ⟨h1, h2.symm⟩

theorem mod_and (y m n : Nat) (h : m < 2 ^ n) : y % 2 ^ n &&& m = y &&& m := by
  apply Nat.eq_of_testBit_eq
  intro j
  rw [Nat.testBit_and, Nat.testBit_and, Nat.testBit_mod_two_pow]
  by_cases hj : j < n
  · simp [hj]
  · rw [Nat.testBit_lt_two_pow (Nat.lt_of_lt_of_le h (Nat.pow_le_pow_right (by decide) (Nat.le_of_not_lt hj)))]
    simp
theorem mod_and64 (y m : Nat) (h : m < 18446744073709551616) : y % 18446744073709551616 &&& m = y &&& m := mod_and y m 64 h
theorem and_wrap (b c : Nat) (hc : c = pC b) : bits .and .u64 (IntKind.u64.wrap ((b : Int) / 16 + (b : Int))) 1085102592571150095 = (c : Int) := by
  have e1 : IntKind.u64.wrap ((b : Int) / 16 + (b : Int)) = (((b / 16 + b) % 18446744073709551616 : Nat) : Int) := by rw [IntKind.wrap_u64]; omega
  rw [e1, show (1085102592571150095 : Int) = ((1085102592571150095 : Nat) : Int) from rfl, bits_and_u64_nat _ _ (Nat.mod_lt _ (by omega)) (by omega), mod_and64 _ _ (by omega), hc]
  rfl

theorem wrapA (x a : Nat) (hx : x < 18446744073709551616) (ha : a = pA x) (h : a < 18446744073709551616) : IntKind.u64.wrap (bits .and .u64 ((x : Int) / 2) 6148914691236517205 + bits .and .u64 (x : Int) 6148914691236517205) = (a : Int) := by
  have e1 : (x : Int) / 2 = ((x / 2 : Nat) : Int) := by omega
  rw [e1, show (6148914691236517205 : Int) = ((6148914691236517205 : Nat) : Int) from rfl, bits_and_u64_nat _ _ (by omega) (by decide), bits_and_u64_nat _ _ hx (by decide), IntKind.wrap_u64]
  unfold pA at ha
  omega
theorem wrapB (a b : Nat) (hx : a < 18446744073709551616) (hb : b = pB a) (h : b < 18446744073709551616) : IntKind.u64.wrap (bits .and .u64 ((a : Int) / 4) 3689348814741910323 + bits .and .u64 (a : Int) 3689348814741910323) = (b : Int) := by
  have e1 : (a : Int) / 4 = ((a / 4 : Nat) : Int) := by omega
  rw [e1, show (3689348814741910323 : Int) = ((3689348814741910323 : Nat) : Int) from rfl, bits_and_u64_nat _ _ (by omega) (by decide), bits_and_u64_nat _ _ hx (by decide), IntKind.wrap_u64]
  unfold pB at hb
  omega
theorem wrapD (c d : Nat) (h : d = pD c) (hd : d < 18446744073709551616) : IntKind.u64.wrap ((c : Int) + (c : Int) / 256) = (d : Int) := by rw [IntKind.wrap_u64]; unfold pD at h; omega
theorem wrapE (c d : Nat) (h : d = pE c) (hd : d < 18446744073709551616) : IntKind.u64.wrap ((c : Int) + (c : Int) / 65536) = (d : Int) := by rw [IntKind.wrap_u64]; unfold pE at h; omega
theorem wrapF (c d : Nat) (h : d = pF c) (hd : d < 18446744073709551616) : IntKind.u64.wrap ((c : Int) + (c : Int) / 4294967296) = (d : Int) := by rw [IntKind.wrap_u64]; unfold pF at h; omega
theorem wrapG (g n : Nat) (hg : g < 4611686018427387904) (h : g % 128 = n) : bits .and .i64 (wrap64 (g : Int)) 127 = (n : Int) ∧ bits .and .i64 (g : Int) 127 = (n : Int) := by
  have h2 := and_mask g 7 hg (by decide)
  rw [show (2 : Int) ^ 7 - 1 = 127 from rfl, show g % 2 ^ 7 = n from h] at h2
  refine ⟨?_, h2⟩
  rw [Go.IntWalk.wrap64_in (g : Int) (by omega)]
  exact h2
set_option maxRecDepth 100000 in
set_option maxHeartbeats 4000000 in
theorem ones_any (w : World) (x : Nat) (hx : x < 18446744073709551616) (n : Nat) (hn : n = popN x) :
    Calls Tryd.prog 52 #[.int .u64 (x : Int)] w fun e w' => e = .returned (.int .i64 (n : Int)) ∧ w = w' := by
  obtain ⟨b1, b2, b3⟩ := pop_bounds x
  obtain ⟨b4, b5, b6, b7⟩ := pop_end x hx
  rw [← hn] at b7
  clear hn
  obtain ⟨a, ha⟩ : ∃ a, a = pA x := ⟨_, rfl⟩
  rw [← ha] at b1 b2 b3 b4 b5 b6 b7
  obtain ⟨b, hb⟩ : ∃ b, b = pB a := ⟨_, rfl⟩
  rw [← hb] at b2 b3 b4 b5 b6 b7
  obtain ⟨c, hc⟩ : ∃ c, c = pC b := ⟨_, rfl⟩
  rw [← hc] at b3 b4 b5 b6 b7
  obtain ⟨d, hd⟩ : ∃ d, d = pD c := ⟨_, rfl⟩
  rw [← hd] at b4 b5 b6 b7
  obtain ⟨f, hf⟩ : ∃ f, f = pE d := ⟨_, rfl⟩
  rw [← hf] at b5 b6 b7
  obtain ⟨g, hg⟩ : ∃ g, g = pF f := ⟨_, rfl⟩
  rw [← hg] at b6 b7
  obtain ⟨eG, eG2⟩ := wrapG g n b6 b7
  have eA := wrapA x a hx ha b1
  have eB := wrapB a b b1 hb b2
  have eC := and_wrap b c hc
  have eD := wrapD c d hd b4
  have eE := wrapE d f hf b5
  have eF := wrapF f g hg (Nat.lt_trans b6 (by decide))
  clear ha hb hc hd hf hg
  go_enter Tryd.func52, Tryd.ntmps52
  go_wp2_with fail
  go_ret
  exact ⟨rfl, rfl⟩

end Go.Proofs.YthfeecgpgempdaaDoor

/- The program's map in memory; New. -/
namespace Go.Proofs.YthfeecgpgempdaaDoor
set_option linter.unusedVariables false
set_option linter.unusedSimpArgs false
open Go.RowKit Dg

theorem w64s_set (l : List Nat) (k x : Nat) : w64s (l.set k x) = (w64s l).set k (.int .u64 (x : Int)) := by simp [w64s]
theorem ws_cell {w : World} {base g n c : Nat} {l : List Nat} {j x : Nat} (h : w.ownsRow base 77 1 (.slice (some ⟨g, 0, none⟩) n c) n (w64s l)) (hx : l[j]? = some x) :
    w.cell? ⟨g, j, none⟩ = some (.int .u64 (x : Int)) ∧ w.frozen? ⟨g, j, none⟩ = false := by
  have hl : l.length = n := by have := h.1; simpa using this
  have hj : j < l.length := (List.getElem?_eq_some_iff.1 hx).1
  rcases h.2 with ⟨e1, _⟩ | ⟨g', cap', cur, hv, hgb, hh, hncap, _, hcs, htake⟩
  · cases e1
  · cases hv
    refine ⟨?_, by simp [World.frozen?, hh]⟩
    have e : (w64s l)[j]? = some (.int .u64 (x : Int)) := by rw [w64s_get, hx]; rfl
    rw [← htake, List.getElem?_take, if_pos (by omega)] at e
    simp only [World.cell?, hh]
    simpa using e
theorem ws_set {w : World} {base g n c : Nat} {l : List Nat} (h : w.ownsRow base 77 1 (.slice (some ⟨g, 0, none⟩) n c) n (w64s l)) (j y : Nat) (hj : j < n) :
    (w.setCell ⟨g, j, none⟩ (.int .u64 (y : Int))).ownsRow base 77 1 (.slice (some ⟨g, 0, none⟩) n c) n (w64s (l.set j y)) := by
  rw [w64s_set]
  exact ownsRow_set h j hj _
theorem made_w64 (n : Nat) : (madeCells (Value.int .u64 0).cells (n * 1)).toList = w64s (List.replicate n 0) := by
  apply List.ext_getElem?
  intro k
  by_cases hk : k < n
  · simp [madeCells, w64s, hk, Value.cells, Nat.mod_one]
  · rw [List.getElem?_eq_none (by simp [madeCells]; omega), List.getElem?_eq_none (by simp; omega)]
theorem ws_new (w : World) (base : Nat) (Z : Array Value) (N : Nat) (l : List Nat) (hZ : Z.toList = w64s l) (hl : l.length = N) (hN : N ≤ 1000000) (hb : base ≤ w.heap.size) :
    (w.alloc (.cells Z 77)).ownsRow base 77 1 (.slice (some ⟨w.heap.size, 0, none⟩) N N) N (w64s l) := by
  have hs : Z.size = N := by have := congrArg List.length hZ; simpa [hl] using this
  refine ⟨by simp [hl], .inr ⟨w.heap.size, N, Z, rfl, hb, heap_alloc_new w _, Nat.le_refl _, by unfold maxLen; omega, by omega, ?_⟩⟩
  rw [hZ]; exact List.take_of_length_le (by simp [hl])

/-- A map in memory: its fields at b, its words at g. -/
structure MpIs (w : World) (b g c : Nat) (m : List Bool) : Prop where
  box : w.heap[b]? = some (.cells #[.int .i64 (m.length : Int), .slice (some ⟨g, 0, none⟩) (wsOf m).length c] 76 (0, 0))
  ws : w.ownsRow 0 77 1 (.slice (some ⟨g, 0, none⟩) (wsOf m).length c) (wsOf m).length (w64s (wsOf m))
  tab : Tab w
  pos : 1 ≤ m.length
  le : m.length ≤ 4096
  ne : b ≠ g ∧ b ≠ 0 ∧ g ≠ 0
set_option maxRecDepth 100000 in
theorem MpIs.cell {w : World} {b g c : Nat} {m : List Bool} (h : MpIs w b g c m) : w.cell? ⟨b, 0, none⟩ = some (.int .i64 (m.length : Int)) ∧ w.cell? ⟨b, 1, none⟩ = some (.slice (some ⟨g, 0, none⟩) (wsOf m).length c) := by
  have e := h.box
  refine ⟨?_, ?_⟩
  · unfold World.cell?; rw [e]; rfl
  · unfold World.cell?; rw [e]; rfl
theorem MpIs.lt {w : World} {b g c : Nat} {m : List Bool} (h : MpIs w b g c m) : b < w.heap.size ∧ g < w.heap.size := by
  refine ⟨(Array.getElem?_eq_some_iff.1 h.box).1, ?_⟩
  exact (World.ownsRow.lt h.ws g rfl).2
theorem MpIs.kept {w w' : World} {b g c : Nat} {m : List Bool} {X : Nat → Prop} (h : MpIs w b g c m) (hk : Kept X w w') (h1 : ¬ X b) (h2 : ¬ X g) (h3 : ¬ X 0) : MpIs w' b g c m :=
  { h with
    box := by rw [hk.block b h.lt.1 h1]; exact h.box
    ws := ownsRow_other h.ws hk (fun k e => by cases e; exact h2)
    tab := h.tab.kept hk h3 }
theorem MpIs.len {w : World} {b g c : Nat} {m : List Bool} (h : MpIs w b g c m) : (wsOf m).length = (m.length + 63) / 64 ∧ 1 ≤ (wsOf m).length ∧ (wsOf m).length ≤ 64 ∧ m.length ≤ 64 * (wsOf m).length := by
  have h1 := h.pos
  have h2 := h.le
  have := length_wsOf m
  omega
theorem MpIs.word {w : World} {b g c : Nat} {m : List Bool} (h : MpIs w b g c m) {k : Nat} (hk : k < (wsOf m).length) : ∃ x, (wsOf m)[k]? = some x ∧ x < 18446744073709551616 ∧ w.cell? ⟨g, k, none⟩ = some (.int .u64 (x : Int)) ∧ w.frozen? ⟨g, k, none⟩ = false ∧ ∀ j, j < 64 → x.testBit j = dgt m (64 * k + j) := by
  obtain ⟨x, hx⟩ : ∃ x, (wsOf m)[k]? = some x := ⟨_, List.getElem?_eq_getElem hk⟩
  obtain ⟨e1, e2⟩ := ws_cell h.ws hx
  exact ⟨x, hx, (wsOf_is m).lt x (List.mem_of_getElem? hx), e1, e2, (wsOf_is m).bit k x hx⟩

theorem shl_int (r : Nat) (hr : r < 64) : IntKind.u64.wrap (18446744073709551615 * 2 ^ r) = ((18446744073709551616 - 2 ^ r : Nat) : Int) := by
  rw [IntKind.wrap_u64, ← shl_full r hr, ← pow_cast]
  generalize 2 ^ r = P
  omega
set_option maxRecDepth 100000 in
set_option maxHeartbeats 1000000 in
theorem mnoughts_any (w : World) (n : Nat) (h1 : 1 ≤ n) (h2 : n ≤ 4096) (L : Nat) (hL : L = (n + 63) / 64) :
    Calls Tryd.prog 55 #[.int .i64 (n : Int)] w fun e w' => ∃ g, e = .returned (.slice (some ⟨g, 0, none⟩) L L) ∧ w'.ownsRow w.heap.size 77 1 (.slice (some ⟨g, 0, none⟩) L L) L (w64s (noughtsL n)) ∧ Below w.heap.size w w' := by
  obtain ⟨i0, hi, hz0, hz1, hz2⟩ := info_parts Tryd.infoW64
  obtain ⟨Z, hZ⟩ : ∃ Z, Z = madeCells (Value.int .u64 0).cells (L * i0.size) := ⟨_, rfl⟩
  have hmk : ∀ W : World, (Instr.makeSlice 74 (.int .i64 (L : Int)) (.int .i64 (L : Int))).run Tryd.prog W = .ok (.slice (some ⟨W.heap.size, 0, none⟩) L L) (W.alloc (.cells Z 77)) := by
    intro W
    have h := run_make (P := Tryd.prog) W 74 77 i0 (.int .u64 0) Tryd.underlying74 hi hz0 .i64 .i64 L L (by omega) (by omega) (by rw [hz2]; omega) (by omega)
    simp only [Int.toNat_natCast] at h
    rw [hZ]
    exact h
  have hown : ∀ W : World, (W.alloc (.cells Z 77)).ownsRow W.heap.size 77 1 (.slice (some ⟨W.heap.size, 0, none⟩) L L) L (w64s (List.replicate L 0)) := fun W =>
    ws_new W W.heap.size Z L (List.replicate L 0) (by rw [hZ, hz1]; exact made_w64 L) (by simp) (by omega) (Nat.le_refl _)
  have HO := hid_of hown
  have HZ : Hid (Z.toList = w64s (List.replicate L 0)) := by show _ = _; rw [hZ, hz1]; exact made_w64 L
  have hq : ((n : Int) + 64 - 1) / 64 = (L : Int) := by omega
  obtain ⟨r, hr⟩ : ∃ r, r = n % 64 := ⟨_, rfl⟩
  have hrI : (n : Int) % 64 = (r : Int) := by omega
  have HL := hid_of hL
  have HR := hid_of hr
  have hr64 : r < 64 := by omega
  have hL64 : L ≤ 64 := by omega
  clear hZ hown
  by_cases h0 : r = 0
  · have hN : Hid (List.replicate L 0 = noughtsL n) := by
      show _ = _
      unfold noughtsL
      rw [if_pos (by omega), hL]
    clear hL hr
    subst h0
    go_enter Tryd.func55, Tryd.ntmps55
    go_wp2_with fail
    go_ret
    refine ⟨_, rfl, ?_, (Below.refl _ _).alloc (Nat.le_refl _) _⟩
    rw [← hN.out]
    exact HO.out w
  · obtain ⟨M, hM⟩ : ∃ M, L = M + 1 := ⟨L - 1, by omega⟩
    have HM := hid_of hM
    have hN : Hid ((List.replicate L 0).set M (18446744073709551616 - 2 ^ r) = noughtsL n) := by
      show _ = _
      unfold noughtsL
      rw [if_neg (by omega), hr, hM, ← hL, hM]
      rfl
    have hLM : (L : Int) - 1 = (M : Int) := by omega
    have hML : M < L := by omega
    have hr1 : decide (0 < r) = true := decide_eq_true (by omega)
    obtain ⟨F, hF⟩ : ∃ F : Nat, F = 18446744073709551616 - 2 ^ r := ⟨_, rfl⟩
    have HF := hid_of hF
    have hsh : IntKind.u64.wrap (18446744073709551615 * 2 ^ r) = (F : Int) := by rw [hF]; exact shl_int r hr64
    have hZM : Z[M]? = some (.int .u64 0) := by
      have e : Z.toList[M]? = some (.int .u64 0) := by rw [HZ.out, w64s_get, List.getElem?_replicate, if_pos hML]; rfl
      simpa using e
    clear hL hr hM hF
    go_enter Tryd.func55, Tryd.ntmps55
    go_wp2_with fail
    go_ret
    refine ⟨_, rfl, ?_, (Below.refl _ _).alloc (Nat.le_refl _) _⟩
    rw [← hN.out, ← HF.out]
    refine ws_new w w.heap.size _ L _ ?_ (by simp) (by omega) (Nat.le_refl _)
    rw [w64s_set, ← HZ.out]
    simp

end Go.Proofs.YthfeecgpgempdaaDoor

/- The program's map: New, Len, has, Used. -/
namespace Go.Proofs.YthfeecgpgempdaaDoor
set_option linter.unusedVariables false
set_option linter.unusedSimpArgs false
open Go.RowKit Dg

set_option maxRecDepth 100000 in
set_option maxHeartbeats 1000000 in
theorem mnew_any (w : World) (hT : Tab w) (n : Nat) (h1 : 1 ≤ n) (h2 : n ≤ 4096) :
    Calls Tryd.prog 47 #[.int .i64 (n : Int)] w fun e w' => ∃ b g c, e = .returned (.tuple #[.pointer (some ⟨b, 0, none⟩), .int .i64 0]) ∧ MpIs w' b g c (List.replicate n false) ∧ w.heap.size ≤ b ∧ w.heap.size ≤ g ∧ Below w.heap.size w w' := by
  obtain ⟨L, hL⟩ : ∃ L, L = (n + 63) / 64 := ⟨_, rfl⟩
  have HN := hid_of (mnoughts_any w n h1 h2 L hL)
  have HL := hid_of hL
  have HT := hid_of hT
  clear hL hT
  go_enter Tryd.func47, Tryd.ntmps47
  go_wp2_with fail
  refine HN.out.mono ?_
  rintro e w1 ⟨g, rfl, ho, hb⟩
  have HO := hid_of ho
  have HB := hid_of hb
  clear ho hb HN
  go_wp2_with fail
  go_ret2
  have hg := World.ownsRow.lt HO.out g rfl
  have hTl := HT.out.lt
  refine ⟨w1.heap.size, g, L, rfl, ⟨?_, ?_, ?_, by simp; omega, by simp; omega, ?_⟩, HB.out.size, hg.1, HB.out.alloc HB.out.size _⟩
  · rw [heap_alloc_new, List.length_replicate, ← (noughts_is n).of, (noughts_is n).len, List.length_replicate, ← HL.out]
  · rw [← (noughts_is n).of, (noughts_is n).len, List.length_replicate, ← HL.out]
    exact ownsRow_base (World.ownsRow.alloc HO.out _) (Nat.zero_le _)
  · exact (HT.out.below HB.out hTl).kept (Kept.alloc (fun _ => False) _ _) (fun h => h)
  · have := HB.out.size
    exact ⟨by omega, by omega, by omega⟩
set_option maxRecDepth 100000 in
set_option maxHeartbeats 1000000 in
theorem mnew_no (w : World) (n : Int) (h : n < 1 ∨ 4096 < n) :
    Calls Tryd.prog 47 #[.int .i64 n] w fun e w' => e = .returned (.tuple #[.pointer none, .int .i64 1]) ∧ w = w' := by
  rcases (by omega : n < 1 ∨ (1 ≤ n ∧ 4096 < n)) with h | ⟨h0, h⟩
  · go_enter Tryd.func47, Tryd.ntmps47
    go_wp2_with fail
    go_ret2
    exact ⟨rfl, rfl⟩
  · go_enter Tryd.func47, Tryd.ntmps47
    go_wp2_with fail
    go_ret2
    exact ⟨rfl, rfl⟩
set_option maxRecDepth 100000 in
set_option maxHeartbeats 1000000 in
theorem mlen_is (w : World) (b g c : Nat) (m : List Bool) (h : MpIs w b g c m) (n : Nat) (hn : n = m.length) :
    Calls Tryd.prog 29 #[.pointer (some ⟨b, 0, none⟩)] w fun e w' => e = .returned (.int .i64 (n : Int)) ∧ w = w' := by
  obtain ⟨c0, -⟩ := h.cell
  rw [← hn] at c0
  clear h hn
  go_enter Tryd.func29, Tryd.ntmps29
  go_wp2
  go_ret
  exact ⟨rfl, rfl⟩
set_option maxRecDepth 100000 in
set_option maxHeartbeats 1000000 in
theorem mhas_is (w : World) (b g c : Nat) (m : List Bool) (h : MpIs w b g c m) (i : Int) (hi : I64 i) (R : Bool) (hR : R = decide (0 ≤ i ∧ i < (m.length : Int))) :
    Calls Tryd.prog 51 #[.pointer (some ⟨b, 0, none⟩), .int .i64 i] w fun e w' => e = .returned (.bool R) ∧ w = w' := by
  obtain ⟨c0, -⟩ := h.cell
  obtain ⟨n, hn⟩ : ∃ n, n = m.length := ⟨_, rfl⟩
  obtain ⟨hi1, hi2⟩ := hi
  rw [← hn] at c0 hR
  clear h hn
  rcases (by omega : i < 0 ∨ (0 ≤ i ∧ i < (n : Int)) ∨ (0 ≤ i ∧ (n : Int) ≤ i)) with h1 | ⟨h1, h2⟩ | ⟨h1, h2⟩
  · obtain rfl : R = false := by rw [hR]; exact decide_eq_false (by omega)
    clear hR
    go_enter Tryd.func51, Tryd.ntmps51
    go_wp2_with fail
    go_ret
    exact ⟨rfl, rfl⟩
  · obtain rfl : R = true := by rw [hR]; exact decide_eq_true (by omega)
    clear hR
    go_enter Tryd.func51, Tryd.ntmps51
    go_wp2_with fail
    go_ret
    exact ⟨rfl, rfl⟩
  · obtain rfl : R = false := by rw [hR]; exact decide_eq_false (by omega)
    have hb : decide (i < (n : Int)) = false := decide_eq_false (by omega)
    clear hR
    go_enter Tryd.func51, Tryd.ntmps51
    go_wp2_with fail
    go_ret
    exact ⟨rfl, rfl⟩
/-- Is it used? (One that is not there is.) -/
def usedZ (m : List Bool) (i : Int) : Bool := if 0 ≤ i then dgt m i.toNat else true
theorem usedZ_nat (m : List Bool) (k : Nat) : usedZ m (k : Int) = dgt m k := by unfold usedZ; rw [if_pos (by omega), Int.toNat_natCast]
theorem bit_int (x r : Nat) (hx : x < 18446744073709551616) : bits .and .u64 ((x : Int) / 2 ^ r) 1 = (((x.testBit r).toNat : Nat) : Int) := by
  have e : (x : Int) / 2 ^ r = ((x / 2 ^ r : Nat) : Int) := by rw [← pow_cast]; rfl
  have hlt : x / 2 ^ r < 18446744073709551616 := Nat.lt_of_le_of_lt (Nat.div_le_self _ _) hx
  have h2 := bits_and_u64_nat (x / 2 ^ r) 1 hlt (by decide)
  rw [e]
  refine h2.trans ?_
  rw [Nat.testBit_eq_decide_div_mod_eq, show (1 : Nat) = 2 ^ 1 - 1 from rfl, Nat.and_two_pow_sub_one_eq_mod]
  generalize x / 2 ^ r = y
  by_cases h : y % 2 = 1
  · simp [h]
  · have : y % 2 = 0 := by omega
    simp [this]
set_option maxRecDepth 100000 in
set_option maxHeartbeats 1000000 in
theorem mused_is (w : World) (b g c : Nat) (m : List Bool) (h : MpIs w b g c m) (i : Int) (hi : I64 i) (R : Bool) (hR : R = usedZ m i) :
    Calls Tryd.prog 30 #[.pointer (some ⟨b, 0, none⟩), .int .i64 i] w fun e w' => e = .returned (.bool R) ∧ w = w' := by
  have HH := hid_of (mhas_is w b g c m h i hi _ rfl)
  obtain ⟨-, c1⟩ := h.cell
  obtain ⟨hi1, hi2⟩ := hi
  by_cases hin : 0 ≤ i ∧ i < (m.length : Int)
  · obtain ⟨k, rfl⟩ : ∃ k : Nat, i = (k : Int) := ⟨i.toNat, by omega⟩
    have hlen := h.len
    rw [decide_eq_true hin] at HH
    obtain ⟨q, hq⟩ : ∃ q, q = k / 64 := ⟨_, rfl⟩
    obtain ⟨r, hr⟩ : ∃ r, r = k % 64 := ⟨_, rfl⟩
    obtain ⟨L, hL⟩ : ∃ L, L = (wsOf m).length := ⟨_, rfl⟩
    have hqL : q < L := by omega
    obtain ⟨x, -, hx, hc, -, hb⟩ := h.word (k := q) (by omega)
    have hbit := hb r (by omega)
    rw [show 64 * q + r = k by omega] at hbit
    have hR' : R = x.testBit r := by rw [hR, usedZ_nat, hbit]
    have hbi := bit_int x r hx
    have hqI : (k : Int) / 64 = (q : Int) := by omega
    have hrI : (k : Int) % 64 = (r : Int) := by omega
    have hr64 : r < 64 := by omega
    rw [← hL] at c1
    cases hxb : x.testBit r
    · rw [hxb] at hbi hR'
      change _ = (0 : Int) at hbi
      subst hR'
      clear h hR hin hlen hq hr hL hb hbit hxb
      go_enter Tryd.func30, Tryd.ntmps30
      go_wp2_with fail
      refine HH.out.mono ?_
      rintro e w1 ⟨rfl, rfl⟩
      go_wp2_with fail
      go_ret
      exact ⟨rfl, rfl⟩
    · rw [hxb] at hbi hR'
      change _ = (1 : Int) at hbi
      subst hR'
      clear h hR hin hlen hq hr hL hb hbit hxb
      go_enter Tryd.func30, Tryd.ntmps30
      go_wp2_with fail
      refine HH.out.mono ?_
      rintro e w1 ⟨rfl, rfl⟩
      go_wp2_with fail
      go_ret
      exact ⟨rfl, rfl⟩
  · obtain rfl : R = true := by
      rw [hR]
      unfold usedZ
      split
      · exact dgt_behind (by omega)
      · rfl
    rw [decide_eq_false hin] at HH
    clear h hR hin
    go_enter Tryd.func30, Tryd.ntmps30
    go_wp2_with fail
    refine HH.out.mono ?_
    rintro e w1 ⟨rfl, rfl⟩
    go_wp2_with fail
    go_ret
    exact ⟨rfl, rfl⟩

end Go.Proofs.YthfeecgpgempdaaDoor
