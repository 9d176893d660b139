/- The texts SwMath, SWaits, SoMath, one behind the other. -/
import Derived.Test.YthfeecgpgempdaaDoorPart02
import Derived.Test.YthfeecgpgempdaaDoorPart07

/- What is dropped, waits, is committed and taken again, as plain data. -/
namespace Go.Proofs.YthfeecgpgempdaaDoor
set_option linter.unusedVariables false
set_option linter.unusedSimpArgs false
open Go.RowKit Dg

theorem sumTo_le1 (C : List Nat) : ∀ j, (∀ k, k < j → C.getD k 0 ≤ 1) → sumTo C j ≤ j
  | 0, _ => Nat.le_refl _
  | j + 1, h => by
    have := sumTo_le1 C j (fun k hk => h k (by omega))
    have := h j (by omega)
    show sumTo C j + C.getD j 0 ≤ j + 1
    omega
theorem waitTo_more {V V' : List Bool} {k : Nat} (h : ∀ j, V'.getD j false = if j = k then true else V.getD j false) (hk : V.getD k false = false) : ∀ m, (waitTo V' m).length = (waitTo V m).length + (if k < m then 1 else 0)
  | 0 => rfl
  | m + 1 => by
    have ih := waitTo_more h hk m
    have e1 : waitTo V' (m + 1) = if V'.getD m false then waitTo V' m ++ [(m : Int)] else waitTo V' m := rfl
    have e2 : waitTo V (m + 1) = if V.getD m false then waitTo V m ++ [(m : Int)] else waitTo V m := rfl
    rw [e1, e2, h m]
    by_cases e : m = k
    · subst e
      rw [if_pos rfl, hk]
      have a1 : (if m < m then 1 else 0) = 0 := if_neg (by omega)
      have a2 : (if m < m + 1 then 1 else 0) = 1 := if_pos (by omega)
      rw [a1] at ih
      rw [a2]
      simp
      omega
    · rw [if_neg e]
      have a1 : (if k < m + 1 then 1 else 0) = (if k < m then 1 else 0) := by
        by_cases e2 : k < m
        · rw [if_pos e2, if_pos (by omega)]
        · rw [if_neg e2, if_neg (by omega)]
      rw [a1]
      cases V.getD m false with
      | true => simp; omega
      | false => simp; omega
theorem waitTo_nil {V : List Bool} : ∀ m, (∀ j, j < m → V.getD j false = false) → waitTo V m = []
  | 0, _ => rfl
  | m + 1, h => by
    have e1 : waitTo V (m + 1) = if V.getD m false then waitTo V m ++ [(m : Int)] else waitTo V m := rfl
    rw [e1, h m (by omega), waitTo_nil m (fun j hj => h j (by omega))]
    rfl
theorem Sd.freeTo_succ (s : Sd) (m : Nat) : s.freeTo (m + 1) = s.freeTo m + (if s.u m then 0 else 1) := rfl
theorem Sd.freeTo_less {s s' : Sd} {k : Nat} (h : ∀ j, j ≠ k → s'.u j = s.u j) (h1 : s.u k = false) (h2 : s'.u k = true) : ∀ m, s'.freeTo m + (if k < m then 1 else 0) = s.freeTo m
  | 0 => rfl
  | m + 1 => by
    have ih := Sd.freeTo_less h h1 h2 m
    rw [Sd.freeTo_succ, Sd.freeTo_succ]
    by_cases e : m = k
    · subst e
      have a1 : (if m < m then 1 else 0) = 0 := if_neg (by omega)
      have a2 : (if m < m + 1 then 1 else 0) = 1 := if_pos (by omega)
      rw [a1] at ih
      rw [a2, h1, h2]
      simp
      omega
    · have a1 : (if k < m + 1 then 1 else 0) = (if k < m then 1 else 0) := by
        by_cases e2 : k < m
        · rw [if_pos e2, if_pos (by omega)]
        · rw [if_neg e2, if_neg (by omega)]
      rw [a1, h m e]
      omega
theorem Sd.freeTo_none (s : Sd) : ∀ m, (∀ j, j < m → s.u j = true) → s.freeTo m = 0
  | 0, _ => rfl
  | m + 1, h => by rw [Sd.freeTo_succ, h m (by omega), Sd.freeTo_none s m (fun j hj => h j (by omega))]; rfl
theorem Sd.freeTo_some (s : Sd) : ∀ m, 0 < s.freeTo m → ∃ j, j < m ∧ s.u j = false
  | 0, h => by cases h
  | m + 1, h => by
    rw [Sd.freeTo_succ] at h
    cases e : s.u m with
    | false => exact ⟨m, by omega, e⟩
    | true =>
      rw [e] at h
      obtain ⟨j, h1, h2⟩ := Sd.freeTo_some s m (by simpa using h)
      exact ⟨j, by omega, h2⟩
theorem Sd.freeTo_wait {s : Sd} {V : List Bool} : ∀ m, (∀ j, j < m → s.u j = !(V.getD j false)) → s.freeTo m = (waitTo V m).length
  | 0, _ => rfl
  | m + 1, h => by
    have ih := Sd.freeTo_wait (s := s) (V := V) m (fun j hj => h j (by omega))
    have e2 : waitTo V (m + 1) = if V.getD m false then waitTo V m ++ [(m : Int)] else waitTo V m := rfl
    rw [Sd.freeTo_succ, e2, h m (by omega), ih]
    cases V.getD m false with
    | true => simp
    | false => simp
theorem Sd.least_free {s : Sd} (h : 0 < s.free) : ∃ k, s.least = some k := by
  cases e : s.least with
  | some k => exact ⟨k, rfl⟩
  | none =>
    have := s.freeTo_none s.N (Sd.least_none e)
    unfold Sd.free at h
    omega
theorem Sd.least_nothing {s : Sd} (h : s.free = 0) : s.least = none := by
  cases e : s.least with
  | none => rfl
  | some k =>
    obtain ⟨h1, h2, -⟩ := Sd.least_some e
    have key : ∀ m, k < m → 0 < s.freeTo m := by
      intro m
      induction m with
      | zero => intro h; omega
      | succ m ih =>
        intro hm
        rw [Sd.freeTo_succ]
        by_cases e2 : k = m
        · subst e2; rw [h2]; simp
        · have := ih (by omega); omega
    have := key s.N h1
    unfold Sd.free at h
    omega

/-- The sectors 1 to below i are taken. -/
structure W1 (s : Sd) (n i : Nat) : Prop where
  fine : s.Fine
  N : s.N = n
  fx : s.fx = 1
  c : ∀ k, k < n → s.C.getD k 0 = if 1 ≤ k ∧ k < i then 1 else 0
  v : ∀ k, s.V.getD k false = false
theorem W1.sum {s : Sd} {n i : Nat} (h : W1 s n i) : sumC s.C ≤ n := by
  unfold sumC
  rw [h.fine.c, h.N]
  exact sumTo_le1 _ _ fun k hk => by rw [h.c k hk]; split <;> omega
theorem W1.new {n : Nat} (h1 : 2 ≤ n) (h2 : n ≤ 4096) : W1 (newSd n 1) n 1 :=
  ⟨newSd_fine (by omega) h2 (by omega), rfl, rfl, fun k hk => by rw [if_neg (by omega)]; exact getD_rep0 _ _, fun k => getD_repF _ _⟩
theorem W1.take {s : Sd} {n i : Nat} (h : W1 s n i) (h1 : 1 ≤ i) (h2 : i < n) : s.takeR = ((i : Int), 0) ∧ W1 s.takeS n (i + 1) := by
  have hl : s.least = some i := by
    refine Sd.least_of (by rw [h.N]; exact h2) ?_ fun j hj => ?_
    · rw [Sd.u_false, h.fx, h.c i h2, h.v]
      exact ⟨h1, by rw [if_neg (by omega)], rfl⟩
    · cases e : s.u j with
      | true => rfl
      | false =>
        rw [Sd.u_false, h.fx, h.c j (by omega)] at e
        obtain ⟨e1, e2, -⟩ := e
        rw [if_pos ⟨e1, hj⟩] at e2
        cases e2
  obtain ⟨e1, e2⟩ := Sd.take_yes hl
  refine ⟨e1, h.fine.taken, ?_, ?_, ?_, ?_⟩
  · rw [e2]; exact h.N
  · rw [e2]; exact h.fx
  · intro k hk
    rw [e2]
    show (s.C.set i 1).getD k 0 = _
    rw [getD_setN _ _ _ _ (by rw [h.fine.c, h.N]; exact h2), h.c k hk]
    by_cases e : i = k
    · rw [if_pos e, if_pos (by omega)]
    · rw [if_neg e]
      by_cases e3 : 1 ≤ k ∧ k < i
      · rw [if_pos e3, if_pos (by omega)]
      · rw [if_neg e3, if_neg (by omega)]
  · rw [e2]; exact h.v
/-- All but those of gs are taken; those of gs wait. -/
structure W3 (s : Sd) (n : Nat) (gs : List Int) : Prop where
  fine : s.Fine
  N : s.N = n
  fx : s.fx = 1
  mem : ∀ x ∈ gs, 1 ≤ x ∧ x < (n : Int)
  c : ∀ k, k < n → s.C.getD k 0 = if k = 0 ∨ (k : Int) ∈ gs then 0 else 1
  v : ∀ k, s.V.getD k false = decide ((k : Int) ∈ gs)
  cnt : s.waits.length = gs.length
theorem W1.done {s : Sd} {n : Nat} (h : W1 s n n) : W3 s n [] :=
  ⟨h.fine, h.N, h.fx, fun x hx => (List.not_mem_nil hx).elim, fun k hk => by
    rw [h.c k hk]
    by_cases e : k = 0
    · rw [if_neg (by omega), if_pos (.inl e)]
    · rw [if_pos (by omega), if_neg (by simp [e])], fun k => by rw [h.v k]; simp, by
    unfold Sd.waits
    rw [waitTo_nil _ (fun j _ => h.v j)]⟩
theorem W3.sum {s : Sd} {n : Nat} {gs : List Int} (h : W3 s n gs) : sumC s.C ≤ n := by
  unfold sumC
  rw [h.fine.c, h.N]
  exact sumTo_le1 _ _ fun k hk => by rw [h.c k hk]; split <;> omega
theorem W3.all {s : Sd} {n : Nat} {gs : List Int} (h : W3 s n gs) : ∀ j, j < s.N → s.u j = true := by
  intro j hj
  cases e : s.u j with
  | true => rfl
  | false =>
    rw [Sd.u_false, h.fx, h.c j (by rw [← h.N]; exact hj), h.v j] at e
    obtain ⟨e1, e2, e3⟩ := e
    have e4 := of_decide_eq_false e3
    rw [if_neg (by rintro (e5 | e5); omega; exact e4 e5)] at e2
    cases e2
theorem W3.full {s : Sd} {n : Nat} {gs : List Int} (h : W3 s n gs) : s.takeR = (0, 3) ∧ s.takeS = s ∧ s.free = 0 :=
  ⟨(Sd.take_no (Sd.least_full h.all)).1, (Sd.take_no (Sd.least_full h.all)).2, s.freeTo_none _ h.all⟩
theorem W3.of {s : Sd} {n : Nat} {gs : List Int} (h : W3 s n gs) {p : Nat} (h1 : 1 ≤ p) (h2 : p < n) : s.of (p : Int) = if (p : Int) ∈ gs then 0 else 1 := by
  rw [s.of_nat (by rw [h.fine.c, h.N]; exact h2), h.c p h2]
  by_cases e : (p : Int) ∈ gs
  · rw [if_pos (.inr e), if_pos e]
  · rw [if_neg (by rintro (e5 | e5); omega; exact e e5), if_neg e]
theorem W3.old {s : Sd} {n : Nat} {gs : List Int} (h : W3 s n gs) {p : Nat} (h1 : 1 ≤ p) (h2 : p < n) (hm : (p : Int) ∈ gs) : s.of (p : Int) = 0 ∧ s.lessS (p : Int) = s := by
  have e := h.of h1 h2
  rw [if_pos hm] at e
  refine ⟨e, ?_⟩
  unfold Sd.lessS
  rw [if_neg (by omega)]
theorem W3.drop {s : Sd} {n : Nat} {gs : List Int} (h : W3 s n gs) {p : Nat} (h1 : 1 ≤ p) (h2 : p < n) (hm : ¬ (p : Int) ∈ gs) : s.of (p : Int) = 1 ∧ W3 (s.lessS (p : Int)) n (gs ++ [(p : Int)]) := by
  have e := h.of h1 h2
  rw [if_neg hm] at e
  have hpc : p < s.C.length := by rw [h.fine.c, h.N]; exact h2
  have hpv : p < s.V.length := by rw [h.fine.v, h.N]; exact h2
  have hl : s.lessS (p : Int) = { s with C := s.C.set p 0, V := s.V.set p true } := by
    unfold Sd.lessS
    rw [if_pos (by omega), e, Int.toNat_natCast]
    rfl
  have hv : ∀ j, (s.V.set p true).getD j false = if j = p then true else s.V.getD j false := fun j => by
    rw [getD_setB _ _ _ _ hpv]
    by_cases e2 : p = j
    · rw [if_pos e2, if_pos e2.symm]
    · rw [if_neg e2, if_neg (fun e3 => e2 e3.symm)]
  refine ⟨e, h.fine.lessened _, ?_, ?_, ?_, ?_, ?_, ?_⟩
  · rw [hl]; exact h.N
  · rw [hl]; exact h.fx
  · intro x hx
    rcases List.mem_append.1 hx with hx | hx
    · exact h.mem x hx
    · rw [List.mem_singleton.1 hx]; omega
  · intro k hk
    rw [hl]
    show (s.C.set p 0).getD k 0 = _
    rw [getD_setN _ _ _ _ hpc, h.c k hk]
    by_cases e2 : p = k
    · rw [if_pos e2, if_pos (.inr (by rw [e2]; simp))]
    · rw [if_neg e2]
      have e3 : ((k : Int) ∈ gs ++ [(p : Int)]) ↔ (k : Int) ∈ gs := by simp; omega
      by_cases e4 : k = 0 ∨ (k : Int) ∈ gs
      · rw [if_pos e4, if_pos (e4.imp id e3.2)]
      · rw [if_neg e4, if_neg (fun e5 => e4 (e5.imp id e3.1))]
  · intro k
    rw [hl]
    show (s.V.set p true).getD k false = _
    rw [hv k]
    by_cases e2 : k = p
    · rw [if_pos e2]; exact (decide_eq_true (by rw [e2]; simp)).symm
    · rw [if_neg e2, h.v k]
      have e3 : ((k : Int) ∈ gs ++ [(p : Int)]) ↔ (k : Int) ∈ gs := by simp; omega
      by_cases e4 : (k : Int) ∈ gs
      · rw [decide_eq_true e4, decide_eq_true (e3.2 e4)]
      · rw [decide_eq_false e4, decide_eq_false (fun e5 => e4 (e3.1 e5))]
  · rw [hl, List.length_append]
    show (waitTo (s.V.set p true) s.N).length = _
    rw [waitTo_more hv (by rw [h.v p]; exact decide_eq_false hm), if_pos (by rw [h.N]; exact h2)]
    have := h.cnt
    unfold Sd.waits at this
    rw [this]
    rfl
/-- m of those of gs are taken again; nothing waits. -/
structure W6 (s : Sd) (n : Nat) (gs : List Int) (m : Nat) : Prop where
  fine : s.Fine
  N : s.N = n
  fx : s.fx = 1
  c : ∀ k, k < n → s.C.getD k 0 ≤ 1
  v : ∀ k, s.V.getD k false = false
  free : ∀ k, k < n → s.u k = false → (k : Int) ∈ gs
  cnt : s.free + m = gs.length
theorem W6.sum {s : Sd} {n m : Nat} {gs : List Int} (h : W6 s n gs m) : sumC s.C ≤ n := by
  unfold sumC
  rw [h.fine.c, h.N]
  exact sumTo_le1 _ _ fun k hk => h.c k hk
theorem W3.commit {s : Sd} {n : Nat} {gs : List Int} (h : W3 s n gs) : W6 s.commitS n gs 0 := by
  have hu : ∀ j, j < n → s.commitS.u j = !(s.V.getD j false) := fun j hj => by
    rw [h.v j]
    cases e : s.commitS.u j with
    | false =>
      obtain ⟨e1, e2, e3⟩ := Sd.u_false.1 e
      have e2' : s.C.getD j 0 = 0 := e2
      have e1' : s.fx ≤ j := e1
      rw [h.fx] at e1'
      rw [h.c j hj] at e2'
      by_cases e4 : (j : Int) ∈ gs
      · rw [decide_eq_true e4]; rfl
      · rw [if_neg (by rintro (e5 | e5); omega; exact e4 e5)] at e2'; cases e2'
    | true =>
      by_cases e4 : (j : Int) ∈ gs
      · exfalso
        have e5 : s.commitS.u j = false := by
          rw [Sd.u_false]
          refine ⟨?_, ?_, getD_repF _ _⟩
          · show s.fx ≤ j
            rw [h.fx]
            have := (h.mem _ e4).1
            omega
          · show s.C.getD j 0 = 0
            rw [h.c j hj, if_pos (.inr e4)]
        rw [e5] at e; cases e
      · rw [decide_eq_false e4]; rfl
  refine ⟨h.fine.committed, h.N, h.fx, fun k hk => ?_, fun k => getD_repF _ _, fun k hk e => ?_, ?_⟩
  · show s.C.getD k 0 ≤ 1
    rw [h.c k hk]; split <;> omega
  · rw [hu k hk, h.v k] at e
    by_cases e4 : (k : Int) ∈ gs
    · exact e4
    · rw [decide_eq_false e4] at e; cases e
  · have e := Sd.freeTo_wait (s := s.commitS) (V := s.V) n hu
    have e2 : s.commitS.free = s.commitS.freeTo n := by show s.commitS.freeTo s.N = _; rw [h.N]
    rw [e2, e]
    have := h.cnt
    unfold Sd.waits at this
    rw [h.N] at this
    omega
theorem W6.take {s : Sd} {n m : Nat} {gs : List Int} (h : W6 s n gs m) (hm : m < gs.length) : ∃ k, k < n ∧ s.takeR = ((k : Int), 0) ∧ (k : Int) ∈ gs ∧ W6 s.takeS n gs (m + 1) ∧ s.takeS.of (k : Int) = 1 := by
  obtain ⟨k, hl⟩ := Sd.least_free (s := s) (by have := h.cnt; omega)
  obtain ⟨h1, h2, -⟩ := Sd.least_some hl
  obtain ⟨e1, e2⟩ := Sd.take_yes hl
  rw [h.N] at h1
  have hkc : k < s.C.length := by rw [h.fine.c, h.N]; exact h1
  have hg : ∀ j, (s.C.set k 1).getD j 0 = if k = j then 1 else s.C.getD j 0 := fun j => getD_setN _ _ _ _ hkc
  have hu : ∀ j, j ≠ k → s.takeS.u j = s.u j := fun j hj => by
    rw [e2]
    show (decide (j < s.fx) || decide (0 < (s.C.set k 1).getD j 0) || s.V.getD j false) = _
    rw [hg j, if_neg (fun e => hj e.symm)]
    rfl
  have huk : s.takeS.u k = true := by
    rw [e2]
    show (decide (k < s.fx) || decide (0 < (s.C.set k 1).getD k 0) || s.V.getD k false) = _
    rw [hg k, if_pos rfl]
    simp
  refine ⟨k, h1, e1, h.free k h1 h2, ⟨h.fine.taken, by rw [e2]; exact h.N, by rw [e2]; exact h.fx, fun j hj => ?_, fun j => by rw [e2]; exact h.v j, fun j hj e => ?_, ?_⟩, ?_⟩
  · rw [e2]
    show (s.C.set k 1).getD j 0 ≤ 1
    rw [hg j]
    split
    · omega
    · exact h.c j hj
  · by_cases ej : j = k
    · subst ej; rw [huk] at e; cases e
    · rw [hu j ej] at e; exact h.free j hj e
  · have e3 := Sd.freeTo_less hu h2 huk n
    rw [if_pos h1] at e3
    have e4 : s.free = s.freeTo n := by unfold Sd.free; rw [h.N]
    have e5 : s.takeS.free = s.takeS.freeTo n := by unfold Sd.free; rw [show s.takeS.N = n by rw [e2]; exact h.N]
    have := h.cnt
    omega
  · rw [e2, Sd.of_nat _ (by show k < (s.C.set k 1).length; rw [List.length_set]; exact hkc)]
    show (s.C.set k 1).getD k 0 = 1
    rw [hg k, if_pos rfl]
theorem W6.full {s : Sd} {n : Nat} {gs : List Int} (h : W6 s n gs gs.length) : s.takeR = (0, 3) ∧ s.takeS = s := Sd.take_no (Sd.least_nothing (by have := h.cnt; omega))
theorem W6.end_ {s : Sd} {n : Nat} {gs : List Int} (h : W6 s n gs gs.length) {p : Nat} (h1 : 1 ≤ p) (h2 : p < n) : 0 < s.of (p : Int) ∧ 0 < (s.shareS (p : Int)).of (p : Int) ∧ ((s.shareS (p : Int)).lessS (p : Int)).waits = [] := by
  have hl := Sd.least_nothing (s := s) (by have := h.cnt; omega)
  have hu := Sd.least_none hl p (by rw [h.N]; exact h2)
  have hpc : p < s.C.length := by rw [h.fine.c, h.N]; exact h2
  have hpv : p < s.V.length := by rw [h.fine.v, h.N]; exact h2
  have hc : 0 < s.C.getD p 0 := by
    unfold Sd.u at hu
    rw [h.fx, h.v p, decide_eq_false (by omega : ¬ p < 1), Bool.false_or, Bool.or_false] at hu
    exact of_decide_eq_true hu
  have hof : s.of (p : Int) = s.C.getD p 0 := s.of_nat hpc
  have hs : s.shareS (p : Int) = { s with C := s.C.set p (s.C.getD p 0 + 1) } := by
    unfold Sd.shareS
    rw [if_pos (by omega), hof, Int.toNat_natCast]
  have hof2 : (s.shareS (p : Int)).of (p : Int) = s.C.getD p 0 + 1 := by
    rw [hs, Sd.of_nat _ (by show p < (s.C.set p _).length; rw [List.length_set]; exact hpc)]
    show (s.C.set p _).getD p 0 = _
    rw [getD_setN _ _ _ _ hpc, if_pos rfl]
  refine ⟨by omega, by omega, ?_⟩
  have hl2 : ((s.shareS (p : Int)).lessS (p : Int)).V = s.V.set p false := by
    unfold Sd.lessS
    rw [if_pos (by omega), hof2, Int.toNat_natCast, hs]
    show s.V.set p (decide (s.C.getD p 0 + 1 - 1 = 0)) = _
    rw [decide_eq_false (by omega)]
  unfold Sd.waits
  refine waitTo_nil _ fun j _ => ?_
  rw [hl2, getD_setB _ _ _ _ hpv]
  split
  · rfl
  · exact h.v j

end Go.Proofs.YthfeecgpgempdaaDoor

/- SpaceWaits over the bundle. -/
namespace Go.Proofs.YthfeecgpgempdaaDoor
set_option linter.unusedVariables false
set_option linter.unusedSimpArgs false
open Go.RowKit Dg

theorem mem_take_next (gs : List Int) (j : Nat) (x p : Int) (h : gs[j]? = some x) : decide (p ∈ gs.take (j + 1)) = (decide (p ∈ gs.take j) || decide (x = p)) := by
  rw [take_next gs j x h]
  by_cases e1 : p ∈ gs.take j
  · rw [decide_eq_true e1, decide_eq_true (by simp [e1])]; rfl
  · rw [decide_eq_false e1, Bool.false_or]
    by_cases e2 : x = p
    · rw [decide_eq_true e2, decide_eq_true (by simp [e2])]
    · rw [decide_eq_false e2, decide_eq_false (by simp [e1]; exact fun e => e2 e.symm)]
set_option maxRecDepth 100000 in
set_option maxHeartbeats 16000000 in
theorem swaits_any {Si : SpP} {Ok : World → Prop} (S : Spc Si Ok) (SH : SpShare Si Ok) (FR : SpFree Si Ok) (OF : SpOf Si Ok) (WA : SpWaits Si Ok) (W : World) (hok : Ok W) (n0 : Int) (a : Option Addr) (len cap : Nat) (zs : List Int) (m0 : Int) (hn : I64 n0) (hr : IsRow .i64 W a len cap zs) (hm : I64 m0) :
    Calls Tryd.prog 6 #[.int .i64 n0, .slice a len cap, .int .i64 m0] W fun e W' => e = .returned (.bool true) ∧ Below W.heap.size W W' := by
  obtain ⟨i0, hi, hz0, hz1, hz2⟩ := info_parts Tryd.info3
  obtain ⟨l, hl, hl64, hla, hlc, hcm, -, hlb⟩ := hr.ints
  have hlen : len ≤ 9223372036854775807 := by unfold maxLen at hcm; omega
  have HL := hid_of hl
  have H6 := hid_of hl64
  have HI := hid_of hla
  have HLB := hid_of hlb
  obtain ⟨hn1, hn2⟩ := hn
  obtain ⟨hm1, hm2⟩ := hm
  obtain ⟨q0, hq0⟩ : ∃ q : Nat, (q : Int) = n0 % 20 := ⟨(n0 % 20).toNat, by omega⟩
  have hq20 : q0 ≤ 19 := by omega
  obtain ⟨n, hnn⟩ : ∃ n, n = 2 + q0 := ⟨_, rfl⟩
  obtain ⟨m, hmm⟩ : ∃ m, m = 1 + q0 := ⟨_, rfl⟩
  have hnI : 2 + (q0 : Int) = (n : Int) := by omega
  have hmI : (n : Int) - 1 = (m : Int) := by omega
  have hn21 : n ≤ 21 := by omega
  have hn2' : 2 ≤ n := by omega
  have hmn : m + 1 = n := by omega
  have HW : Hid (Calls Tryd.prog 8 #[.int .i64 n0, .int .i64 20] W fun e w' => e = .returned (.int .i64 (q0 : Int)) ∧ W = w') := by rw [hq0]; exact within_any n0 20 W hn1 hn2 (by decide) (by decide)
  have HWM : Hid (∀ (x : Int) (w : World), I64 x → Calls Tryd.prog 8 #[.int .i64 x, .int .i64 (m : Int)] w fun e w' => e = .returned (.int .i64 (x % (m : Int))) ∧ w = w') := fun x w hx => within_any x (m : Int) w hx.1 hx.2 (by omega) (by omega)
  have HN := hid_of (sb_new S hok (Kept.refl (fun k => W.heap.size ≤ k) W) n 1 (by omega) (by omega) (by omega))
  have HM0 : Hid (I64 m0) := ⟨hm1, hm2⟩
  have HMM := hid_of hmm
  clear hok hl hl64 hla hlb hr hlc hcm hq0 hnn hmm hm1 hm2
  go_enter Tryd.func6, Tryd.ntmps6
  go_wp2_with fail
  refine HW.out.mono ?_
  rintro e w1 ⟨rfl, rfl⟩
  go_wp2_with fail
  refine HN.out.mono ?_
  rintro e w1 ⟨b, rfl, h1, -⟩
  have H1 := hid_of h1
  clear h1 HN HW
  go_wp2_with fail
  go_loopw [9] (fun v wr => ∃ (i : Nat) (s : Sd), 1 ≤ i ∧ i ≤ n ∧ v = .int .i64 (i : Int) ∧ Hid (W1 s n i) ∧ Hid (Sb Si Ok W (fun k => k < W.heap.size) wr b s)) (fun v _ => n - (intOf v).toNat)
  case atStart => exact ⟨1, newSd n 1, Nat.le_refl _, by omega, rfl, W1.new hn2' (by omega), H1⟩
  case round =>
    obtain ⟨i, s, hi1, hin, rfl, HS, HB⟩ := hrel
    by_cases hlt : i < n
    · obtain ⟨e1, e2⟩ := HS.out.take hi1 hlt
      have HC := hid_of (sb_take S HB.out (by have := HS.out.sum; omega) (i : Int) 0 e1 s.takeS rfl)
      have HS2 := hid_of e2
      have hii : ((i : Int) != (i : Int)) = false := by simp
      clear e1 e2
      go_wp2_with fail
      refine HC.out.mono ?_
      rintro e w3 ⟨rfl, h3, -⟩
      have H3 := hid_of h3
      clear h3
      go_wp2_with fail
      refine ⟨?_, by (simp [intOf]) <;> omega⟩
      first
        | exact ⟨i + 1, s.takeS, by omega, by omega, by go_num, HS2, H3⟩
        | ((repeat apply Exists.intro); refine ⟨?_, rfl⟩; exact ⟨i + 1, s.takeS, by omega, by omega, by go_num, HS2, H3⟩)
    · obtain rfl : i = n := by omega
      have HS0 := hid_of HS.out.done
      have HC := hid_of (sb_take S HB.out (by have := HS.out.sum; omega) 0 3 HS0.out.full.1 s HS0.out.full.2.1.symm)
      go_wp2_with fail
      refine HC.out.mono ?_
      rintro e w3 ⟨rfl, h3, -⟩
      have HX3 : Hid (Sx Si Ok W (fun _ => False) w3 b s (.slice none 0 0) []) := Sx.start (h3.less (fun k e => e.elim))
      clear h3 HC HS HB
      go_wp2_with fail
      go_loopw [14, 15] (fun xv v wr => ∃ (j : Nat) (gs : List Int) (s : Sd), j ≤ len ∧ j ≤ 10 ∧ v = .int .i64 (j : Int) ∧ gs.length ≤ j ∧ Hid (W3 s i gs) ∧ Hid (Sx Si Ok W (fun _ => False) wr b s xv gs)) (fun _ v _ => len - (intOf v).toNat)
      case atStart => exact ⟨0, [], s, Nat.zero_le _, Nat.zero_le _, rfl, Nat.le_refl _, HS0, HX3⟩
      case round =>
        obtain ⟨j, gs, s, hjl, hj10, rfl, hgl, HS, HX⟩ := hrel
        have hway : (decide ((j : Int) < (len : Int)) = true ∧ decide ((j : Int) < 10) = true ∧ j < len ∧ j < 10) ∨ ((decide ((j : Int) < (len : Int)) = true ∧ decide ((j : Int) < 10) = false ∧ j < len) ∨ (decide ((j : Int) < (len : Int)) = false ∧ decide (j < len) = false ∧ True)) := by
          by_cases e1 : j < len
          · by_cases e2 : j < 10
            · exact .inl ⟨decide_eq_true (by omega), decide_eq_true (by omega), e1, e2⟩
            · exact .inr (.inl ⟨decide_eq_true (by omega), decide_eq_false (by omega), e1⟩)
          · exact .inr (.inr ⟨decide_eq_false (by omega), decide_eq_false e1, trivial⟩)
        rcases hway with ⟨hd1, hd2, hil, hi2⟩ | hout
        · obtain ⟨x, hx⟩ : ∃ x, l[j]? = some x := ⟨_, List.getElem?_eq_getElem (by rw [HL.out]; exact hil)⟩
          have hx64 := H6.out x (List.mem_of_getElem? hx)
          obtain ⟨ab, off, rfl, hcx⟩ := HI.out.kept HX.out.sb.kept (fun y hy e => by have := HLB.out y hy (by omega); omega) j x hx
          obtain ⟨q, hq⟩ : ∃ q : Nat, (q : Int) = x % (m : Int) := ⟨(x % (m : Int)).toNat, by have := Int.emod_nonneg x (show (m : Int) ≠ 0 by omega); omega⟩
          have hqm : q < m := by have := Int.emod_lt_of_pos x (show (0 : Int) < (m : Int) by omega); omega
          obtain ⟨p, hp⟩ : ∃ p, p = 1 + q := ⟨_, rfl⟩
          have hpI : 1 + (q : Int) = (p : Int) := by omega
          have hp1 : 1 ≤ p := by omega
          have hpn : p < i := by omega
          have HWX : Hid (Calls Tryd.prog 8 #[.int .i64 x, .int .i64 (m : Int)] wr fun e w' => e = .returned (.int .i64 (q : Int)) ∧ wr = w') := by rw [hq]; exact HWM.out x wr hx64
          obtain ⟨ga, gc, hxv, hga, -⟩ := HX.out.row.slice
          obtain ⟨G, hG⟩ : ∃ G, G = gs.length := ⟨_, rfl⟩
          rw [← hG] at hxv hgl
          subst hxv
          have HG := hid_of hG
          have HGA := hid_of hga
          clear hx hx64 hq hqm hp hG hga
          go_wp2_with fail
          refine HWX.out.mono ?_
          rintro e w4 ⟨rfl, rfl⟩
          go_wp2_with fail
          go_loopw [17, 87] (fun o v w4 => ∃ k : Nat, k ≤ G ∧ o = .bool (decide ((p : Int) ∈ gs.take k)) ∧ v = .int .i64 (k : Int) ∧ wr = w4) (fun _ v _ => G - (intOf v).toNat)
          case atStart => exact ⟨0, Nat.zero_le _, by simp, rfl, rfl⟩
          case round =>
            obtain ⟨k, hk, rfl, rfl, rfl⟩ := hrel
            by_cases hkG : k < G
            · obtain ⟨y, hy⟩ : ∃ y, gs[k]? = some y := ⟨_, List.getElem?_eq_getElem (by rw [← HG.out]; exact hkG)⟩
              obtain ⟨gb, go, rfl, hgc⟩ := HGA.out k y hy
              have hnx := mem_take_next gs k y (p : Int) hy
              obtain ⟨ib, hib⟩ : ∃ ib, ib = decide ((p : Int) ∈ gs.take k) := ⟨_, rfl⟩
              rw [← hib] at hnx ⊢
              clear hy hib
              cases ib with
              | true =>
                have HNX : Hid (true = decide ((p : Int) ∈ gs.take (k + 1))) := by show _ = _; rw [hnx]; rfl
                clear hnx
                go_wp2_with fail
                refine ⟨?_, by (simp [intOf]) <;> omega⟩
                first
                  | exact ⟨k + 1, by omega, congrArg Value.bool HNX.out, by go_num, by trivial⟩
                  | ((repeat apply Exists.intro); refine ⟨?_, rfl⟩; exact ⟨k + 1, by omega, congrArg Value.bool HNX.out, by go_num, by trivial⟩)
              | false =>
                by_cases hyp : y = (p : Int)
                · subst hyp
                  have HNX : Hid (true = decide ((p : Int) ∈ gs.take (k + 1))) := by show _ = _; rw [hnx]; simp
                  have hbb : ((p : Int) == (p : Int)) = true := by simp
                  clear hnx
                  go_wp2_with fail
                  refine ⟨?_, by (simp [intOf]) <;> omega⟩
                  first
                    | exact ⟨k + 1, by omega, congrArg Value.bool HNX.out, by go_num, by trivial⟩
                    | ((repeat apply Exists.intro); refine ⟨?_, rfl⟩; exact ⟨k + 1, by omega, congrArg Value.bool HNX.out, by go_num, by trivial⟩)
                · have HNX : Hid (false = decide ((p : Int) ∈ gs.take (k + 1))) := by show _ = _; rw [hnx]; simp [hyp]
                  have hbb : (y == (p : Int)) = false := beq_eq_false_iff_ne.2 hyp
                  clear hnx hyp
                  go_wp2_with fail
                  refine ⟨?_, by (simp [intOf]) <;> omega⟩
                  first
                    | exact ⟨k + 1, by omega, congrArg Value.bool HNX.out, by go_num, by trivial⟩
                    | ((repeat apply Exists.intro); refine ⟨?_, rfl⟩; exact ⟨k + 1, by omega, congrArg Value.bool HNX.out, by go_num, by trivial⟩)
            · obtain rfl : k = G := by omega
              have htk : gs.take k = gs := List.take_of_length_le (by rw [← HG.out]; omega)
              rw [htk]
              clear htk
              by_cases hin2 : (p : Int) ∈ gs
              · rw [decide_eq_true hin2]
                obtain ⟨e1, e2⟩ := HS.out.old hp1 hpn hin2
                have HC := hid_of (sb_drop S HX.out.sb (p : Int) ⟨by omega, by omega⟩ (by have := HS.out.sum; omega) false (by rw [e1]; rfl) s e2.symm)
                clear e1 e2 hin2
                go_wp2_with fail
                refine HC.out.mono ?_
                rintro e w5 ⟨rfl, h5, hk5⟩
                have HX5 := hid_of (HX.out.turned h5 hk5)
                clear h5 hk5
                go_wp2_with fail
                refine ⟨?_, by (simp [intOf]) <;> omega⟩
                first
                  | exact ⟨j + 1, gs, s, by omega, by omega, by go_num, by rw [← HG.out]; omega, HS, HX5⟩
                  | ((repeat apply Exists.intro); refine ⟨?_, rfl⟩; exact ⟨j + 1, gs, s, by omega, by omega, by go_num, by rw [← HG.out]; omega, HS, HX5⟩)
              · rw [decide_eq_false hin2]
                obtain ⟨e1, e2⟩ := HS.out.drop hp1 hpn hin2
                have HC := hid_of (sb_drop S HX.out.sb (p : Int) ⟨by omega, by omega⟩ (by have := HS.out.sum; omega) true (by rw [e1]; rfl) (s.lessS (p : Int)) rfl)
                have HS5 := hid_of e2
                have hgl6 : gs.length ≤ 1000000 := by rw [← HG.out]; omega
                clear e1 e2 hin2
                go_wp2_with fail
                refine HC.out.mono ?_
                rintro e w5 ⟨rfl, h5, hk5⟩
                have HX5 := hid_of (HX.out.turned h5 hk5)
                clear h5 hk5
                go_wp2_with (at_builtin; go_must (refine wpList_append_sx S W w5 rfl (.tmp 107) (.tmp 109) 30 rfl i0 Tryd.underlying30 hi hz0 hz1 hz2 b (s.lessS (p : Int)) _ gs (by rfl) HX5.out (p : Int) (by rfl) hgl6 (fun k e => e.elim) ?_))
                intro v6 w6 hx6 _
                go_wp2_with fail
                refine ⟨?_, by (simp [intOf]) <;> omega⟩
                first
                  | exact ⟨j + 1, gs ++ [(p : Int)], s.lessS (p : Int), by omega, by omega, by go_num, by rw [List.length_append, ← HG.out]; simp; omega, HS5, hx6⟩
                  | ((repeat apply Exists.intro); refine ⟨?_, rfl⟩; exact ⟨j + 1, gs ++ [(p : Int)], s.lessS (p : Int), by omega, by omega, by go_num, by rw [List.length_append, ← HG.out]; simp; omega, HS5, hx6⟩)
        · have hg10 : gs.length ≤ 10 := by omega
          obtain ⟨ga, gc, hxv, hga, -⟩ := HX.out.row.slice
          obtain ⟨G, hG⟩ : ∃ G, G = gs.length := ⟨_, rfl⟩
          rw [← hG] at hxv hg10
          subst hxv
          have HG := hid_of hG
          have HTAKE := hid_of HS.out.full
          have HCNT := hid_of HS.out.cnt
          have hsum : sumC s.C ≤ 1000000 := by have := HS.out.sum; omega
          have HSU := hid_of hsum
          have hGG : ((G : Int) != (G : Int)) = false := by simp
          clear hG hga hsum hgl
          rcases hout with ⟨hd1, hd2, hd3⟩ | ⟨hd1, hd2, hd3⟩
          all_goals as_aux_lemma =>
            go_wp2_with fail
            refine (sb_take S HX.out.sb HSU.out 0 3 HTAKE.out.1 s HTAKE.out.2.1.symm).mono ?_
            rintro e w4 ⟨rfl, h4, hk4⟩
            have HX4 := hid_of (HX.out.turned h4 hk4)
            clear h4 hk4
            go_wp2_with fail
            refine (sb_free S FR HX4.out.sb HSU.out 0 HTAKE.out.2.2.symm).mono ?_
            rintro e w5 ⟨rfl, -, hb5⟩
            have HX5 := hid_of (HX4.out.newer S hb5)
            clear hb5
            go_wp2_with fail
            refine (sb_waits S WA HX5.out.sb HSU.out s.waits rfl).mono ?_
            rintro e w6 ⟨v6, rfl, ho6, -, hb6⟩
            obtain ⟨a6, c6, hv6, -, -⟩ := ho6.slice
            rw [HCNT.out, ← HG.out] at hv6
            subst hv6
            have HX6 := hid_of (HX5.out.newer S hb6)
            clear hb6 ho6
            go_wp2_with fail
            refine (sb_commit S HX6.out.sb HSU.out G (by rw [HG.out]; exact HCNT.out.symm) s.commitS rfl).mono ?_
            rintro e w7 ⟨rfl, h7, hk7⟩
            have HX7 := hid_of (HX6.out.turned h7 hk7)
            have HS7 := hid_of HS.out.commit
            clear h7 hk7
            go_wp2_with fail
            refine (sb_free S FR HX7.out.sb (by have := HS7.out.sum; omega) G (by have := HS7.out.cnt; have := HG.out; omega)).mono ?_
            rintro e w8 ⟨rfl, -, hb8⟩
            have HX8 := hid_of (HX7.out.newer S hb8)
            clear hb8 HX4 HX5 HX6 HX7 HTAKE HCNT HSU
            go_wp2_with fail
            go_loopw [145] (fun v wr => ∃ (t : Nat) (s : Sd), t ≤ G ∧ v = .int .i64 (t : Int) ∧ Hid (W6 s i gs t) ∧ Hid (Sx Si Ok W (fun _ => False) wr b s (.slice ga G gc) gs)) (fun v _ => G - (intOf v).toNat)
            case atStart => exact ⟨0, s.commitS, Nat.zero_le _, rfl, HS7, HX8⟩
            case round =>
              obtain ⟨t, s, htG, rfl, HS, HX⟩ := hrel
              have hsum : sumC s.C ≤ 1000000 := by have := HS.out.sum; omega
              have HSU := hid_of hsum
              clear hsum
              by_cases htl : t < G
              · obtain ⟨p, hpn, e1, hpg, e2, hpo⟩ := HS.out.take (by rw [← HG.out]; exact htl)
                have HC := hid_of (sb_take S HX.out.sb HSU.out (p : Int) 0 e1 s.takeS rfl)
                have HS2 := hid_of e2
                have HPG := hid_of hpg
                have HPO := hid_of hpo
                have hGt : decide (G < t) = false := decide_eq_false (by omega)
                have hGt2 : decide ((G : Int) < (t : Int)) = false := decide_eq_false (by omega)
                clear e1 e2 hpg hpo
                go_wp2_with fail
                refine HC.out.mono ?_
                rintro e w9 ⟨rfl, h9, hk9⟩
                have HX9 := hid_of (HX.out.turned h9 hk9)
                have HGA : Hid (IntsAt w9 ga gs) := IntsAt.of_owns (show World.ownsRow _ _ _ _ _ _ _ from HX9.out.row)
                clear h9 hk9 HC
                go_wp2_with fail
                go_loopw [24, 155] (fun o v wq => ∃ k : Nat, k ≤ G ∧ o = .bool (decide ((p : Int) ∈ gs.take k)) ∧ v = .int .i64 (k : Int) ∧ w9 = wq) (fun _ v _ => G - (intOf v).toNat)
                case atStart => exact ⟨0, Nat.zero_le _, by simp, rfl, rfl⟩
                case round =>
                  obtain ⟨k, hk, rfl, rfl, rfl⟩ := hrel
                  by_cases hkG : k < G
                  · obtain ⟨y, hy⟩ : ∃ y, gs[k]? = some y := ⟨_, List.getElem?_eq_getElem (by rw [← HG.out]; exact hkG)⟩
                    obtain ⟨gb, go, rfl, hgc⟩ := HGA.out k y hy
                    have hnx := mem_take_next gs k y (p : Int) hy
                    obtain ⟨ib, hib⟩ : ∃ ib, ib = decide ((p : Int) ∈ gs.take k) := ⟨_, rfl⟩
                    rw [← hib] at hnx ⊢
                    clear hy hib
                    cases ib with
                    | true =>
                      have HNX : Hid (true = decide ((p : Int) ∈ gs.take (k + 1))) := by show _ = _; rw [hnx]; rfl
                      clear hnx
                      go_wp2_with fail
                      refine ⟨?_, by (simp [intOf]) <;> omega⟩
                      first
                        | exact ⟨k + 1, by omega, congrArg Value.bool HNX.out, by go_num, by trivial⟩
                        | ((repeat apply Exists.intro); refine ⟨?_, rfl⟩; exact ⟨k + 1, by omega, congrArg Value.bool HNX.out, by go_num, by trivial⟩)
                    | false =>
                      by_cases hyp : y = (p : Int)
                      · subst hyp
                        have HNX : Hid (true = decide ((p : Int) ∈ gs.take (k + 1))) := by show _ = _; rw [hnx]; simp
                        have hbb : ((p : Int) == (p : Int)) = true := by simp
                        clear hnx
                        go_wp2_with fail
                        refine ⟨?_, by (simp [intOf]) <;> omega⟩
                        first
                          | exact ⟨k + 1, by omega, congrArg Value.bool HNX.out, by go_num, by trivial⟩
                          | ((repeat apply Exists.intro); refine ⟨?_, rfl⟩; exact ⟨k + 1, by omega, congrArg Value.bool HNX.out, by go_num, by trivial⟩)
                      · have HNX : Hid (false = decide ((p : Int) ∈ gs.take (k + 1))) := by show _ = _; rw [hnx]; simp [hyp]
                        have hbb : (y == (p : Int)) = false := beq_eq_false_iff_ne.2 hyp
                        clear hnx hyp
                        go_wp2_with fail
                        refine ⟨?_, by (simp [intOf]) <;> omega⟩
                        first
                          | exact ⟨k + 1, by omega, congrArg Value.bool HNX.out, by go_num, by trivial⟩
                          | ((repeat apply Exists.intro); refine ⟨?_, rfl⟩; exact ⟨k + 1, by omega, congrArg Value.bool HNX.out, by go_num, by trivial⟩)
                  · obtain rfl : k = G := by omega
                    have htk : gs.take k = gs := List.take_of_length_le (by rw [← HG.out]; omega)
                    rw [htk, decide_eq_true HPG.out]
                    clear htk
                    go_wp2_with fail
                    refine (sb_of S OF HX9.out.sb (p : Int) ⟨by omega, by omega⟩ (by have := HS2.out.sum; omega) 1 HPO.out.symm).mono ?_
                    rintro e w10 ⟨rfl, -, hb10⟩
                    have HX10 := hid_of (HX9.out.newer S hb10)
                    clear hb10
                    go_wp2_with fail
                    refine ⟨?_, by (simp [intOf]) <;> omega⟩
                    first
                      | exact ⟨t + 1, s.takeS, by omega, by go_num, HS2, HX10⟩
                      | ((repeat apply Exists.intro); refine ⟨?_, rfl⟩; exact ⟨t + 1, s.takeS, by omega, by go_num, HS2, HX10⟩)
              · obtain rfl : t = G := by omega
                have HS9 : Hid (W6 s i gs gs.length) := by show W6 _ _ _ _; rw [← HG.out]; exact HS.out
                obtain ⟨q, hq⟩ : ∃ q : Nat, (q : Int) = m0 % (m : Int) := ⟨(m0 % (m : Int)).toNat, by have := Int.emod_nonneg m0 (show (m : Int) ≠ 0 by omega); omega⟩
                have hqm : q < m := by have := Int.emod_lt_of_pos m0 (show (0 : Int) < (m : Int) by omega); omega
                obtain ⟨p, hp⟩ : ∃ p, p = 1 + q := ⟨_, rfl⟩
                have hpI : 1 + (q : Int) = (p : Int) := by omega
                have hp1 : 1 ≤ p := by omega
                have hpn : p < i := by omega
                have HWX : Hid (∀ w, Calls Tryd.prog 8 #[.int .i64 m0, .int .i64 (m : Int)] w fun e w' => e = .returned (.int .i64 (q : Int)) ∧ w = w') := fun w => by rw [hq]; exact HWM.out m0 w HM0.out
                have HE := hid_of (HS9.out.end_ hp1 hpn)
                have hss : sumC (s.shareS (p : Int)).C ≤ 1000000 := by have := s.sum_share (p : Int); have := HS.out.sum; omega
                have HSS := hid_of hss
                clear hq hqm hp hss
                go_wp2_with fail
                refine (sb_take S HX.out.sb HSU.out 0 3 HS9.out.full.1 s HS9.out.full.2.symm).mono ?_
                rintro e w9 ⟨rfl, h9, -⟩
                have H9 := hid_of h9
                clear h9
                go_wp2_with fail
                refine (HWX.out w9).mono ?_
                rintro e w10 ⟨rfl, rfl⟩
                go_wp2_with fail
                refine (sb_share S SH H9.out (p : Int) ⟨by omega, by omega⟩ HSU.out true (decide_eq_true HE.out.1).symm (s.shareS (p : Int)) rfl).mono ?_
                rintro e w11 ⟨rfl, h11, -⟩
                have H11 := hid_of h11
                clear h11
                go_wp2_with fail
                refine (sb_drop S H11.out (p : Int) ⟨by omega, by omega⟩ HSS.out true (decide_eq_true HE.out.2.1).symm ((s.shareS (p : Int)).lessS (p : Int)) rfl).mono ?_
                rintro e w12 ⟨rfl, h12, -⟩
                have H12 := hid_of h12
                clear h12
                go_wp2_with fail
                refine (sb_waits S WA H12.out (by have := (s.shareS (p : Int)).sum_less (p : Int); have := HSS.out; omega) [] HE.out.2.2.symm).mono ?_
                rintro e w13 ⟨v13, rfl, ho13, h13, -⟩
                obtain ⟨a13, c13, rfl, -, -⟩ := ho13.slice
                have H13 := hid_of h13
                clear h13 ho13
                go_wp2_with fail
                refine (wakes13_any S FR w13 (H13.out.okw S)).mono ?_
                rintro e w14 ⟨rfl, hb14⟩
                have HEN := hid_of (H13.out.newer S hb14).end_
                clear hb14
                go_wp2_with fail
                go_ret
                exact ⟨rfl, HEN.out⟩

end Go.Proofs.YthfeecgpgempdaaDoor

/- Two rows of bools beside a space: which sectors have a count, which wait. -/
namespace Go.Proofs.YthfeecgpgempdaaDoor
set_option linter.unusedVariables false
set_option linter.unusedSimpArgs false
open Go.RowKit Dg

structure OS (s : Sd) (f : Nat) (H T : List Bool) : Prop where
  fine : s.Fine
  N : s.N = 14
  fx : s.fx = f
  hl : H.length = 14
  tl : T.length = 14
  c : ∀ k, k < 14 → s.C.getD k 0 = if H.getD k false then 1 else 0
  v : ∀ k, s.V.getD k false = T.getD k false
theorem OS.sum {s : Sd} {f : Nat} {H T : List Bool} (h : OS s f H T) : sumC s.C ≤ 14 := by
  unfold sumC
  rw [h.fine.c, h.N]
  exact sumTo_le1 _ _ fun k hk => by rw [h.c k hk]; split <;> omega
theorem OS.new {f : Nat} (hf : f ≤ 14) : OS (newSd 14 f) f (List.replicate 14 false) (List.replicate 14 false) :=
  ⟨newSd_fine (by decide) (by decide) hf, rfl, rfl, rfl, rfl, fun k hk => by rw [getD_repF]; exact getD_rep0 _ _, fun k => rfl⟩
theorem OS.of {s : Sd} {f : Nat} {H T : List Bool} (h : OS s f H T) {k : Nat} (hk : k < 14) : s.of (k : Int) = if H.getD k false then 1 else 0 := by
  rw [s.of_nat (by rw [h.fine.c, h.N]; exact hk), h.c k hk]
theorem OS.u {s : Sd} {f : Nat} {H T : List Bool} (h : OS s f H T) {k : Nat} (hk : k < 14) : s.uZ (k : Int) = (decide (k < f) || H.getD k false || T.getD k false) := by
  rw [s.uZ_nat (by rw [h.N]; exact hk), Sd.u, h.fx, h.c k hk, h.v k]
  cases H.getD k false <;> simp
theorem set_getD (l : List Bool) (k : Nat) : l.set k (l.getD k false) = l := by
  by_cases hk : k < l.length
  · rw [List.getD_eq_getElem?_getD, List.getElem?_eq_getElem hk]
    exact List.set_getElem_self hk
  · exact List.set_eq_of_length_le (by omega)
/-- Drop. -/
theorem OS.drop {s : Sd} {f : Nat} {H T : List Bool} (h : OS s f H T) {k : Nat} (hk : k < 14) : decide (0 < s.of (k : Int)) = H.getD k false ∧ OS (s.lessS (k : Int)) f (H.set k false) (T.set k (T.getD k false || H.getD k false)) := by
  have ho := h.of hk
  have hkc : k < s.C.length := by rw [h.fine.c, h.N]; exact hk
  have hkv : k < s.V.length := by rw [h.fine.v, h.N]; exact hk
  have hkH : k < H.length := by rw [h.hl]; exact hk
  have hkT : k < T.length := by rw [h.tl]; exact hk
  cases e : H.getD k false with
  | false =>
    rw [e] at ho
    have ho2 : s.of (k : Int) = 0 := ho
    have e1 : s.lessS (k : Int) = s := by unfold Sd.lessS; rw [if_neg (by omega)]
    have e2 : H.set k false = H := by have := set_getD H k; rw [e] at this; exact this
    rw [e1, e2, Bool.or_false, set_getD T k, ho2]
    exact ⟨rfl, h⟩
  | true =>
    rw [e] at ho
    have ho2 : s.of (k : Int) = 1 := ho
    have e1 : s.lessS (k : Int) = { s with C := s.C.set k 0, V := s.V.set k true } := by
      unfold Sd.lessS
      rw [if_pos (by omega), ho2, Int.toNat_natCast]
      rfl
    rw [Bool.or_true, ho2]
    refine ⟨rfl, ?_⟩
    have hf := h.fine.lessened (k : Int)
    rw [e1] at hf
    rw [e1]
    refine ⟨hf, h.N, h.fx, by rw [List.length_set]; exact h.hl, by rw [List.length_set]; exact h.tl, fun j hj => ?_, fun j => ?_⟩
    · show (s.C.set k 0).getD j 0 = _
      rw [getD_setN _ _ _ _ hkc, getD_setB _ _ _ _ hkH]
      by_cases e2 : k = j
      · rw [if_pos e2, if_pos e2]; rfl
      · rw [if_neg e2, if_neg e2]; exact h.c j hj
    · show (s.V.set k true).getD j false = _
      rw [getD_setB _ _ _ _ hkv, getD_setB _ _ _ _ hkT]
      by_cases e2 : k = j
      · rw [if_pos e2, if_pos e2]
      · rw [if_neg e2, if_neg e2]; exact h.v j
/-- Commit. -/
theorem OS.commit {s : Sd} {f : Nat} {H T : List Bool} (h : OS s f H T) : s.waits.length = (waitTo T 14).length ∧ OS s.commitS f H (List.replicate 14 false) := by
  constructor
  · unfold Sd.waits
    rw [h.N]
    have key : ∀ m, waitTo s.V m = waitTo T m := by
      intro m
      induction m with
      | zero => rfl
      | succ m ih =>
        show (if s.V.getD m false then waitTo s.V m ++ [(m : Int)] else waitTo s.V m) = (if T.getD m false then waitTo T m ++ [(m : Int)] else waitTo T m)
        rw [ih, h.v m]
    rw [key]
  · exact ⟨h.fine.committed, h.N, h.fx, h.hl, rfl, h.c, fun k => by rw [getD_repF]; exact getD_repF _ _⟩
/-- The least free one that is not below m, or -1. -/
def IsLst (H T : List Bool) (m : Nat) (z : Int) : Prop :=
  (∃ k : Nat, m ≤ k ∧ k < 14 ∧ H.getD k false = false ∧ T.getD k false = false ∧ (∀ j, m ≤ j → j < k → (H.getD j false || T.getD j false) = true) ∧ z = (k : Int)) ∨
  (z = -1 ∧ ∀ j, m ≤ j → j < 14 → (H.getD j false || T.getD j false) = true)
theorem IsLst.first (H T : List Bool) : IsLst H T 14 (-1) := .inr ⟨rfl, fun j h1 h2 => by omega⟩
theorem IsLst.free {H T : List Bool} {m : Nat} (hm : m < 14) (h1 : H.getD m false = false) (h2 : T.getD m false = false) : IsLst H T m (m : Int) :=
  .inl ⟨m, Nat.le_refl _, hm, h1, h2, fun j h3 h4 => by omega, rfl⟩
theorem IsLst.used {H T : List Bool} {m : Nat} {z : Int} (h : IsLst H T (m + 1) z) (hu : (H.getD m false || T.getD m false) = true) : IsLst H T m z := by
  rcases h with ⟨k, h1, h2, h3, h4, h5, h6⟩ | ⟨h1, h2⟩
  · exact .inl ⟨k, by omega, h2, h3, h4, fun j e1 e2 => by
      by_cases e : j = m
      · rw [e]; exact hu
      · exact h5 j (by omega) e2, h6⟩
  · exact .inr ⟨h1, fun j e1 e2 => by
      by_cases e : j = m
      · rw [e]; exact hu
      · exact h2 j (by omega) e2⟩
/-- Take. -/
theorem OS.take {s : Sd} {f : Nat} {H T : List Bool} (h : OS s f H T) {z : Int} (hz : IsLst H T f z) :
    (∃ k : Nat, k < 14 ∧ z = (k : Int) ∧ s.takeR = ((k : Int), 0) ∧ OS s.takeS f (H.set k true) T) ∨ (z = -1 ∧ s.takeR = (0, 3) ∧ s.takeS = s) := by
  have huu : ∀ k, k < 14 → s.u k = (decide (k < f) || H.getD k false || T.getD k false) := fun k hk => by
    have := h.u hk
    rw [s.uZ_nat (by rw [h.N]; exact hk)] at this
    exact this
  rcases hz with ⟨k, h1, h2, h3, h4, h5, h6⟩ | ⟨h1, h2⟩
  · refine .inl ⟨k, h2, h6, ?_⟩
    have hl : s.least = some k := Sd.least_of (by rw [h.N]; exact h2) (by rw [huu k h2, h3, h4, decide_eq_false (by omega)]; rfl) (fun j hj => by
      rw [huu j (by omega)]
      by_cases e : j < f
      · rw [decide_eq_true e]; rfl
      · rw [Bool.or_assoc, h5 j (by omega) hj, Bool.or_true])
    obtain ⟨e1, e2⟩ := Sd.take_yes hl
    refine ⟨e1, ?_⟩
    have hf := h.fine.taken
    rw [e2] at hf
    rw [e2]
    refine ⟨hf, h.N, h.fx, by rw [List.length_set]; exact h.hl, h.tl, fun j hj => ?_, h.v⟩
    show (s.C.set k 1).getD j 0 = _
    rw [getD_setN _ _ _ _ (by rw [h.fine.c, h.N]; exact h2), getD_setB _ _ _ _ (by rw [h.hl]; exact h2)]
    by_cases e : k = j
    · rw [if_pos e, if_pos e]; rfl
    · rw [if_neg e, if_neg e]; exact h.c j hj
  · refine .inr ⟨h1, ?_⟩
    exact Sd.take_no (Sd.least_full (fun j hj => by
      rw [h.N] at hj
      rw [huu j hj]
      by_cases e : j < f
      · rw [decide_eq_true e]; rfl
      · rw [Bool.or_assoc, h2 j (by omega) hj, Bool.or_true]))
/-- The row of those that wait, the first j turned off. -/
def offTo (T : List Bool) (j : Nat) : List Bool := List.replicate j false ++ T.drop j
theorem offTo_zero (T : List Bool) : offTo T 0 = T := rfl
theorem offTo_all (T : List Bool) (h : T.length = 14) : offTo T 14 = List.replicate 14 false := by
  unfold offTo
  rw [List.drop_of_length_le (by omega), List.append_nil]
theorem offTo_get (T : List Bool) (j : Nat) (h : j < T.length) : (offTo T j)[j]? = some (T.getD j false) := by
  unfold offTo
  rw [List.getElem?_append_right (by simp), List.length_replicate, Nat.sub_self, List.getElem?_drop, List.getD_eq_getElem?_getD]
  simp [h]
theorem offTo_set (T : List Bool) (j : Nat) (h : j < T.length) : (offTo T j).set j false = offTo T (j + 1) := by
  unfold offTo
  rw [List.set_append_right _ _ (by simp), List.length_replicate, Nat.sub_self, List.drop_eq_getElem_cons h, List.set_cons_zero, List.replicate_succ', List.append_assoc]
  rfl
theorem waitTo_step (T : List Bool) (j : Nat) : (waitTo T (j + 1)).length = (waitTo T j).length + (if T.getD j false then 1 else 0) := by
  show (if T.getD j false then waitTo T j ++ [(j : Int)] else waitTo T j).length = _
  cases T.getD j false <;> simp

end Go.Proofs.YthfeecgpgempdaaDoor
