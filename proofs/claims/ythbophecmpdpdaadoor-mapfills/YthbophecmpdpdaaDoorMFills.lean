/- MapFills. -/
import Derived.Test.YthbophecmpdpdaaDoorPart04
namespace Go.Proofs.YthbophecmpdpdaaDoor
set_option linter.unusedVariables false
set_option linter.unusedSimpArgs false
open Go.RowKit Dg

/-- The first i are used. -/
def takeM (N i : Nat) : List Bool := List.replicate i true ++ List.replicate (N - i) false
theorem length_takeM {N i : Nat} (h : i ≤ N) : (takeM N i).length = N := by simp [takeM]; omega
theorem takeM_get {N i : Nat} (h : i ≤ N) (j : Nat) : (takeM N i)[j]? = if j < i then some true else if j < N then some false else none := by
  unfold takeM
  by_cases h1 : j < i
  · rw [if_pos h1, List.getElem?_append_left (by simp; exact h1), List.getElem?_replicate, if_pos h1]
  · rw [if_neg h1, List.getElem?_append_right (by simp; omega), List.getElem?_replicate, List.length_replicate]
    by_cases h2 : j < N
    · rw [if_pos h2, if_pos (by omega)]
    · rw [if_neg h2, if_neg (by omega)]
theorem takeM_zero (N : Nat) : List.replicate N false = takeM N 0 := by simp [takeM]
theorem takeM_set {N i : Nat} (h : i < N) : (takeM N i).set i true = takeM N (i + 1) := by
  refine List.ext_getElem? fun j => ?_
  rw [List.getElem?_set, takeM_get (by omega), takeM_get (by omega), length_takeM (by omega)]
  by_cases e : i = j
  · subst e; rw [if_pos rfl, if_pos h, if_pos (by omega)]
  · rw [if_neg e]
    by_cases h1 : j < i
    · rw [if_pos h1, if_pos (by omega)]
    · rw [if_neg h1, if_neg (show ¬ j < i + 1 by omega)]
theorem takeM_first {N i : Nat} (h : i < N) : IsFirst (takeM N i) 0 (i : Int) :=
  .inl ⟨i, rfl, by omega, by rw [takeM_get (by omega), if_neg (by omega), if_pos h], fun j _ hj => by rw [takeM_get (by omega), if_pos hj]; exact fun e => by cases e⟩
theorem takeM_run {N i d : Nat} (h : i < N) (hd : d = N - i) : IsRun (takeM N i) (d : Int) (i : Int) :=
  .inl ⟨i, d, rfl, by omega, rfl, fun j hj => by rw [takeM_get (by omega), if_neg (by omega), if_pos (by omega)], fun j hj hf => by
    have e := hf 0 (by omega)
    rw [takeM_get (by omega), if_pos (by omega)] at e
    cases e⟩
theorem takeM_all {N j : Nat} : (takeM N N)[j]? ≠ some false := by
  rw [takeM_get (Nat.le_refl _)]
  by_cases h : j < N
  · rw [if_pos h]; exact fun e => by cases e
  · rw [if_neg h, if_neg h]; exact fun e => by cases e
theorem takeM_none (N : Nat) : IsFirst (takeM N N) 0 (-1) ∧ IsRun (takeM N N) 1 (-1) :=
  ⟨.inr ⟨rfl, fun j _ => takeM_all⟩, .inr ⟨rfl, .inr ⟨1, rfl, fun i hf => takeM_all (hf 0 (by decide))⟩⟩⟩
theorem takeM_hole {N k : Nat} (h : k < N) : IsFirst ((takeM N N).set k false) 0 (k : Int) := by
  refine .inl ⟨k, rfl, by omega, by rw [List.getElem?_set, if_pos rfl, if_pos (by rw [length_takeM (Nat.le_refl _)]; exact h)], fun j _ hj => ?_⟩
  rw [List.getElem?_set, if_neg (by omega)]
  exact takeM_all
theorem takeM_back {N k : Nat} (h : k < N) : ((takeM N N).set k false).set k true = takeM N N := by
  refine List.ext_getElem? fun j => ?_
  rw [List.set_set, List.getElem?_set, length_takeM (Nat.le_refl _)]
  by_cases e : k = j
  · subst e; rw [if_pos rfl, if_pos h, takeM_get (Nat.le_refl _), if_pos h]
  · rw [if_neg e]
theorem usedN_all {m : List Bool} : ∀ j, (∀ i, i < j → m[i]? = some true) → usedN m j = j
  | 0, _ => rfl
  | j + 1, h => by
    unfold usedN
    rw [usedN_all j fun i hi => h i (by omega), if_pos (h j (by omega))]
theorem takeM_dgt {N k : Nat} (h : k < N) : dgt (takeM N N) k = true := by unfold dgt; rw [takeM_get (Nat.le_refl _), if_pos h]; rfl
theorem takeM_sets {N k : Nat} (h : k < N) : setsB (takeM N N) (k : Int) false = true ∧ setsB (takeM N N) (k : Int) true = false ∧ setM (takeM N N) (k : Int) false = (takeM N N).set k false := by
  have e : decide (0 ≤ (k : Int) ∧ (k : Int) < ((takeM N N).length : Int)) = true := by rw [length_takeM (Nat.le_refl _)]; exact decide_eq_true (by omega)
  have e1 : setsB (takeM N N) (k : Int) false = true := by unfold setsB; rw [e, usedZ_nat, takeM_dgt h]; rfl
  refine ⟨e1, ?_, ?_⟩
  · unfold setsB; rw [e, usedZ_nat, takeM_dgt h]; rfl
  · unfold setM; rw [if_pos e1, Int.toNat_natCast]
set_option maxRecDepth 100000 in
set_option maxHeartbeats 8000000 in
theorem mfills_any (W : World) (hT : Tab W) (n k : Int) (hn : I64 n) (hk : I64 k) :
    Calls Tryd.prog 3 #[.int .i64 n, .int .i64 k] W fun e W' => e = .returned (.bool true) ∧ Below W.heap.size W W' := by
  obtain ⟨hn1, hn2⟩ := hn
  obtain ⟨hk1, hk2⟩ := hk
  obtain ⟨N, hN⟩ : ∃ N : Nat, (N : Int) = 1 + n % 300 := ⟨(1 + n % 300).toNat, by omega⟩
  have hN1 : 1 ≤ N := by omega
  have hN3 : N ≤ 300 := by omega
  obtain ⟨k0, hk0⟩ : ∃ k0 : Nat, k % (N : Int) = (k0 : Int) := ⟨(k % (N : Int)).toNat, by have := Int.emod_nonneg k (show (N : Int) ≠ 0 by omega); omega⟩
  have hkN : k0 < N := by have := Int.emod_lt_of_pos k (show 0 < (N : Int) by omega); omega
  have hN' : (1 : Int) + n % 300 = (N : Int) := hN.symm
  have HW1 := hid_of (within_any n 300 W hn1 hn2 (by decide) (by decide))
  have HWK : Hid (∀ w : World, Calls Tryd.prog 7 #[.int .i64 k, .int .i64 (N : Int)] w fun e w' => e = .returned (.int .i64 (k0 : Int)) ∧ w = w') := fun w => by
    have e := within_any k (N : Int) w hk1 hk2 (by omega) (by omega)
    rw [hk0] at e
    exact e
  have HN := hid_of (mo_new W W hT (Below.refl _ _) N hN1 (by omega))
  rw [takeM_zero] at HN
  have HT := hid_of hT
  clear hN hT hk0
  go_enter Tryd.func3, Tryd.ntmps3
  go_wp2_with fail
  refine HW1.out.mono ?_
  rintro e w1 ⟨rfl, rfl⟩
  go_wp2_with fail
  refine HN.out.mono ?_
  rintro e w1 ⟨b, g, c, rfl, ho, -, -, -⟩
  have HO := hid_of ho
  clear ho HN
  go_wp2_with fail
  go_loopw [7] (fun v wr => ∃ i : Nat, i ≤ N ∧ v = .int .i64 (i : Int) ∧ Hid (MpO W wr b g c (takeM N i))) (fun v _ => N - (intOf v).toNat)
  case atStart => exact ⟨0, Nat.zero_le _, rfl, HO⟩
  case round =>
    obtain ⟨i, hi, rfl, ho⟩ := hrel
    by_cases hiN : i < N
    · obtain ⟨d, hd⟩ : ∃ d, d = N - i := ⟨_, rfl⟩
      have hdI : (N : Int) - (i : Int) = (d : Int) := by omega
      have HR := hid_of (mrun_is wr b g c _ ho.out.is (d : Int) ⟨by omega, by omega⟩ (i : Int) (takeM_run hiN hd))
      have HF := hid_of (takeM_first hiN)
      have HS : Hid (takeM N (i + 1) = if 0 ≤ (i : Int) then (takeM N i).set (i : Int).toNat true else takeM N i) := by
        show _ = _
        rw [if_pos (by omega), Int.toNat_natCast, takeM_set hiN]
      have hii : ((i : Int) != (i : Int)) = false := by simp
      have HTK := hid_of (mo_take ho.out (i : Int) HF.out (takeM N (i + 1)) HS.out)
      clear hd ho
      go_wp2_with fail
      refine HR.out.mono ?_
      rintro e w2 ⟨rfl, rfl⟩
      go_wp2_with fail
      refine HTK.out.mono ?_
      rintro e w2 ⟨rfl, ho2⟩
      have HO2 := hid_of ho2
      clear ho2
      go_wp2_with fail
      refine ⟨?_, by (simp [intOf]) <;> omega⟩
      first
        | exact ⟨i + 1, by omega, by go_num, HO2⟩
        | ((repeat apply Exists.intro); refine ⟨?_, rfl⟩; exact ⟨i + 1, by omega, by go_num, HO2⟩)
    · obtain rfl : i = N := by omega
      have HNO := hid_of (takeM_none i)
      have hSS := takeM_sets hkN
      have HSS := hid_of hSS
      have HHO := hid_of (takeM_hole hkN)
      have HBK : Hid (takeM i i = if 0 ≤ (k0 : Int) then ((takeM i i).set k0 false).set (k0 : Int).toNat true else (takeM i i).set k0 false) := by
        show _ = _
        rw [if_pos (by omega), Int.toNat_natCast, takeM_back hkN]
      have HUS : Hid (i = usedN (takeM i i) (takeM i i).length) := by
        show _ = _
        rw [length_takeM (Nat.le_refl _), usedN_all i fun j hj => by rw [takeM_get (Nat.le_refl _), if_pos hj]]
      clear hSS
      go_wp2_with fail
      refine (HWK.out _).mono ?_
      rintro e w2 ⟨rfl, rfl⟩
      go_wp2_with fail
      refine (mo_take ho.out (-1) HNO.out.1 (takeM i i) rfl).mono ?_
      rintro e w2 ⟨rfl, ho2⟩
      have HO2 := hid_of ho2
      clear ho2 ho
      go_wp2_with fail
      refine (mfirst_is w2 b g c _ HO2.out.is 0 ⟨by decide, by decide⟩ (-1) HNO.out.1).mono ?_
      rintro e w3 ⟨rfl, rfl⟩
      go_wp2_with fail
      refine (mrun_is w2 b g c _ HO2.out.is 1 ⟨by decide, by decide⟩ (-1) HNO.out.2).mono ?_
      rintro e w3 ⟨rfl, rfl⟩
      go_wp2_with fail
      refine (mo_set HO2.out (k0 : Int) ⟨by omega, by omega⟩ false true HSS.out.1.symm ((takeM i i).set k0 false) HSS.out.2.2.symm).mono ?_
      rintro e w3 ⟨rfl, ho3⟩
      have HO3 := hid_of ho3
      clear ho3 HO2
      go_wp2_with fail
      refine (mfirst_is w3 b g c _ HO3.out.is 0 ⟨by decide, by decide⟩ (k0 : Int) HHO.out).mono ?_
      rintro e w4 ⟨rfl, rfl⟩
      go_wp2_with fail
      refine (mo_take HO3.out (k0 : Int) HHO.out (takeM i i) HBK.out).mono ?_
      rintro e w4 ⟨rfl, ho4⟩
      have HO4 := hid_of ho4
      clear ho4 HO3
      go_wp2_with fail
      refine (mo_count HO4.out i HUS.out).mono ?_
      rintro e w5 ⟨rfl, ho5, -⟩
      have HO5 := hid_of ho5
      clear ho5 HO4
      go_wp2_with fail
      refine (mo_set HO5.out (k0 : Int) ⟨by omega, by omega⟩ true false HSS.out.2.1.symm (setM (takeM i i) (k0 : Int) true) rfl).mono ?_
      rintro e w6 ⟨rfl, ho6⟩
      have HO6 := hid_of ho6
      clear ho6 HO5
      go_wp2_with fail
      refine (wakes11_any w6 HO6.out.is.tab).mono ?_
      rintro e w7 ⟨rfl, hb7⟩
      have HB7 : Hid (Below W.heap.size W w7) := HO6.out.bel.trans (hb7.mono HO6.out.bel.size)
      clear hb7
      go_wp2_with fail
      go_ret
      exact ⟨rfl, HB7.out⟩

end Go.Proofs.YthbophecmpdpdaaDoor
