/- MapRuns. -/
import Derived.Test.YthbophecmpdpdaaDoorPart04
namespace Go.Proofs.YthbophecmpdpdaaDoor
set_option linter.unusedVariables false
set_option linter.unusedSimpArgs false
open Go.RowKit Dg

theorem first_run {m : List Bool} {r : Int} (h : IsFirst m 0 r) : IsRun m 1 r := by
  rcases h with ⟨k, rfl, h1, h2, h3⟩ | ⟨rfl, h1⟩
  · refine .inl ⟨k, 1, rfl, by decide, rfl, fun j hj => ?_, fun i hi hf => h3 i (by omega) hi (hf 0 (by decide))⟩
    obtain rfl : j = 0 := by omega
    exact h2
  · exact .inr ⟨rfl, .inr ⟨1, rfl, fun i hf => h1 i (by omega) (hf 0 (by decide))⟩⟩
/-- Of the first i places: r free ones at the end, used ahead of them; no run of K. -/
structure RunI (m : List Bool) (K i r : Nat) : Prop where
  le : r ≤ i
  free : FreeAt m (i - r) r
  used : i ≠ r → m[i - r - 1]? ≠ some false
  none : ∀ p, p + K ≤ i → ¬ FreeAt m p K
theorem RunI.zero (m : List Bool) {K : Nat} (hK : 1 ≤ K) : RunI m K 0 0 := ⟨Nat.le_refl _, fun j hj => absurd hj (Nat.not_lt_zero _), fun h => absurd rfl h, fun p hp => by omega⟩
theorem RunI.hit {m : List Bool} {K i r : Nat} (h : RunI m K i r) (hK : 1 ≤ K) (hm : m[i]? = some true) : RunI m K (i + 1) 0 where
  le := Nat.zero_le _
  free := fun j hj => absurd hj (Nat.not_lt_zero _)
  used := fun _ => by rw [show i + 1 - 0 - 1 = i by omega, hm]; exact fun e => by cases e
  none := fun p hp hf => by
    by_cases e : p + K ≤ i
    · exact h.none p e hf
    · have h1 := hf (K - 1) (by omega)
      rw [show p + (K - 1) = i by omega, hm] at h1
      cases h1
theorem RunI.more {m : List Bool} {K i r : Nat} (h : RunI m K i r) (hm : m[i]? = some false) (hr : r + 1 < K) : RunI m K (i + 1) (r + 1) where
  le := by have := h.le; omega
  free := fun j hj => by
    have hle := h.le
    by_cases e : j = r
    · rw [e, show i + 1 - (r + 1) + r = i by omega]; exact hm
    · rw [show i + 1 - (r + 1) + j = i - r + j by omega]; exact h.free j (by omega)
  used := fun hne => by rw [show i + 1 - (r + 1) - 1 = i - r - 1 by omega]; exact h.used (by omega)
  none := fun p hp hf => by
    have hle := h.le
    by_cases e : p + K ≤ i
    · exact h.none p e hf
    · by_cases e2 : i = r
      · omega
      · refine h.used e2 ?_
        have h1 := hf (i - r - 1 - p) (by omega)
        rw [show p + (i - r - 1 - p) = i - r - 1 by omega] at h1
        exact h1
theorem RunI.done {m : List Bool} {K i r : Nat} {R : Int} (h : RunI m K i r) (hR : IsRun m (K : Int) R) (hm : m[i]? = some false) (hr : r + 1 = K) : R = (i : Int) - (K : Int) + 1 := by
  have hle := h.le
  have e : R = ((i + 1 - K : Nat) : Int) := by
    refine hR.one (.inl ⟨i + 1 - K, K, rfl, by omega, rfl, fun j hj => ?_, fun p hp => h.none p (by omega)⟩)
    by_cases e : j = r
    · rw [e, show i + 1 - K + r = i by omega]; exact hm
    · rw [show i + 1 - K + j = i - r + j by omega]; exact h.free j (by omega)
  omega
theorem RunI.end {m : List Bool} {K r : Nat} {R : Int} (h : RunI m K m.length r) (hR : IsRun m (K : Int) R) (hK : 1 ≤ K) : R = -1 :=
  hR.one (.inr ⟨rfl, .inr ⟨K, rfl, fun p hf => h.none p (hf.le hK) hf⟩⟩)
set_option maxRecDepth 100000 in
set_option maxHeartbeats 8000000 in
theorem mruns_any (W : World) (hT : Tab W) (n : Int) (a : Option Addr) (len cap : Nat) (zs : List Int) (k : Int) (hn : I64 n) (hr : IsRow .i64 W a len cap zs) (hk : I64 k) :
    Calls Tryd.prog 6 #[.int .i64 n, .slice a len cap, .int .i64 k] W fun e W' => e = .returned (.bool true) ∧ Below W.heap.size W W' := by
  obtain ⟨l, hl, hl64, hla, hlc, hcm, -, -⟩ := hr.ints
  unfold maxLen at hcm
  obtain ⟨hn1, hn2⟩ := hn
  obtain ⟨hk1, hk2⟩ := hk
  obtain ⟨N, hN⟩ : ∃ N : Nat, (N : Int) = 1 + n % 200 := ⟨(1 + n % 200).toNat, by omega⟩
  obtain ⟨K, hK⟩ : ∃ K : Nat, (K : Int) = 1 + k % 30 := ⟨(1 + k % 30).toNat, by omega⟩
  have hN1 : 1 ≤ N := by omega
  have hN3 : N ≤ 200 := by omega
  have hK1 : 1 ≤ K := by omega
  have hK3 : K ≤ 30 := by omega
  have hN' : (1 : Int) + n % 200 = (N : Int) := hN.symm
  have hK' : (1 : Int) + k % 30 = (K : Int) := hK.symm
  have HW1 := hid_of (within_any n 200 W hn1 hn2 (by decide) (by decide))
  have HWK : Hid (∀ w : World, Calls Tryd.prog 7 #[.int .i64 k, .int .i64 30] w fun e w' => e = .returned (.int .i64 (k % 30)) ∧ w = w') := fun w => within_any k 30 w hk1 hk2 (by decide) (by decide)
  have HWX : Hid (∀ (w : World) (x : Int), I64 x → ∃ i : Nat, i < N ∧ Calls Tryd.prog 7 #[.int .i64 x, .int .i64 (N : Int)] w fun e w' => e = .returned (.int .i64 (i : Int)) ∧ w = w') := fun w x hx => by
    have e := within_any x (N : Int) w hx.1 hx.2 (by omega) (by omega)
    have h0 := Int.emod_nonneg x (show (N : Int) ≠ 0 by omega)
    have h1 := Int.emod_lt_of_pos x (show 0 < (N : Int) by omega)
    obtain ⟨i, hi⟩ : ∃ i : Nat, x % (N : Int) = (i : Int) := ⟨(x % (N : Int)).toNat, by omega⟩
    rw [hi] at e
    exact ⟨i, by omega, e⟩
  have HN := hid_of (mo_new W W hT (Below.refl _ _) N hN1 (by omega))
  have HLA : Hid (∀ j, j < len → ∃ x, I64 x ∧ ∃ b off, a = some ⟨b, off, none⟩ ∧ ∀ w : World, Below W.heap.size W w → w.cell? ⟨b, off + j, none⟩ = some (.int .i64 x)) := fun j hj => by
    obtain ⟨x, hx⟩ : ∃ x, l[j]? = some x := ⟨_, List.getElem?_eq_getElem (by omega)⟩
    obtain ⟨b, off, e, hc⟩ := hla j x hx
    exact ⟨x, hl64 x (List.mem_of_getElem? hx), b, off, e, fun w hw => (hw.cell (p := ⟨b, off + j, none⟩) (World.block_lt_of_cell? W _ hc)).trans hc⟩
  clear hN hK hT hla hl64 hr hl
  go_enter Tryd.func6, Tryd.ntmps6
  go_wp2_with fail
  refine HW1.out.mono ?_
  rintro e w1 ⟨rfl, rfl⟩
  go_wp2_with fail
  refine HN.out.mono ?_
  rintro e w1 ⟨b, g, c, rfl, ho, -, -, -⟩
  have HO := hid_of ho
  clear ho HN
  go_wp2_with fail
  go_loopw [9] (fun v wr => ∃ (j : Nat) (m : List Bool), j ≤ len ∧ v = .int .i64 (j : Int) ∧ Hid (m.length = N) ∧ Hid (MpO W wr b g c m)) (fun v _ => len - (intOf v).toNat)
  case atStart => exact ⟨0, _, Nat.zero_le _, rfl, List.length_replicate .., HO⟩
  case round =>
    obtain ⟨j, m, hj, rfl, hm, ho⟩ := hrel
    have hway : (decide ((j : Int) < (len : Int)) = true ∧ decide ((j : Int) < 60) = true ∧ j < len ∧ j < 60) ∨ (decide ((j : Int) < (len : Int)) = true ∧ decide ((j : Int) < 60) = false ∧ j < len) ∨ (decide ((j : Int) < (len : Int)) = false ∧ decide (j < len) = false) := by
      by_cases e1 : j < len
      · by_cases e2 : j < 60
        · exact .inl ⟨decide_eq_true (by omega), decide_eq_true (by omega), e1, e2⟩
        · exact .inr (.inl ⟨decide_eq_true (by omega), decide_eq_false (by omega), e1⟩)
      · exact .inr (.inr ⟨decide_eq_false (by omega), decide_eq_false e1⟩)
    have hout : ¬ (j < len ∧ j < 60) ∨ (j < len ∧ j < 60) := by omega
    rcases hway with ⟨hd1, hd2, hj1, hj2⟩ | hout2
    · obtain ⟨x, hx, bb, off, rfl, hcl⟩ := HLA.out j hj1
      have hc := hcl wr ho.out.bel
      obtain ⟨i, hiN, hWX⟩ := HWX.out wr x hx
      have HWX1 := hid_of hWX
      have HL2 : Hid ((setM m (i : Int) true).length = N) := by show _ = _; rw [length_setM]; exact hm.out
      clear hcl hWX hx hout
      go_wp2_with fail
      refine HWX1.out.mono ?_
      rintro e w2 ⟨rfl, rfl⟩
      go_wp2_with fail
      refine (mo_set ho.out (i : Int) ⟨by omega, by omega⟩ true _ rfl _ rfl).mono ?_
      rintro e w2 ⟨rfl, ho2⟩
      have HO2 := hid_of ho2
      clear ho2 ho
      go_wp2_with fail
      refine ⟨?_, by (simp [intOf]) <;> omega⟩
      first
        | exact ⟨j + 1, _, by omega, by go_num, HL2, HO2⟩
        | ((repeat apply Exists.intro); refine ⟨?_, rfl⟩; exact ⟨j + 1, _, by omega, by go_num, HL2, HO2⟩)
    · obtain ⟨R, hR⟩ := run_is m (K : Int) ⟨by omega, by omega⟩
      have HR := hid_of hR
      obtain ⟨A, hA, -⟩ := first_is m 0
      have HA := hid_of hA
      have HAR := hid_of (first_run hA)
      have hrb : -1 ≤ R ∧ R ≤ 200 := by
        rcases hR with ⟨k', l', e1, e2, e3, e4, -⟩ | ⟨e1, -⟩
        · have := e4.le e2; have := hm.out; omega
        · omega
      clear hR hA hout
      have hout3 : (decide ((j : Int) < (len : Int)) = true ∧ decide ((j : Int) < 60) = false ∧ j < len) ∨ (decide ((j : Int) < (len : Int)) = false ∧ decide (j < len) = false ∧ True) := by
        rcases hout2 with e | ⟨e1, e2⟩
        · exact .inl e
        · exact .inr ⟨e1, e2, trivial⟩
      clear hout2
      rcases hout3 with ⟨hd1, hd2, hj1⟩ | ⟨hd1, hd2, hj1⟩
      all_goals
        go_wp2_with fail
        refine (HWK.out _).mono ?_
        rintro e w2 ⟨rfl, rfl⟩
        go_wp2_with fail
        refine (mrun_is _ b g c m ho.out.is (K : Int) ⟨by omega, by omega⟩ R HR.out).mono ?_
        rintro e w2 ⟨rfl, rfl⟩
        go_wp2_with fail
        go_loopw [11, 12] (fun rv iv ws => ∃ (i r : Nat), i ≤ N ∧ iv = .int .i64 (i : Int) ∧ rv = .int .i64 (r : Int) ∧ r < K ∧ Hid (RunI m K i r) ∧ ws = wr) (fun _ iv _ => N - (intOf iv).toNat)
        case atStart => exact ⟨0, 0, Nat.zero_le _, rfl, rfl, hK1, RunI.zero m hK1, rfl⟩
        case round =>
          obtain ⟨i, r, hi, rfl, rfl, hrK, hri, rfl⟩ := hrel
          by_cases hiN : i < N
          · obtain ⟨y, hy⟩ : ∃ y, m[i]? = some y := ⟨_, List.getElem?_eq_getElem (by rw [hm.out]; exact hiN)⟩
            have HU := hid_of (mused_is _ b g c m ho.out.is (i : Int) ⟨by omega, by omega⟩ y (by rw [usedZ_nat]; unfold dgt; rw [hy]; rfl))
            cases y
            · by_cases hrk : r + 1 = K
              · have hRe := hri.out.done HR.out hy hrk
                have hrkb : (((r : Int) + 1) == (K : Int)) = true := beq_iff_eq.2 (by omega)
                have hRb : (R == (i : Int) - (K : Int) + 1) = true := beq_iff_eq.2 hRe
                clear hy hri hrk
                go_wp2_with fail
                refine HU.out.mono ?_
                rintro e w2 ⟨rfl, rfl⟩
                go_wp2_with fail
                refine (mfirst_is _ b g c m ho.out.is 0 ⟨by decide, by decide⟩ A HA.out).mono ?_
                rintro e w2 ⟨rfl, rfl⟩
                go_wp2_with fail
                refine (mrun_is _ b g c m ho.out.is 1 ⟨by decide, by decide⟩ A HAR.out).mono ?_
                rintro e w2 ⟨rfl, rfl⟩
                have hAA : (A == A) = true := by simp
                go_wp2_with fail
                refine (wakes11_any _ ho.out.is.tab).mono ?_
                rintro e w7 ⟨rfl, hb7⟩
                have HB7 : Hid (Below W.heap.size W w7) := ho.out.bel.trans (hb7.mono ho.out.bel.size)
                clear hb7
                go_wp2_with fail
                go_ret
                exact ⟨rfl, HB7.out⟩
              · have HRI := hid_of (hri.out.more hy (by omega : r + 1 < K))
                have hrkb : (((r : Int) + 1) == (K : Int)) = false := beq_eq_false_iff_ne.2 (by omega)
                clear hy hri
                go_wp2_with fail
                refine HU.out.mono ?_
                rintro e w2 ⟨rfl, rfl⟩
                go_wp2_with fail
                refine ⟨?_, by (simp [intOf]) <;> omega⟩
                first
                  | exact ⟨i + 1, r + 1, by omega, by go_num, by go_num, by omega, HRI, by first | rfl | trivial⟩
                  | ((repeat apply Exists.intro); exact ⟨i + 1, r + 1, by omega, by go_num, by go_num, by omega, HRI, by first | rfl | trivial⟩)
            · have HRI := hid_of (hri.out.hit hK1 hy)
              clear hy hri
              go_wp2_with fail
              refine HU.out.mono ?_
              rintro e w2 ⟨rfl, rfl⟩
              go_wp2_with fail
              refine ⟨?_, by (simp [intOf]) <;> omega⟩
              first
                | exact ⟨i + 1, 0, by omega, by go_num, by go_num, by omega, HRI, by first | rfl | trivial⟩
                | ((repeat apply Exists.intro); exact ⟨i + 1, 0, by omega, by go_num, rfl, by omega, HRI, by first | rfl | trivial⟩)
          · have hiE : i = m.length := by rw [hm.out]; omega
            have hRe : R = -1 := by
              have h1 := hri.out
              rw [hiE] at h1
              exact h1.end HR.out hK1
            have hib : decide ((i : Int) < (N : Int)) = false := decide_eq_false (by omega)
            have hib2 : decide (i < N) = false := decide_eq_false hiN
            clear hri hiE
            subst hRe
            go_wp2_with fail
            refine (mfirst_is _ b g c m ho.out.is 0 ⟨by decide, by decide⟩ A HA.out).mono ?_
            rintro e w2 ⟨rfl, rfl⟩
            go_wp2_with fail
            refine (mrun_is _ b g c m ho.out.is 1 ⟨by decide, by decide⟩ A HAR.out).mono ?_
            rintro e w2 ⟨rfl, rfl⟩
            have hAA : (A == A) = true := by simp
            go_wp2_with fail
            refine (wakes11_any _ ho.out.is.tab).mono ?_
            rintro e w7 ⟨rfl, hb7⟩
            have HB7 : Hid (Below W.heap.size W w7) := ho.out.bel.trans (hb7.mono ho.out.bel.size)
            clear hb7
            go_wp2_with fail
            go_ret
            exact ⟨rfl, HB7.out⟩

end Go.Proofs.YthbophecmpdpdaaDoor
