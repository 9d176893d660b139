/- LevinBounds: the walk of the law. -/
import Derived.Test.YtkdbpjmofghanaaLev5
namespace Go.Proofs.Ytkdbpjmofghanaa
set_option linter.unusedVariables false
set_option linter.unusedSimpArgs false
open Go.RowKit Dg

theorem half_shift {n : Int} {s : Nat} (hs : IsShift n s) (h : 0 < s) : 536870912 ≤ n / 2 ^ s := by
  have h1 := hs.2 (s - 1) (by omega)
  have e : (2 : Int) ^ s = 2 ^ (s - 1) * 2 := by
    have : s = (s - 1) + 1 := by omega
    rw [this, Int.pow_succ]
    simp
  have hp : (0 : Int) ≤ 2 ^ (s - 1) := Int.le_of_lt (Int.pow_pos (by decide))
  rw [e, ← Int.ediv_ediv_of_nonneg hp]
  omega
set_option maxRecDepth 100000 in
set_option maxHeartbeats 4000000 in
theorem vbounds_any (W : World) (a : Option Addr) (len cap : Nat) (z : List Int) (big : Int) (hr : IsRow .i64 W a len cap z) (hbig : I64 big) :
    Calls Try.prog 5 #[.slice a len cap, .int .i64 big] W fun e W' => e = .returned (.bool true) ∧ Below W.heap.size W W' := by
  obtain ⟨i0, hi, hz0, hz1, hz2⟩ := info_parts Try.info3
  obtain ⟨l, hll, hI, hat, hle, hm, hnone, hblk⟩ := hr.ints
  subst hll
  obtain ⟨hbb1, hbb2⟩ := hbig
  have HA : Hid (IntsAt W a l) := hat
  have HI : Hid (∀ x ∈ l, I64 x) := hI
  have hlm : l.length ≤ 9223372036854775807 := by have := Nat.le_trans hle hm; unfold maxLen at this; omega
  obtain ⟨B, hB⟩ : ∃ B, B = big % 288230376151711744 := ⟨_, rfl⟩
  have hB0 : 0 ≤ B := by omega
  have hB1 : B < 288230376151711744 := by omega
  have HBE : Hid (big % 288230376151711744 = B) := hB.symm
  obtain ⟨L, hL⟩ : ∃ L : List Int, L = B :: (l.take 12).map (fun x => x % (2 * B + 1) - B) := ⟨_, rfl⟩
  obtain ⟨N, hN⟩ : ∃ N, N = min l.length 12 := ⟨_, rfl⟩
  have HLL : Hid (L.length = N + 1) := by show _ = _; rw [hL, hN]; simp; omega
  have HL1 : Hid (L.take 1 = [B]) := by show _ = _; rw [hL]; rfl
  have HLG : Hid (∀ (k : Nat) (x : Int), k < 12 → l[k]? = some x → L.take (k + 1 + 1) = L.take (k + 1) ++ [x % (2 * B + 1) - B]) := by
    intro k x hk hx
    refine take_next L (k + 1) _ ?_
    rw [hL, List.getElem?_cons_succ, List.getElem?_map, List.getElem?_take, if_pos hk, hx]
    rfl
  have hLB : allB L := by
    intro y hy
    rw [hL] at hy
    rcases List.mem_cons.1 hy with rfl | hy
    · unfold isB; omega
    · obtain ⟨x, -, rfl⟩ := List.mem_map.1 hy
      have h1 := Int.emod_nonneg x (show (2 * B + 1) ≠ 0 by omega)
      have h2 := Int.emod_lt_of_pos x (show 0 < 2 * B + 1 by omega)
      unfold isB; omega
  have hL0 : L[0]? = some B := by rw [hL]; rfl
  have hRR : isR L := ⟨by rw [HLL.out]; omega, by rw [getD_of hL0]; exact hB0, hLB⟩
  obtain ⟨s, hs31, hs⟩ := shift_exists hB0 (show B ≤ 1152921504606846976 by omega)
  have HS : Hid (isR L → IsShift (L.getD 0 0) s) := by intro _; rw [getD_of hL0]; exact hs
  obtain ⟨S, hS⟩ : ∃ S, S = scaleL L s := ⟨_, rfl⟩
  have HR : Hid ((S, (s : Int)) = scOut L s) := by show _ = _; unfold scOut; rw [if_pos hRR, hS]
  have HSL : Hid (S.length = L.length) := by show _ = _; rw [hS]; simp
  have HSG : Hid (∀ (k : Nat) (x : Int), L[k]? = some x → S[k]? = some (x / 2 ^ s)) := by intro k x hx; rw [hS]; exact scaleL_get hx
  obtain ⟨y0, hy0⟩ : ∃ y, y = B / 2 ^ s := ⟨_, rfl⟩
  have HY0 : Hid (S[0]? = some y0) := by show _ = _; rw [hy0]; exact HSG.out 0 B hL0
  have hy30 : y0 < 1073741824 := by rw [hy0]; exact hs.1
  have hcase : (((s : Int) == 0) = true ∧ ¬ 0 < s ∧ S = L) ∨ (((s : Int) == 0) = false ∧ 0 < s ∧ 536870912 ≤ y0) := by
    by_cases h : 0 < s
    · exact .inr ⟨beq_eq_false_iff_ne.2 (by omega), h, by rw [hy0]; exact half_shift hs h⟩
    · have e : s = 0 := by omega
      refine .inl ⟨beq_iff_eq.2 (by omega), h, ?_⟩
      rw [hS, e]
      simp [scaleL]
  have HN : Hid (N = min l.length 12) := hN
  have HR2 : Hid ((([], 0) : List Int × Int) = scOut [-1] 0) := by show _ = _; decide
  have HS2 : Hid (isR [-1] → IsShift (([-1] : List Int).getD 0 0) 0) := fun h => absurd h (by decide)
  have hL13 : L.length ≤ 13 := by rw [HLL.out, hN]; omega
  have hLp : 0 < L.length := by rw [HLL.out]; omega
  clear hat hI hle hm hnone hblk hr hB hL hN hLB hL0 hRR hs hS hy0
  go_enter Try.func5, Try.ntmps5
  go_wp2_with fail
  refine (within_any big 288230376151711744 W hbb1 hbb2 (by decide) (by decide)).mono ?_
  rw [HBE.out]
  rintro e w0 ⟨rfl, rfl⟩
  clear hbb1 hbb2 HBE
  go_wp2_with fail
  go_loopw [5, 6] (fun v i wr => ∃ (k : Nat), k ≤ l.length ∧ k ≤ 12 ∧ i = .int .i64 (k : Int) ∧ Hid (OwnInts wr W.heap.size v (L.take (k + 1))) ∧ Hid (Below W.heap.size W wr)) (fun _ i _ => l.length - (intOf i).toNat)
  case atStart => exact ⟨0, Nat.zero_le _, Nat.zero_le _, rfl, by rw [Nat.zero_add, HL1.out]; exact OwnInts.lit W W.heap.size [B] 1 rfl (Nat.le_refl _) (by decide) _ rfl, (Below.refl _ _).alloc (Nat.le_refl _) _⟩
  case round =>
    obtain ⟨k, hkl, hk12, rfl, ho, hb⟩ := hrel
    have hsz : W.heap.size ≤ wr.heap.size := hb.out.size
    by_cases hkk : k < l.length ∧ k < 12
    · obtain ⟨hk1, hk2⟩ := hkk
      obtain ⟨x, hx⟩ : ∃ x, l[k]? = some x := ⟨l[k], by simp [hk1]⟩
      obtain ⟨b, off, rfl, hc⟩ := HA.out.mono hb.out k x hx
      obtain ⟨hx1, hx2⟩ := HI.out x (List.mem_of_getElem? hx)
      have HNX := hid_of (HLG.out k x hk2 hx)
      obtain ⟨y, hy⟩ : ∃ y, y = x % (2 * B + 1) := ⟨_, rfl⟩
      have hy1 := Int.emod_nonneg x (show (2 * B + 1) ≠ 0 by omega)
      have hy2 := Int.emod_lt_of_pos x (show 0 < 2 * B + 1 by omega)
      rw [← hy] at hy1 hy2 HNX
      have HY : Hid (x % (2 * B + 1) = y) := hy.symm
      have hol : (L.take (k + 1)).length ≤ 1000000 := by rw [List.length_take]; omega
      clear hx hy
      go_wp2_with first
        | (go_at_call 10; refine (within_any _ _ _ hx1 hx2 (by omega) (by omega)).mono ?_; rw [HY.out]; rintro e w1 ⟨rfl, rfl⟩)
        | (at_builtin; go_must (refine wpList_append_int wr rfl (.tmp 26) (.tmp 37) 22 rfl W.heap.size i0 Try.underlying22 hi hz0 hz1 hz2 u5 (L.take (k + 1)) (by rfl) ho.out (y - B) (by rfl) hol hsz ?_))
      intro v' w' g1 g2
      have HO' : Hid (OwnInts w' W.heap.size v' (L.take (k + 1 + 1))) := by rw [HNX.out]; exact g1
      have HB' : Hid (Below W.heap.size W w') := hb.out.trans g2.out
      clear g1 g2
      go_wp2_with fail
      exact ⟨⟨k + 1, by omega, by omega, by go_num, HO', HB'⟩, by (simp [intOf]) <;> omega⟩
    · have HO : Hid (OwnInts wr W.heap.size u5 L) := by
        have h1 := ho.out
        rw [List.take_of_length_le (by rw [HLL.out, HN.out]; omega)] at h1
        exact h1
      have hways : l.length ≤ k ∨ (k < l.length ∧ 12 ≤ k) := by omega
      obtain ⟨a1, c1, hu5, hn1', -, -⟩ := HO.out.ns
      have HN1 := hid_of hn1'
      have HB1 := hid_of hb.out
      clear ho hb hkk hkl hk12 hn1' HO
      subst hu5
      obtain ⟨x0, hx0⟩ : ∃ x, L[0]? = some x := ⟨L[0], by simp [hLp]⟩
      rcases hways with hw1 | ⟨hw1, hw2⟩
      all_goals
        go_wp2_with fail
        refine (vscaled_any wr a1 c1 L s HN1.out.at_ (by omega) HS.out _ HR.out).mono ?_
        rintro e w2 hg
        obtain ⟨a2, c2, he, -, hn2, hb2⟩ := hg.ok
        rw [HSL.out] at he
        subst he
        have HB2 : Hid (Below W.heap.size W w2) := HB1.out.trans (hb2.mono hsz)
        have HL2 : Hid (IntsAt w2 a1 L) := HN1.out.at_.mono hb2
        have HS2' : Hid (IntsAt w2 a2 S) := hn2.at_
        have hs2 : W.heap.size ≤ w2.heap.size := HB2.out.size
        obtain ⟨b2, o2, rfl, hc2⟩ := hn2.at_ 0 y0 HY0.out
        rw [Nat.add_zero] at hc2
        obtain ⟨b1, o1, rfl, -⟩ := HL2.out 0 x0 hx0
        clear hg hb2 hn2 HN1 HB1
        have HSE : Hid (((s : Int) == 0) = true → IntsAt w2 (some ⟨b2, o2, none⟩) L) := by
          intro h
          rcases hcase with ⟨-, -, hSL⟩ | ⟨h2, -, -⟩
          · rw [← hSL]; exact HS2'.out
          · rw [h] at h2; cases h2
        have hcase' : (((s : Int) == 0) = true ∧ ¬ 0 < s) ∨ (((s : Int) == 0) = false ∧ 0 < s ∧ 536870912 ≤ y0) := by
          rcases hcase with ⟨h1, h2, -⟩ | h
          · exact .inl ⟨h1, h2⟩
          · exact .inr h
        clear hcase
        rcases hcase' with ⟨hs0, hs1⟩ | ⟨hs0, hs1, hy29⟩
        all_goals
          go_wp2_with (go_at_call 14; refine (sameInt_any w2 _ _ c2 c1 L (HSE.out hs0) HL2.out (by omega)).mono ?_; rintro e w3 ⟨rfl, n5, rfl⟩)
          go_loopw [81] (fun i ws => ∃ k d : Nat, k ≤ L.length ∧ i = .int .i64 (k : Int) ∧ ws = w2.drewN d) (fun i _ => L.length - (intOf i).toNat)
          case atStart => first | exact ⟨0, n5, Nat.zero_le _, rfl, rfl⟩ | exact ⟨0, 0, Nat.zero_le _, rfl, rfl⟩
          case round =>
            obtain ⟨j, d, hj, rfl, rfl⟩ := hrel
            by_cases hjl : j < L.length
            · obtain ⟨x, hx⟩ : ∃ x, L[j]? = some x := ⟨L[j], by simp [hjl]⟩
              have hcL : w2.cell? ⟨b1, o1 + j, none⟩ = some (.int .i64 x) := by
                obtain ⟨b3, o3, e3, hc3⟩ := HL2.out j x hx
                cases e3
                exact hc3
              have hcS : w2.cell? ⟨b2, o2 + j, none⟩ = some (.int .i64 (x / 2 ^ s)) := by
                obtain ⟨b3, o3, e3, hc3⟩ := HS2'.out j _ (HSG.out j x hx)
                cases e3
                exact hc3
              clear hx
              go_wp2_with fail
              go_quiet (fail)
              go_wp2_with fail
              exact ⟨⟨j + 1, d + nq, by omega, by go_num, rfl⟩, by (simp [intOf]) <;> omega⟩
            · have e : j = L.length := by omega
              subst e
              go_wp2_with fail
              have HN9 : Hid (Ns ((w2.drewN d).alloc (.cells #[.int .i64 (-1)] 3)) (some ⟨w2.heap.size, 0, none⟩) 1 [-1]) := Ns.lit (w2.drewN d) [-1] 1 rfl (by decide) _ rfl
              have HB9 : Hid (Below W.heap.size W ((w2.drewN d).alloc (.cells #[.int .i64 (-1)] 3))) := (below_drewN HB2.out d).alloc hs2 _
              generalize (w2.drewN d).alloc (.cells #[.int .i64 (-1)] 3) = w9 at *
              have hs9 : W.heap.size ≤ w9.heap.size := HB9.out.size
              refine (vscaled_any w9 _ 1 [-1] 0 HN9.out.at_ (by decide) HS2.out _ HR2.out).mono ?_
              rintro e w10 hg
              obtain ⟨a10, c10, rfl, -, -, hb10⟩ := hg.ok
              have HB10 : Hid (Below W.heap.size W w10) := HB9.out.trans (hb10.mono hs9)
              have hs10 : W.heap.size ≤ w10.heap.size := HB10.out.size
              clear hg hb10
              go_wp2_with fail
              refine (wakes7_any _).mono ?_
              rintro e w11 ⟨rfl, hb11⟩
              have HB11 : Hid (Below W.heap.size W w11) := HB10.out.trans (hb11.mono hs10)
              clear hb11
              go_wp2
              go_ret
              exact ⟨rfl, HB11.out⟩

end Go.Proofs.Ytkdbpjmofghanaa
