/- LevinNone: the walk of the law. -/
import Derived.Test.YtkdbpjmofghanaaLev5
namespace Go.Proofs.Ytkdbpjmofghanaa
set_option linter.unusedVariables false
set_option linter.unusedSimpArgs false
open Go.RowKit Dg

theorem corr_zeros (n k m : Nat) : corr (List.replicate n 0) k m = 0 := by
  have h : ∀ i, (List.replicate n (0 : Int)).getD i 0 = 0 := fun i => by
    simp [List.getD, List.getElem?_replicate]
    split <;> rfl
  induction m with
  | zero => rfl
  | succ m ih =>
    simp only [corr]
    rw [ih, h, h]
    rfl
theorem coOut_zeros (n : Nat) (o : Int) (s : Nat) : ([], false) = coOut (List.replicate n 0) o s := by
  refine (coOut_bad (.inr (.inr (.inr (.inr (.inr ?_)))))).symm
  unfold autoZ
  rw [corr_zeros]
  simp
theorem shift_auto' (l : List Int) : ∃ s, allS l → l.length ≤ 64 → IsShift (autoZ l 0) s := by
  by_cases h : allS l ∧ l.length ≤ 64
  · have := autoZ_small h.1 h.2 0
    obtain ⟨s, -, hs⟩ := shift_exists (autoZ_zero l) (by omega)
    exact ⟨s, fun _ _ => hs⟩
  · exact ⟨0, fun h1 h2 => absurd ⟨h1, h2⟩ h⟩
set_option maxRecDepth 100000 in
set_option maxHeartbeats 4000000 in
theorem vnone_any (W : World) (n o : Int) (a : Option Addr) (len cap : Nat) (z : List Int) (hn : I64 n) (ho : I64 o) (hr : IsRow .i64 W a len cap z) :
    Calls Try.prog 4 #[.int .i64 n, .int .i64 o, .slice a len cap] W fun e W' => e = .returned (.bool true) ∧ Below W.heap.size W W' := by
  obtain ⟨i0, hi, hz0, hz1, hz2⟩ := info_parts Try.info3
  obtain ⟨l, hll, hI, hat, hle, hm, hnone, hblk⟩ := hr.ints
  subst hll
  obtain ⟨hn1, hn2⟩ := hn
  obtain ⟨ho1, ho2⟩ := ho
  have HA : Hid (IntsAt W a l) := hat
  have HI : Hid (∀ x ∈ l, I64 x) := hI
  have HM : Hid (l.length ≤ maxLen) := Nat.le_trans hle hm
  obtain ⟨M, hM⟩ : ∃ M : Nat, (M : Int) = n % 65 := ⟨(n % 65).toNat, by omega⟩
  obtain ⟨Z, hZ⟩ : ∃ Z : List Int, Z = List.replicate M 0 := ⟨_, rfl⟩
  have hZL : Z.length = M := by rw [hZ]; simp
  have HZ : Hid (Z = List.replicate Z.length 0) := by show _ = _; rw [hZL]; exact hZ
  have HL : Hid (n % 65 = (Z.length : Int)) := by show _ = _; omega
  have hZ64 : Z.length ≤ 64 := by omega
  obtain ⟨q, hq⟩ : ∃ q : Nat, 1 + o % 12 = (q : Int) := ⟨(1 + o % 12).toNat, by omega⟩
  have HQ : Hid (o % 12 = (q : Int) - 1) := by show _ = _; omega
  have hq1 : 1 ≤ q := by omega
  have hq12 : q ≤ 12 := by omega
  have hqq : 1 + ((q : Int) - 1) = (q : Int) := by omega
  obtain ⟨s1, hs1⟩ := shift_auto' Z
  have HS1 := hid_of hs1
  have HC1 : Hid (([], false) = coOut Z (q : Int) s1) := by show _ = _; rw [HZ.out]; exact coOut_zeros _ _ _
  obtain ⟨s3, hs3⟩ := shift_auto' [1, 2, 3]
  have HS3 := hid_of hs3
  have HC3 : Hid (([], false) = coOut [1, 2, 3] 0 s3) := (coOut_bad (.inl (by decide))).symm
  obtain ⟨Z2, hZ2⟩ : ∃ Z : List Int, Z = List.replicate 20 0 := ⟨_, rfl⟩
  have HZ2L : Hid (Z2.length = 20) := by show _ = _; rw [hZ2]; simp
  have HZ2 : Hid (Z2 = List.replicate Z2.length 0) := by show _ = _; rw [HZ2L.out]; exact hZ2
  obtain ⟨s4, hs4⟩ := shift_auto' Z2
  have HS4 := hid_of hs4
  have HC4 : Hid (([], false) = coOut Z2 13 s4) := (coOut_bad (.inr (.inl (by decide)))).symm
  clear hat hI hle hm hnone hblk hr hM hZ hZL hq hs1 hs3 hZ2 hs4
  go_enter Try.func4, Try.ntmps4
  go_wp2_with fail
  refine (within_any n 65 W hn1 hn2 (by decide) (by decide)).mono ?_
  rw [HL.out]
  rintro e w0 ⟨rfl, rfl⟩
  go_wp2_with fail
  refine (within_any o 12 W ho1 ho2 (by decide) (by decide)).mono ?_
  rw [HQ.out]
  rintro e w0 ⟨rfl, rfl⟩
  go_wp2_with (at_make; go_must (refine wpList_make_full _ rfl _ _ 22 rfl W.heap.size 3 i0 (.int .i64 0) 1 Try.underlying22 hi hz0 hz1 _ _ _ _ Z.length rfl rfl rfl rfl (by rw [hz2]; omega) (by unfold maxLen; omega) (Nat.le_refl _) ?_))
  intro w1 hown hgr
  have HB1 : Hid (Below W.heap.size W w1) := (Below.refl _ _).grown hgr (Nat.le_refl _) (fun k hk => by cases hk)
  have HN1 : Hid (IntsAt w1 (some ⟨W.heap.size, 0, none⟩) Z) := (OwnInts.made HZ.out hown).at
  have HA1 : Hid (IntsAt w1 a l) := HA.out.mono HB1.out
  have hs1 : W.heap.size ≤ w1.heap.size := HB1.out.size
  clear hown hgr
  go_wp2_with fail
  refine (vco_any w1 _ _ Z _ s1 HN1.out (by omega) HS1.out _ HC1.out).mono ?_
  rintro e w2 hg
  obtain ⟨a2, c2, rfl, -, -, hb2⟩ := hg.ok
  have HB2 : Hid (Below W.heap.size W w2) := HB1.out.trans (hb2.mono hs1)
  have HA2 : Hid (IntsAt w2 a l) := HA1.out.mono hb2
  have hs2 : W.heap.size ≤ w2.heap.size := HB2.out.size
  clear hg hb2 HB1 HN1 HA1 HS1 HC1
  go_wp2_with fail
  refine (samples_any w2 a cap q l false HA2.out HM.out HI.out (by omega)).mono ?_
  rintro e w3 ⟨v3, xs, rfl, hv3, hxl, -, -, hb3⟩
  obtain ⟨a3, c3, rfl, hn3', -, -⟩ := hv3.ns
  have hxq : xs.length ≤ q := by omega
  have HB3 : Hid (Below W.heap.size W w3) := HB2.out.trans (hb3.mono hs2)
  have HN3 : Hid (IntsAt w3 a3 xs) := hn3'.at_
  have hs3 : W.heap.size ≤ w3.heap.size := HB3.out.size
  obtain ⟨s2, hs2'⟩ := shift_auto' xs
  have HS2 := hid_of hs2'
  have HC2 : Hid (([], false) = coOut xs (q : Int) s2) := (coOut_bad (.inr (.inr (.inl (by omega))))).symm
  clear hv3 hxl hb3 hn3' HA HI HM HA2 HB2 hs2'
  go_wp2_with fail
  refine (vco_any w3 a3 c3 xs _ s2 HN3.out (by omega) HS2.out _ HC2.out).mono ?_
  rintro e w4 hg
  obtain ⟨a4, c4, rfl, -, -, hb4⟩ := hg.ok
  have HB4 : Hid (Below W.heap.size W w4) := HB3.out.trans (hb4.mono hs3)
  have hs4 : W.heap.size ≤ w4.heap.size := HB4.out.size
  clear hg hb4 HB3 HN3
  go_wp2_with fail
  have HL5 : Hid (Ns (w4.alloc (.cells #[.int .i64 1, .int .i64 2, .int .i64 3] 3)) (some ⟨w4.heap.size, 0, none⟩) 3 [1, 2, 3]) := Ns.lit w4 [1, 2, 3] 3 rfl (by decide) _ rfl
  have HB5 : Hid (Below W.heap.size W (w4.alloc (.cells #[.int .i64 1, .int .i64 2, .int .i64 3] 3))) := HB4.out.alloc hs4 _
  generalize w4.alloc (.cells #[.int .i64 1, .int .i64 2, .int .i64 3] 3) = w5 at *
  have hs5 : W.heap.size ≤ w5.heap.size := HB5.out.size
  refine (vco_any w5 _ 3 [1, 2, 3] 0 s3 HL5.out.at_ (by decide) HS3.out _ HC3.out).mono ?_
  rintro e w6 hg
  obtain ⟨a6, c6, rfl, -, -, hb6⟩ := hg.ok
  have HB6 : Hid (Below W.heap.size W w6) := HB5.out.trans (hb6.mono hs5)
  have hs6 : W.heap.size ≤ w6.heap.size := HB6.out.size
  clear hg hb6 HB5 HL5 HB4
  go_wp2_with (at_make; go_must (refine wpList_make_full _ rfl _ _ 22 rfl w6.heap.size 3 i0 (.int .i64 0) 1 Try.underlying22 hi hz0 hz1 _ _ _ _ 20 rfl rfl rfl rfl (by rw [hz2]; omega) (by unfold maxLen; omega) (Nat.le_refl _) ?_))
  intro w7 hown hgr
  have HB7 : Hid (Below W.heap.size W w7) := HB6.out.trans (((Below.refl _ _).grown hgr (Nat.le_refl _) (fun k hk => by cases hk)).mono hs6)
  have HN7 : Hid (IntsAt w7 (some ⟨w6.heap.size, 0, none⟩) Z2) := (OwnInts.made (base := w6.heap.size) (v := .slice (some ⟨w6.heap.size, 0, none⟩) 20 20) HZ2.out (by rw [HZ2L.out]; exact hown)).at
  have hs7 : W.heap.size ≤ w7.heap.size := HB7.out.size
  clear hown hgr
  go_wp2_with fail
  rw [← HZ2L.out]
  refine (vco_any w7 _ _ Z2 13 s4 HN7.out (by rw [HZ2L.out]; decide) HS4.out _ HC4.out).mono ?_
  rintro e w8 hg
  obtain ⟨a8, c8, rfl, -, -, hb8⟩ := hg.ok
  have HB8 : Hid (Below W.heap.size W w8) := HB7.out.trans (hb8.mono hs7)
  have hs8 : W.heap.size ≤ w8.heap.size := HB8.out.size
  clear hg hb8
  go_wp2_with fail
  refine (wakes7_any _).mono ?_
  rintro e w9 ⟨rfl, hb9⟩
  have HB9 : Hid (Below W.heap.size W w9) := HB8.out.trans (hb9.mono hs8)
  clear hb9
  go_wp2
  go_ret
  exact ⟨rfl, HB9.out⟩

end Go.Proofs.Ytkdbpjmofghanaa
