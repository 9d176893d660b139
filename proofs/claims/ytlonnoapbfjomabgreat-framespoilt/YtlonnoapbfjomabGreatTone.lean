/- Samples that go on: law08's Tone. -/
import Derived.Test.YtlonnoapbfjomabGreatFix4
import Derived.Deep.CutRange
namespace Go.Proofs.YtlonnoapbfjomabGreat
set_option linter.unusedVariables false
set_option linter.unusedSimpArgs false
open Go.RowKit Dg

theorem within_quiet8 (v n : Int) (w : World) (k : Nat) (hv1 : -9223372036854775808 ≤ v) (hv2 : v ≤ 9223372036854775807) (hn1 : 1 ≤ n) (hn2 : n ≤ 4611686018427387904) :
    Calls Tryz.prog 5 #[.int .i64 v, .int .i64 n] (w.drewN k) fun e w'' => e = .returned (.int .i64 (v % n)) ∧ ∃ m, w'' = w.drewN m :=
  (within_any v n (w.drewN k) hv1 hv2 hn1 hn2).mono fun e w'' ⟨h1, h2⟩ => ⟨h1, k, h2.symm⟩
theorem prod_in {b i B I : Int} (h1 : -B ≤ b) (h2 : b ≤ B) (h3 : 0 ≤ i) (h4 : i ≤ I) (hB : 0 ≤ B) : -(B * I) ≤ b * i ∧ b * i ≤ B * I := by
  have a1 : 0 ≤ (b + B) * i := Int.mul_nonneg (by omega) h3
  have a2 : 0 ≤ (B - b) * i := Int.mul_nonneg (by omega) h3
  have a3 : 0 ≤ B * (I - i) := Int.mul_nonneg hB (by omega)
  constructor <;> grind

set_option maxRecDepth 100000 in
set_option maxHeartbeats 8000000 in
theorem tone_any (w : World) (a : Option Addr) (cap : Nat) (l : List Int) (n kind noise : Int) (N : Nat) (h : IntsAt w a l) (hl : l.length ≤ maxLen) (hI : ∀ x ∈ l, I64 x) (hn : I64 n) (hk : I64 kind) (hno : I64 noise) (hN : n % 65 = (N : Int)) :
    Calls Tryz.prog 4 #[.slice a l.length cap, .int .i64 n, .int .i64 kind, .int .i64 noise] w fun e w' => ∃ v xs, e = .returned v ∧ OwnInts w' w.heap.size v xs ∧ xs.length = N ∧ (∀ x ∈ xs, -300000 ≤ x ∧ x ≤ 300000) ∧ Below w.heap.size w w' := by
  obtain ⟨i0, hi, hz0, hz1, hz2⟩ := info_parts Tryz.info3
  unfold maxLen at hl
  have H := hid_of h
  have HI := hid_of hI
  have HN := hid_of hN
  obtain ⟨hn1, hn2⟩ := hn
  obtain ⟨hk1, hk2⟩ := hk
  obtain ⟨ho1, ho2⟩ := hno
  have hN64 : N ≤ 64 := by omega
  obtain ⟨z, hz⟩ : ∃ z, noise % 4000 = z := ⟨_, rfl⟩
  have HZ := hid_of hz
  have hzb1 : 0 ≤ z := by omega
  have hzb2 : z < 4000 := by omega
  obtain ⟨q, hq⟩ : ∃ q, kind % 4 = q := ⟨_, rfl⟩
  have HQ := hid_of hq
  have hq4 : q = 0 ∨ q = 1 ∨ q = 2 ∨ q = 3 := by omega
  clear h hI hN hz hq
  go_enter Tryz.func4, Tryz.ntmps4
  go_wp2_with fail
  refine (within_any n 65 w hn1 hn2 (by decide) (by decide)).mono ?_
  rw [HN.out]
  rintro e w1 ⟨rfl, rfl⟩
  go_wp2_with fail
  refine (within_any noise 4000 w ho1 ho2 (by decide) (by decide)).mono ?_
  rw [HZ.out]
  rintro e w1 ⟨rfl, rfl⟩
  go_upto_if 21 with fail
  go_cut [9, 10, 11] from 22 to 36 (fun va vb vc wx => ∃ (A B C : Int) (d : Nat), va = .int .i64 A ∧ vb = .int .i64 B ∧ vc = .int .i64 C ∧ -50000 ≤ A ∧ A ≤ 50000 ∧ -1000 ≤ B ∧ B ≤ 1000 ∧ -20 ≤ C ∧ C ≤ 20 ∧ wx = w.drewN d)
  case first =>
    by_cases hlen : 2 < l.length
    · obtain ⟨x0, h0⟩ : ∃ x, l[0]? = some x := ⟨l[0]'(by omega), by simp⟩
      obtain ⟨x1, h1⟩ : ∃ x, l[1]? = some x := ⟨l[1]'(by omega), by simp⟩
      obtain ⟨x2, h2⟩ : ∃ x, l[2]? = some x := ⟨l[2]'(by omega), by simp⟩
      obtain ⟨b, off, rfl, hc0⟩ := H.out 0 x0 h0
      have hc1 : w.cell? ⟨b, off + 1, none⟩ = some (.int .i64 x1) := by
        obtain ⟨b2, o2, e2, hc2⟩ := H.out 1 x1 h1
        cases e2
        exact hc2
      have hc2 : w.cell? ⟨b, off + 2, none⟩ = some (.int .i64 x2) := by
        obtain ⟨b2, o2, e2, hc2⟩ := H.out 2 x2 h2
        cases e2
        exact hc2
      rw [Nat.add_zero] at hc0
      obtain ⟨g01, g02⟩ := HI.out x0 (List.mem_of_getElem? h0)
      obtain ⟨g11, g12⟩ := HI.out x1 (List.mem_of_getElem? h1)
      obtain ⟨g21, g22⟩ := HI.out x2 (List.mem_of_getElem? h2)
      clear h0 h1 h2
      go_wp2_with fail
      go_quiet ((go_at_call 5; refine within_quiet8 _ _ _ _ (by omega) (by omega) (by decide) (by decide)))
      go_wp2_with fail
      go_meet
      exact ⟨x0 % 100000 - 50000, x1 % 2000 - 1000, x2 % 40 - 20, _, rfl, rfl, rfl, by omega, by omega, by omega, by omega, by omega, by omega, rfl⟩
    · go_wp2_with fail
      go_meet
      exact ⟨0, 0, 0, 0, rfl, rfl, rfl, by decide, by decide, by decide, by decide, by decide, by decide, rfl⟩
  case rest =>
    obtain ⟨A, B, C, d, rfl, rfl, rfl, hA1, hA2, hB1, hB2, hC1, hC2, rfl⟩ := hcut
    go_wp2_with fail
    go_loopw [12, 13] (fun v i wr => ∃ (j : Nat) (xs : List Int), j ≤ N ∧ i = .int .i64 (j : Int) ∧ xs.length ≤ 1000000 ∧ Hid (xs.length = j) ∧ Hid (∀ x ∈ xs, -300000 ≤ x ∧ x ≤ 300000) ∧ Hid (OwnInts wr w.heap.size v xs) ∧ Hid (Below w.heap.size w wr)) (fun _ i _ => N - (intOf i).toNat)
    case atStart => exact ⟨0, [], Nat.zero_le _, rfl, by decide, rfl, fun x hx => by simp at hx, OwnInts.nil _ _, below_drewN (Below.refl _ _) d⟩
    case round =>
      obtain ⟨j, xs, hj, rfl, hxl, HXL, hxs, ho, hb⟩ := hrel
      have hsz : w.heap.size ≤ wr.heap.size := hb.out.size
      by_cases hjn : j < N
      · obtain ⟨p, hp⟩ : ∃ p, B * (j : Int) = p := ⟨_, rfl⟩
        have hpb := prod_in (b := B) (i := (j : Int)) (B := 1000) (I := 64) (by omega) (by omega) (by omega) (by omega) (by decide)
        rw [hp] at hpb
        obtain ⟨hp1, hp2⟩ := hpb
        obtain ⟨c1, hc1⟩ : ∃ c1, C * (j : Int) = c1 := ⟨_, rfl⟩
        have hc1b := prod_in (b := C) (i := (j : Int)) (B := 20) (I := 64) (by omega) (by omega) (by omega) (by omega) (by decide)
        rw [hc1] at hc1b
        obtain ⟨hc11, hc12⟩ := hc1b
        obtain ⟨c2, hc2⟩ : ∃ c2, c1 * (j : Int) = c2 := ⟨_, rfl⟩
        have hc2b := prod_in (b := c1) (i := (j : Int)) (B := 1280) (I := 64) (by omega) (by omega) (by omega) (by omega) (by decide)
        rw [hc2] at hc2b
        obtain ⟨hc21, hc22⟩ := hc2b
        obtain ⟨r, hr⟩ : ∃ r, B * ((j : Int) % 7) = r := ⟨_, rfl⟩
        have hrb := prod_in (b := B) (i := (j : Int) % 7) (B := 1000) (I := 6) (by omega) (by omega) (by omega) (by omega) (by decide)
        rw [hr] at hrb
        obtain ⟨hr1, hr2⟩ := hrb
        have HW1 : Hid (wrap64 (B * (j : Int)) = p) := by show _ = _; rw [hp]; exact Go.IntWalk.wrap64_in p (by omega)
        have HW2 : Hid (wrap64 (C * (j : Int)) = c1) := by show _ = _; rw [hc1]; exact Go.IntWalk.wrap64_in c1 (by omega)
        have HW3 : Hid (wrap64 (c1 * (j : Int)) = c2) := by show _ = _; rw [hc2]; exact Go.IntWalk.wrap64_in c2 (by omega)
        have HW4 : Hid (wrap64 (B * ((j : Int) % 7)) = r) := by show _ = _; rw [hr]; exact Go.IntWalk.wrap64_in r (by omega)
        have hend : ∀ (y : Int) (v' : Value) (w' : World), -300000 ≤ y ∧ y ≤ 300000 → Hid (OwnInts w' w.heap.size v' (xs ++ [y])) → Hid (Below w.heap.size wr w') →
            ∃ (j' : Nat) (xs' : List Int), j' ≤ N ∧ Value.int .i64 ((j : Int) + 1) = .int .i64 (j' : Int) ∧ xs'.length ≤ 1000000 ∧ Hid (xs'.length = j') ∧ Hid (∀ x ∈ xs', -300000 ≤ x ∧ x ≤ 300000) ∧ Hid (OwnInts w' w.heap.size v' xs') ∧ Hid (Below w.heap.size w w') := by
          intro y v' w' hy g1 g2
          refine ⟨j + 1, xs ++ [y], by omega, by go_num, by have := HXL.out; simp; omega, by show _ = _; simp [HXL.out], ?_, g1, hb.out.trans g2.out⟩
          intro x hx
          rcases List.mem_append.1 hx with h1 | h1
          · exact hxs.out x h1
          · simp at h1; subst h1; exact hy
        have HEND := hid_of hend
        clear hp hc1 hc2 hr hend
        have hways : (l.length ≤ j) ∨ (j < l.length ∧ z ≤ 0) ∨ (j < l.length ∧ 0 < z) := by omega
        rcases hways with hj1 | ⟨hj1, hj2⟩ | ⟨hj1, hj2⟩
        · rcases hq4 with rfl | rfl | rfl | rfl
          all_goals
            go_wp2_with first
              | (go_at_call_of 5 (Value.int IntKind.i64 kind); refine (within_any kind 4 _ hk1 hk2 (by decide) (by decide)).mono ?_; rw [HQ.out]; rintro e w1 ⟨rfl, rfl⟩)
              | (at_builtin; go_must (refine wpList_append_int _ rfl (.tmp 89) (.tmp 91) 22 rfl w.heap.size i0 Tryz.underlying22 hi hz0 hz1 hz2 _ xs rfl ho.out _ rfl hxl hsz ?_))
            intro v' w' g1 g2
            go_wp2_with fail
            refine ⟨HEND.out _ v' w' ?_ g1 g2, by (simp [intOf]) <;> omega⟩
            first
              | omega
              | (rw [HW1.out, Go.IntWalk.wrap64_in (A + p) (by omega)]; omega)
              | (rw [HW1.out, HW2.out, HW3.out, Go.IntWalk.wrap64_in (p + c2) (by omega), Go.IntWalk.wrap64_in (A + (p + c2)) (by omega)]; omega)
              | (rw [HW4.out, Go.IntWalk.wrap64_in (A + r) (by omega)]; omega)
        · rcases hq4 with rfl | rfl | rfl | rfl
          all_goals
            go_wp2_with first
              | (go_at_call_of 5 (Value.int IntKind.i64 kind); refine (within_any kind 4 _ hk1 hk2 (by decide) (by decide)).mono ?_; rw [HQ.out]; rintro e w1 ⟨rfl, rfl⟩)
              | (at_builtin; go_must (refine wpList_append_int _ rfl (.tmp 89) (.tmp 91) 22 rfl w.heap.size i0 Tryz.underlying22 hi hz0 hz1 hz2 _ xs rfl ho.out _ rfl hxl hsz ?_))
            intro v' w' g1 g2
            go_wp2_with fail
            refine ⟨HEND.out _ v' w' ?_ g1 g2, by (simp [intOf]) <;> omega⟩
            first
              | omega
              | (rw [HW1.out, Go.IntWalk.wrap64_in (A + p) (by omega)]; omega)
              | (rw [HW1.out, HW2.out, HW3.out, Go.IntWalk.wrap64_in (p + c2) (by omega), Go.IntWalk.wrap64_in (A + (p + c2)) (by omega)]; omega)
              | (rw [HW4.out, Go.IntWalk.wrap64_in (A + r) (by omega)]; omega)
        · obtain ⟨x, hx⟩ : ∃ x, l[j]? = some x := ⟨l[j], by simp [hj1]⟩
          obtain ⟨b, off, rfl, hc⟩ := H.out.mono hb.out j x hx
          obtain ⟨hx1, hx2⟩ := HI.out x (List.mem_of_getElem? hx)
          obtain ⟨u, hu⟩ : ∃ u, x % z = u := ⟨_, rfl⟩
          have hu1 := Int.emod_nonneg x (show z ≠ 0 by omega)
          have hu2 := Int.emod_lt_of_pos x hj2
          rw [hu] at hu1 hu2
          have HU := hid_of hu
          clear hx hu
          rcases hq4 with rfl | rfl | rfl | rfl
          all_goals
            go_wp2_with first
              | (go_at_call_of 5 (Value.int IntKind.i64 kind); refine (within_any kind 4 _ hk1 hk2 (by decide) (by decide)).mono ?_; rw [HQ.out]; rintro e w1 ⟨rfl, rfl⟩)
              | (go_at_call_of 5 (Value.int IntKind.i64 x); refine (within_any x z _ hx1 hx2 (by omega) (by omega)).mono ?_; rw [HU.out]; rintro e w1 ⟨rfl, rfl⟩)
              | (at_builtin; go_must (refine wpList_append_int _ rfl (.tmp 89) (.tmp 91) 22 rfl w.heap.size i0 Tryz.underlying22 hi hz0 hz1 hz2 _ xs rfl ho.out _ rfl hxl hsz ?_))
            intro v' w' g1 g2
            go_wp2_with fail
            refine ⟨HEND.out _ v' w' ?_ g1 g2, by (simp [intOf]) <;> omega⟩
            first
              | omega
              | (rw [HW1.out, Go.IntWalk.wrap64_in (A + p) (by omega), Go.IntWalk.wrap64_in (A + p + u) (by omega)]; omega)
              | (rw [HW1.out, HW2.out, HW3.out, Go.IntWalk.wrap64_in (p + c2) (by omega), Go.IntWalk.wrap64_in (A + (p + c2)) (by omega), Go.IntWalk.wrap64_in (A + (p + c2) + u) (by omega)]; omega)
              | (rw [HW4.out, Go.IntWalk.wrap64_in (A + r) (by omega), Go.IntWalk.wrap64_in (A + r + u) (by omega)]; omega)
      · have e : j = N := by omega
        subst e
        go_wp2_with fail
        go_ret
        exact ⟨_, xs, rfl, ho.out, HXL.out, hxs.out, hb.out⟩

end Go.Proofs.YtlonnoapbfjomabGreat
