/- FixedBack: the walk of the law. -/
import Derived.Test.YtepnjglhchbknaaXMath
namespace Go.Proofs.Ytepnjglhchbknaa
set_option linter.unusedVariables false
set_option linter.unusedSimpArgs false
open Go.RowKit Dg

set_option maxRecDepth 100000 in
set_option maxHeartbeats 4000000 in
theorem xback_any (W : World) (a : Option Addr) (len cap : Nat) (z : List Int) (o : Int) (hr : IsRow .i64 W a len cap z) (ho : I64 o) :
    Calls Try.prog 8 #[.slice a len cap, .int .i64 o] W fun e W' => e = .returned (.bool true) ∧ Below W.heap.size W W' := by
  obtain ⟨l, hll, hI, hat, hle, hm, hnone, hblk⟩ := hr.ints
  obtain ⟨ho1, ho2⟩ := ho
  subst hll
  have HA : Hid (IntsAt W a l) := hat
  have HI : Hid (∀ x ∈ l, I64 x) := hI
  have HM : Hid (l.length ≤ maxLen) := Nat.le_trans hle hm
  obtain ⟨n, hn⟩ : ∃ n : Nat, (n : Int) = o % 5 := ⟨(o % 5).toNat, by omega⟩
  have hn5 : n < 5 := by omega
  have HNO : Hid (o % 5 = (n : Int)) := hn.symm
  clear hat hI hle hm hnone hblk hr hn
  go_enter Try.func8, Try.ntmps8
  go_wp2_with fail
  refine (samples_any W a cap 64 l false HA.out HM.out HI.out (by decide)).mono ?_
  rintro e w1 ⟨v1, xs, rfl, hv1, hxl, -, hxS, hb1⟩
  obtain ⟨a1, c1, rfl, hn1, -, -⟩ := hv1.ns
  have hx64 : xs.length ≤ 64 := by omega
  have HS : Hid (allS xs) := hxS rfl
  have HB1 : Hid (Below W.heap.size W w1) := hb1
  have HN1 : Hid (Ns w1 a1 c1 xs) := hn1
  have hs1 : W.heap.size ≤ w1.heap.size := hb1.size
  clear hv1 hxl hb1 hn1 hxS HA HI HM
  go_wp2_with fail
  refine (within_any o 5 w1 ho1 ho2 (by decide) (by decide)).mono ?_
  rw [HNO.out]
  rintro e w2 ⟨rfl, rfl⟩
  by_cases hshort : xs.length < n
  · have HR : Hid ((([], 1) : List Int × Int) = resOut xs (n : Int)) := by show _ = _; unfold resOut; rw [if_pos (by omega)]
    go_wp2_with fail
    refine (fresid_any w1 a1 c1 xs _ HN1.out (by omega) _ HR.out).mono ?_
    rintro e w3 hg
    obtain ⟨a3, c3, rfl, -, -, hb3⟩ := hg.ok
    have HB3 : Hid (Below W.heap.size W w3) := HB1.out.trans (hb3.mono hs1)
    have hs3 : W.heap.size ≤ w3.heap.size := HB3.out.size
    clear hg hb3
    go_wp2_with fail
    refine (wakes5_any _).mono ?_
    rintro e w6 ⟨rfl, hb6⟩
    have HB6 : Hid (Below W.heap.size W w6) := HB3.out.trans (hb6.mono hs3)
    clear hb6
    go_wp2
    go_ret
    exact ⟨rfl, HB6.out⟩
  · obtain ⟨L, hL⟩ : ∃ L, L = residZ xs n := ⟨_, rfl⟩
    have HR : Hid ((L, 0) = resOut xs (n : Int)) := by show _ = _; rw [hL]; exact resOut_ok xs n (by omega) (by omega) hx64 HS.out
    obtain ⟨ws, hws⟩ : ∃ ws, ws = xs.take n := ⟨_, rfl⟩
    have HWL : Hid (ws.length = n) := by show _ = _; rw [hws]; simp; omega
    have hws4 : ws.length ≤ 4 := by rw [HWL.out]; omega
    have HT : Hid ((xs, 0) = restOut ws L) := by show _ = _; rw [hL, hws]; exact restOut_resid xs n (by omega) (by omega) hx64 HS.out
    have HLL : Hid (L.length = xs.length - n) := by show _ = _; rw [hL]; simp
    have hL64 : L.length ≤ 64 := by have := HLL.out; omega
    have HLI : Hid (∀ x ∈ L, I64 x) := by rw [hL]; exact residZ_i64 xs n (by omega) HS.out
    have HL := hid_of hL
    have hsl := slice_ints a1 xs.length c1 n (by have := HN1.out.le; omega)
    have hslw : ∀ w : World, (Instr.sliceAt 23 (.slice a1 xs.length c1) none (some (.int .i64 (n : Int))) none).run Try.prog w = .ok (.slice a1 ws.length c1) w := by rw [HWL.out]; exact hsl
    have HWA : Hid (Ns w1 a1 c1 ws) := ⟨by rw [hws]; exact HN1.out.at_.take n, by have := HN1.out.le; rw [HWL.out]; omega, HN1.out.nil⟩
    clear hL hws hsl
    go_wp2_with fail
    refine (fresid_any w1 a1 c1 xs _ HN1.out (by omega) _ HR.out).mono ?_
    rintro e w3 hg
    obtain ⟨a3, c3, rfl, -, hn3, hb3⟩ := hg.ok
    have HB3 : Hid (Below W.heap.size W w3) := HB1.out.trans (hb3.mono hs1)
    have HN3 : Hid (Ns w3 a3 c3 L) := hn3
    have HX3 : Hid (Ns w3 a1 c1 xs) := HN1.out.mono hb3
    have HW3 : Hid (Ns w3 a1 c1 ws) := HWA.out.mono hb3
    have hs3 : W.heap.size ≤ w3.heap.size := HB3.out.size
    clear hg hb3 hn3 HN1 HWA HB1 HR
    go_wp2_with fail
    refine (frest_any w3 a1 a3 c1 c3 ws L HW3.out HN3.out.at_ (by omega) (by omega) HLI.out _ HT.out).mono ?_
    rintro e w4 hg
    obtain ⟨a4, c4, rfl, -, hn4, hb4⟩ := hg.ok
    have HB4 : Hid (Below W.heap.size W w4) := HB3.out.trans (hb4.mono hs3)
    have HN4 : Hid (IntsAt w4 a4 xs) := hn4.at_
    have HX4 : Hid (Ns w4 a1 c1 xs) := HX3.out.mono hb4
    have HL4 : Hid (Ns w4 a3 c3 L) := HN3.out.mono hb4
    have hs4 : W.heap.size ≤ w4.heap.size := HB4.out.size
    clear hg hb4 hn4 HN3 HX3 HW3 HB3 HT hslw
    go_wp2_with fail
    refine (sameInt_any w4 a4 a1 c4 c1 xs HN4.out HX4.out.at_ (by omega)).mono ?_
    rintro e w5 ⟨rfl, n5, rfl⟩
    have hlt : ((L.length : Int) != (xs.length : Int) - (n : Int)) = false := by have := HLL.out; simp; omega
    by_cases h4 : n = 4
    · subst h4
      go_wp2_with fail
      refine (wakes5_any _).mono ?_
      rintro e w6 ⟨rfl, hb6⟩
      have HB6 : Hid (Below W.heap.size W w6) := (below_drewN HB4.out n5).trans (hb6.mono hs4)
      clear hb6
      go_wp2
      go_ret
      exact ⟨rfl, HB6.out⟩
    by_cases hsm : xs.length ≤ n
    · have hb4 : ((n : Int) == 4) = false := by simp; omega
      go_wp2_with fail
      refine (wakes5_any _).mono ?_
      rintro e w6 ⟨rfl, hb6⟩
      have HB6 : Hid (Below W.heap.size W w6) := (below_drewN HB4.out n5).trans (hb6.mono hs4)
      clear hb6
      go_wp2
      go_ret
      exact ⟨rfl, HB6.out⟩
    · have hb4 : ((n : Int) == 4) = false := by simp; omega
      obtain ⟨M, hM⟩ : ∃ M, M = residZ xs (n + 1) := ⟨_, rfl⟩
      have HR : Hid ((M, 0) = resOut xs ((n : Int) + 1)) := by
        show _ = _; rw [hM]; exact resOut_ok xs (n + 1) (by omega) (by omega) hx64 HS.out
      have HML : Hid (M.length = xs.length - (n + 1)) := by show _ = _; rw [hM]; simp
      have hM64 : M.length ≤ 64 := by have := HML.out; omega
      have HMD : Hid (∀ (j : Nat) (x y z : Int), j < M.length → M[j]? = some x → L[j + 1]? = some y → L[j]? = some z → x = y - z) := by
        intro j x y z hj h1 h2 h3
        rw [hM] at h1 hj
        rw [HL.out] at h2 h3
        simp at hj
        exact residZ_diff xs n j (by omega) (by omega) x y z h1 h2 h3
      have HLB : Hid (∀ x ∈ L, -209715200 ≤ x ∧ x ≤ 209715200) := by rw [HL.out]; exact residZ_small xs n (by omega) HS.out
      have hmt : ((M.length : Int) != (L.length : Int) - 1) = false := by have := HLL.out; have := HML.out; simp; omega
      have hml : M.length + 1 ≤ L.length := by have := HLL.out; have := HML.out; omega
      clear hM
      go_wp2_with fail
      refine (fresid_any _ a1 c1 xs _ (HX4.out.drewN n5) (by omega) _ HR.out).mono ?_
      rintro e w6 hg
      obtain ⟨a6, c6, rfl, -, hn6, hb6⟩ := hg.ok
      have HB6 : Hid (Below W.heap.size W w6) := (below_drewN HB4.out n5).trans (hb6.mono hs4)
      have HM6 : Hid (IntsAt w6 a6 M) := hn6.at_
      have HL6 : Hid (IntsAt w6 a3 L) := (HL4.out.drewN n5).at_.mono hb6
      have hs6 : W.heap.size ≤ w6.heap.size := HB6.out.size
      clear hg hb6 hn6 HN4 HX4 HL4 HB4 HR
      go_wp2_with fail
      go_loopw [96] (fun i wr => ∃ k m : Nat, k ≤ M.length ∧ i = .int .i64 k ∧ wr = w6.drewN m) (fun i _ => M.length - (intOf i).toNat)
      case atStart => exact ⟨0, 0, Nat.zero_le _, rfl, rfl⟩
      case round =>
        obtain ⟨k, m, hk, rfl, rfl⟩ := hrel
        by_cases hkn : k < M.length
        · obtain ⟨x, hx⟩ : ∃ x, M[k]? = some x := ⟨M[k], by simp [hkn]⟩
          obtain ⟨y, hy⟩ : ∃ y, L[k + 1]? = some y := ⟨L[k + 1]'(by omega), by simp⟩
          obtain ⟨z, hz⟩ : ∃ z, L[k]? = some z := ⟨L[k]'(by omega), by simp⟩
          obtain ⟨b1, o1, rfl, e1⟩ := HM6.out k x hx
          obtain ⟨b2, o2, rfl, e2⟩ := HL6.out k z hz
          have e3 : w6.cell? ⟨b2, o2 + (k + 1), none⟩ = some (.int .i64 y) := by
            obtain ⟨b3, o3, e, e3⟩ := HL6.out (k + 1) y hy
            cases e
            exact e3
          have hxyz := HMD.out k x y z hkn hx hy hz
          subst hxyz
          have hy12 := HLB.out y (List.mem_of_getElem? hy)
          have hz12 := HLB.out z (List.mem_of_getElem? hz)
          obtain ⟨hy1, hy2⟩ := hy12
          obtain ⟨hz1, hz2⟩ := hz12
          clear hx hy hz
          go_wp2_with fail
          go_quiet (fail)
          go_wp2_with fail
          exact ⟨⟨k + 1, m + nq, by omega, by go_num, rfl⟩, by (simp [intOf]) <;> omega⟩
        · go_wp2_with fail
          refine (wakes5_any _).mono ?_
          rintro e w7 ⟨rfl, hb7⟩
          have HB7 : Hid (Below W.heap.size W w7) := (below_drewN HB6.out m).trans (hb7.mono hs6)
          clear hb7
          go_wp2
          go_ret
          exact ⟨rfl, HB7.out⟩

end Go.Proofs.Ytepnjglhchbknaa
