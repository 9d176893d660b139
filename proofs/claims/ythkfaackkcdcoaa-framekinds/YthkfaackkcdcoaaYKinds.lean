/- FrameKinds: the walk of the law. -/
import Derived.Test.YthkfaackkcdcoaaPart13
namespace Go.Proofs.Ythkfaackkcdcoaa
set_option linter.unusedVariables false
set_option linter.unusedSimpArgs false
open Go.RowKit Dg

theorem asOut_len (kind : Int) (x : List Int) (s : Nat) : (asOut kind x s).1.length ≤ 10000 := by
  unfold asOut
  split
  · simp
  · rename_i D h
    have := frm_len h
    simp
    omega
set_option maxRecDepth 100000 in
set_option maxHeartbeats 4000000 in
theorem ykinds_any (W : World) (a : Option Addr) (len cap : Nat) (z : List Int) (kind : Int) (wild tone : Bool) (n : Int) (hr : IsRow .i64 W a len cap z) (hk : I64 kind) (hn : I64 n) :
    Calls Try.prog 7 #[.slice a len cap, .int .i64 kind, .bool wild, .bool tone, .int .i64 n] W fun e W' => e = .returned (.bool true) ∧ Below W.heap.size W W' := by
  obtain ⟨l, hll, hI, hat, hle, hm, hnone, hblk⟩ := hr.ints
  subst hll
  have HA : Hid (IntsAt W a l) := hat
  have HI : Hid (∀ x ∈ l, I64 x) := hI
  have HM : Hid (l.length ≤ maxLen) := Nat.le_trans hle hm
  obtain ⟨N, hN⟩ : ∃ N : Nat, n % 65 = (N : Int) := ⟨(n % 65).toNat, by omega⟩
  have HN := hid_of hN
  have hN64 : N ≤ 64 := by omega
  have HK := hid_of hk
  have HNI := hid_of hn
  clear hat hI hle hm hnone hblk hr hN hk hn
  have key : ∀ (w1 : World) (v1 : Value) (xs : List Int), OwnInts w1 W.heap.size v1 xs → xs.length ≤ 66 → Below W.heap.size W w1 →
      ∃ a1 c1, v1 = .slice a1 xs.length c1 ∧ Ns w1 a1 c1 xs := by
    intro w1 v1 xs h1 _ _
    obtain ⟨a1, c1, e1, h2, -, -⟩ := h1.ns
    exact ⟨a1, c1, e1, h2⟩
  have KEY := hid_of key
  clear key
  cases tone
  · go_enter Try.func7, Try.ntmps7
    go_wp2_with fail
    refine (samples_any W a cap 66 l wild HA.out HM.out HI.out (by decide)).mono ?_
    rintro e w1 ⟨v1, xs, rfl, hv1, hxl, -, -, hb1⟩
    have hx66 : xs.length ≤ 66 := by omega
    obtain ⟨a1, c1, rfl, hn1⟩ := KEY.out w1 v1 xs hv1 hx66 hb1
    have HB1 := hid_of hb1
    have HN1 := hid_of hn1
    have hs1 : W.heap.size ≤ w1.heap.size := hb1.size
    clear hv1 hxl hb1 hn1 HA HI HM
    obtain ⟨s, hs⟩ := shift_may xs
    have HS := hid_of hs
    obtain ⟨⟨L, ok⟩, hR⟩ : ∃ R, R = asOut kind xs s := ⟨_, rfl⟩
    have HR := hid_of hR
    have hLl : L.length ≤ 10000 := by
      have := asOut_len kind xs s
      rw [← hR] at this
      exact this
    clear hs hR
    go_wp2_with fail
    refine (fas_any w1 kind s a1 c1 xs HN1.out (by omega) HS.out _ HR.out).mono ?_
    rintro e w2 ⟨v2, rfl, h2, hb2⟩
    have HSL2 : Hid (SlAt w2 v2 L) := SlAt.of_owns h2
    have HB2 : Hid (Below W.heap.size W w2) := HB1.out.trans (hb2.mono hs1)
    have HN2 : Hid (Ns w2 a1 c1 xs) := HN1.out.mono hb2
    have hs2 : W.heap.size ≤ w2.heap.size := HB2.out.size
    clear h2 hb2 HN1 HB1
    go_wp2_with fail
    refine (ras_any w2 kind s a1 c1 xs HN2.out (by omega) HS.out _ HR.out).mono ?_
    rintro e w3 ⟨v3, rfl, h3, hb3⟩
    have HSL3 : Hid (SlAt w3 v2 L) := HSL2.out.below hb3
    have HSM3 : Hid (SlAt w3 v3 L) := SlAt.of_owns h3
    have HB3 : Hid (Below W.heap.size W w3) := HB2.out.trans (hb3.mono hs2)
    have hs3 : W.heap.size ≤ w3.heap.size := HB3.out.size
    clear h3 hb3 HN2 HB2 HSL2
    cases ok
    all_goals
      go_wp2_with fail
      refine (same_any w3 v2 v3 L HSL3.out HSM3.out (by omega)).mono ?_
      rintro e w4 ⟨rfl, n4, rfl⟩
      go_wp2_with fail
      refine (wakes8_any _).mono ?_
      rintro e w5 ⟨rfl, hb5⟩
      have HB5 : Hid (Below W.heap.size W w5) := (below_drewN HB3.out n4).trans (hb5.mono hs3)
      clear hb5
      go_wp2
      go_ret
      exact ⟨rfl, HB5.out⟩
  · go_enter Try.func7, Try.ntmps7
    go_wp2_with fail
    refine (tone_any W a cap l n kind _ N HA.out HM.out HI.out HNI.out HK.out (wrap64_mem _) HN.out).mono ?_
    rintro e w1 ⟨v1, xs, rfl, hv1, hxl, -, hb1⟩
    have hx66 : xs.length ≤ 66 := by omega
    obtain ⟨a1, c1, rfl, hn1⟩ := KEY.out w1 v1 xs hv1 hx66 hb1
    have HB1 := hid_of hb1
    have HN1 := hid_of hn1
    have hs1 : W.heap.size ≤ w1.heap.size := hb1.size
    clear hv1 hxl hb1 hn1 HA HI HM
    obtain ⟨s, hs⟩ := shift_may xs
    have HS := hid_of hs
    obtain ⟨⟨L, ok⟩, hR⟩ : ∃ R, R = asOut kind xs s := ⟨_, rfl⟩
    have HR := hid_of hR
    have hLl : L.length ≤ 10000 := by
      have := asOut_len kind xs s
      rw [← hR] at this
      exact this
    clear hs hR
    go_wp2_with fail
    refine (fas_any w1 kind s a1 c1 xs HN1.out (by omega) HS.out _ HR.out).mono ?_
    rintro e w2 ⟨v2, rfl, h2, hb2⟩
    have HSL2 : Hid (SlAt w2 v2 L) := SlAt.of_owns h2
    have HB2 : Hid (Below W.heap.size W w2) := HB1.out.trans (hb2.mono hs1)
    have HN2 : Hid (Ns w2 a1 c1 xs) := HN1.out.mono hb2
    have hs2 : W.heap.size ≤ w2.heap.size := HB2.out.size
    clear h2 hb2 HN1 HB1
    go_wp2_with fail
    refine (ras_any w2 kind s a1 c1 xs HN2.out (by omega) HS.out _ HR.out).mono ?_
    rintro e w3 ⟨v3, rfl, h3, hb3⟩
    have HSL3 : Hid (SlAt w3 v2 L) := HSL2.out.below hb3
    have HSM3 : Hid (SlAt w3 v3 L) := SlAt.of_owns h3
    have HB3 : Hid (Below W.heap.size W w3) := HB2.out.trans (hb3.mono hs2)
    have hs3 : W.heap.size ≤ w3.heap.size := HB3.out.size
    clear h3 hb3 HN2 HB2 HSL2
    cases ok
    all_goals
      go_wp2_with fail
      refine (same_any w3 v2 v3 L HSL3.out HSM3.out (by omega)).mono ?_
      rintro e w4 ⟨rfl, n4, rfl⟩
      go_wp2_with fail
      refine (wakes8_any _).mono ?_
      rintro e w5 ⟨rfl, hb5⟩
      have HB5 : Hid (Below W.heap.size W w5) := (below_drewN HB3.out n4).trans (hb5.mono hs3)
      clear hb5
      go_wp2
      go_ret
      exact ⟨rfl, HB5.out⟩

end Go.Proofs.Ythkfaackkcdcoaa
