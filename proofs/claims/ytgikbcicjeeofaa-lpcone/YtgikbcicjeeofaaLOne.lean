/- LpcOne: the walk of the law. -/
import Derived.Test.YtgikbcicjeeofaaLpc5
namespace Go.Proofs.Ytgikbcicjeeofaa
set_option linter.unusedVariables false
set_option linter.unusedSimpArgs false
open Go.RowKit Dg

theorem lguess_one (v k : Int) (hv : isN v) (hk : isC k) : lguess [99, v] [k] = v * k / 4096 := by
  have e : lsum [99, v] [k] (terms [99, v] [k]) = v * k := by
    show (0 : Int) + term k v = v * k
    unfold term
    rw [if_pos ⟨hk, hv⟩, Int.mul_comm]
    omega
  unfold lguess
  rw [e]

set_option maxRecDepth 100000 in
set_option maxHeartbeats 4000000 in
theorem lone_any (W : World) (v0 k0 : Int) (h1 : I64 v0) (h2 : I64 k0) :
    Calls Try.prog 4 #[.int .i64 v0, .int .i64 k0] W fun e W' => e = .returned (.bool true) ∧ Below W.heap.size W W' := by
  obtain ⟨hv1, hv2⟩ := h1
  obtain ⟨hk1, hk2⟩ := h2
  obtain ⟨v, hv⟩ : ∃ v, v = v0 % 16777216 - 8388608 := ⟨_, rfl⟩
  obtain ⟨k, hk⟩ : ∃ k, k = k0 % 65536 - 32768 := ⟨_, rfl⟩
  have HV : Hid (v0 % 16777216 = v + 8388608) := by show _ = _; omega
  have HK : Hid (k0 % 65536 = k + 32768) := by show _ = _; omega
  have hva : -8388608 ≤ v := by omega
  have hvb : v ≤ 8388607 := by omega
  have hka : -32768 ≤ k := by omega
  have hkb : k ≤ 32767 := by omega
  clear hv hk
  obtain ⟨p, hp⟩ : ∃ p, p = v * k := ⟨_, rfl⟩
  obtain ⟨g, hg⟩ : ∃ g, g = p / 4096 := ⟨_, rfl⟩
  have hpb := mul_bound (c := k) (x := v) ⟨hka, hkb⟩ (by unfold isN; omega)
  rw [Int.mul_comm, ← hp] at hpb
  obtain ⟨hp1, hp2⟩ := hpb
  have HP : Hid (v * k = p) := hp.symm
  have HG : Hid (g = lguess [99, v] [k]) := by show _ = _; rw [lguess_one v k (by unfold isN; omega) ⟨hka, hkb⟩, hg, hp]
  have hg1 : 4096 * g ≤ p := by omega
  have hg2 : p < 4096 * (g + 1) := by omega
  have hvv : v + 8388608 - 8388608 = v := by omega
  have hkk : k + 32768 - 32768 = k := by omega
  clear hp hg
  go_enter Try.func4, Try.ntmps4
  go_wp2_with fail
  refine (within_any v0 16777216 W hv1 hv2 (by decide) (by decide)).mono ?_
  rw [HV.out]
  rintro e w0 ⟨rfl, rfl⟩
  go_wp2_with fail
  refine (within_any k0 65536 W hk1 hk2 (by decide) (by decide)).mono ?_
  rw [HK.out]
  rintro e w0 ⟨rfl, rfl⟩
  go_wp2_with fail
  have HN : Hid (Ns ((W.alloc (.cells #[.int .i64 99, .int .i64 v] 3)).alloc (.cells #[.int .i64 k] 3)) (some ⟨W.heap.size, 0, none⟩) 2 [99, v]) := (Ns.lit W [99, v] 2 rfl (by decide) _ rfl).mono ((Below.refl _ _).alloc (Nat.le_refl _) _)
  have HM : Hid (Ns ((W.alloc (.cells #[.int .i64 99, .int .i64 v] 3)).alloc (.cells #[.int .i64 k] 3)) (some ⟨W.heap.size + 1, 0, none⟩) 1 [k]) := by
    have h := Ns.lit (W.alloc (.cells #[.int .i64 99, .int .i64 v] 3)) [k] 1 rfl (by decide) _ rfl
    have e : (W.alloc (.cells #[.int .i64 99, .int .i64 v] 3)).heap.size = W.heap.size + 1 := by simp
    rw [e] at h
    exact h
  have HB : Hid (Below W.heap.size W ((W.alloc (.cells #[.int .i64 99, .int .i64 v] 3)).alloc (.cells #[.int .i64 k] 3))) := ((Below.refl _ _).alloc (Nat.le_refl _) _).alloc (by simp) _
  refine (lguess_any _ _ _ _ _ _ _ [99, v] [k] rfl rfl HN.out.at_ HM.out.at_ (by simp) (by simp) g HG.out).mono ?_
  rintro e w1 ⟨rfl, rfl⟩
  generalize (W.alloc (.cells #[.int .i64 99, .int .i64 v] 3)).alloc (.cells #[.int .i64 k] 3) = w2 at *
  have hwp : wrap64 (v * k) = p := by rw [HP.out]; exact Go.IntWalk.wrap64_in p (by omega)
  go_wp2_with fail
  refine (wakes6_any _).mono ?_
  rintro e w6 ⟨rfl, hb6⟩
  have HB6 : Hid (Below W.heap.size W w6) := HB.out.trans (hb6.mono HB.out.size)
  clear hb6
  go_wp2_with fail
  go_ret
  exact ⟨rfl, HB6.out⟩

end Go.Proofs.Ytgikbcicjeeofaa
