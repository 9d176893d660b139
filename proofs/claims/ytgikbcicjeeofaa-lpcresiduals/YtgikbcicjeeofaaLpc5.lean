/- The document's example of law06; its coefficients. -/
import Derived.Test.YtgikbcicjeeofaaLpc2
namespace Go.Proofs.Ytgikbcicjeeofaa
set_option linter.unusedVariables false
set_option linter.unusedSimpArgs false
open Go.RowKit Dg

set_option maxHeartbeats 1000000 in
theorem wakes6_any (w : World) : Calls Try.prog 16 #[] w fun e w' => e = .returned (.bool true) ∧ Below w.heap.size w w' := by
  have HR : Hid ((20 : Int) = lguess [10, 20] [4096]) := by show _ = _; decide
  have HN : Hid (Ns ((w.alloc (.cells #[.int .i64 10, .int .i64 20] 3)).alloc (.cells #[.int .i64 4096] 3)) (some ⟨w.heap.size, 0, none⟩) 2 [10, 20]) := (Ns.lit w [10, 20] 2 rfl (by decide) _ rfl).mono ((Below.refl _ _).alloc (Nat.le_refl _) _)
  have HG : Hid (Ns ((w.alloc (.cells #[.int .i64 10, .int .i64 20] 3)).alloc (.cells #[.int .i64 4096] 3)) (some ⟨w.heap.size + 1, 0, none⟩) 1 [4096]) := by
    have h := Ns.lit (w.alloc (.cells #[.int .i64 10, .int .i64 20] 3)) [4096] 1 rfl (by decide) _ rfl
    have e : (w.alloc (.cells #[.int .i64 10, .int .i64 20] 3)).heap.size = w.heap.size + 1 := by simp
    rw [e] at h
    exact h
  have HB : Hid (Below w.heap.size w ((w.alloc (.cells #[.int .i64 10, .int .i64 20] 3)).alloc (.cells #[.int .i64 4096] 3))) := ((Below.refl _ _).alloc (Nat.le_refl _) _).alloc (by simp) _
  go_enter Try.func16, Try.ntmps16
  go_wp2_with fail
  refine (lguess_any _ _ _ _ _ _ _ [10, 20] [4096] rfl rfl HN.out.at_ HG.out.at_ (by decide) (by decide) 20 HR.out).mono ?_
  rintro e w1 ⟨rfl, rfl⟩
  go_wp2_with fail
  go_ret
  exact ⟨rfl, HB.out⟩

set_option maxRecDepth 100000 in
set_option maxHeartbeats 4000000 in
theorem coefs6_any (w : World) (a : Option Addr) (cap : Nat) (l : List Int) (wild : Bool) (h : IntsAt w a l) (hl : l.length ≤ maxLen) (hI : ∀ x ∈ l, I64 x) :
    Calls Try.prog 12 #[.slice a l.length cap, .bool wild] w fun e w' => ∃ v zs, e = .returned v ∧ OwnInts w' w.heap.size v zs ∧ zs.length = min l.length 14 ∧ (∀ x ∈ zs, I64 x) ∧ (wild = false → allC zs) ∧ Below w.heap.size w w' := by
  obtain ⟨i0, hi, hz0, hz1, hz2⟩ := info_parts Try.info3
  unfold maxLen at hl
  have H : Hid (IntsAt w a l) := h
  have HI : Hid (∀ x ∈ l, I64 x) := hI
  obtain ⟨S, hSW⟩ : ∃ S : Prop, S ↔ wild = false := ⟨_, Iff.rfl⟩
  have HSW : Hid (wild = false → S) := hSW.2
  have hSN : wild = true → Hid (¬ S) := fun h hs => by have := hSW.1 hs; rw [h] at this; cases this
  have HSN := hid_of hSN
  clear h hI hSW hSN
  go_enter Try.func12, Try.ntmps12
  go_wp2
  go_loopw [5, 6] (fun v i wr => ∃ (k : Nat) (zs : List Int), k ≤ l.length ∧ k ≤ 14 ∧ i = .int .i64 (k : Int) ∧ zs.length ≤ 1000000 ∧ Hid (zs.length = k) ∧ Hid (∀ x ∈ zs, I64 x) ∧ Hid (S → allC zs) ∧ Hid (OwnInts wr w.heap.size v zs) ∧ Hid (Below w.heap.size w wr)) (fun _ i _ => l.length - (intOf i).toNat)
  case atStart => exact ⟨0, [], Nat.zero_le _, Nat.zero_le _, rfl, by decide, rfl, fun x hx => by simp at hx, fun _ x hx => by simp at hx, OwnInts.nil _ _, Below.refl _ _⟩
  case round =>
    obtain ⟨k, zs, hkl, hkn, rfl, hzl, HZL, HZI, HZS, ho, hb⟩ := hrel
    have hsz : w.heap.size ≤ wr.heap.size := hb.out.size
    by_cases hk1 : k < l.length
    · by_cases hk2 : k < 14
      · obtain ⟨x, hx⟩ : ∃ x, l[k]? = some x := ⟨l[k], by simp [hk1]⟩
        obtain ⟨b, off, rfl, hc⟩ := H.out.mono hb.out k x hx
        obtain ⟨hx1, hx2⟩ := HI.out x (List.mem_of_getElem? hx)
        have hend : ∀ (y : Int) (v' : Value) (w' : World), I64 y → (S → isC y) → Hid (OwnInts w' w.heap.size v' (zs ++ [y])) → Hid (Below w.heap.size wr w') →
            ∃ (k' : Nat) (zs' : List Int), k' ≤ l.length ∧ k' ≤ 14 ∧ Value.int .i64 ((k : Int) + 1) = .int .i64 (k' : Int) ∧ zs'.length ≤ 1000000 ∧ Hid (zs'.length = k') ∧ Hid (∀ x ∈ zs', I64 x) ∧ Hid (S → allC zs') ∧ Hid (OwnInts w' w.heap.size v' zs') ∧ Hid (Below w.heap.size w w') := by
          intro y v' w' hy1 hy2 h1 h2
          refine ⟨k + 1, zs ++ [y], by omega, by omega, by go_num, by have := HZL.out; simp; omega, by show _ = _; simp [HZL.out], ?_, ?_, h1, hb.out.trans h2.out⟩
          · intro z hz
            rcases List.mem_append.1 hz with h | h
            · exact HZI.out z h
            · simp at h; subst h; exact hy1
          · intro hw
            exact (HZS.out hw).snoc (hy2 hw)
        have HEND := hid_of hend
        clear hx hend
        have hq : wild = false ∨ (wild = true ∧ x.tmod 4 ≠ 3) ∨ (wild = true ∧ x.tmod 4 = 3 ∧ Hid (¬ S)) := by
          by_cases hw : wild = false
          · exact .inl hw
          · have hw' : wild = true := by simpa using hw
            by_cases h : x.tmod 4 = 3
            · exact .inr (.inr ⟨hw', h, HSN.out hw'⟩)
            · exact .inr (.inl ⟨hw', h⟩)
        rcases hq with rfl | ⟨rfl, h5⟩ | ⟨rfl, h5, HNS⟩
        · go_wp2_with first
            | (go_at_call 10; refine (within_any _ _ _ hx1 hx2 (by decide) (by decide)).mono ?_; rintro e w1 ⟨rfl, rfl⟩)
            | (at_builtin; go_must (refine wpList_append_int _ rfl (.tmp 33) (.tmp 40) 22 rfl w.heap.size i0 Try.underlying22 hi hz0 hz1 hz2 _ zs rfl ho.out _ rfl hzl hsz ?_))
          intro v' w' g1 g2
          go_wp2_with fail
          exact ⟨HEND.out _ v' w' (by unfold I64; omega) (fun _ => by unfold isC; omega) g1 g2, by (simp [intOf]) <;> omega⟩
        · have h5b : (x.tmod 4 == 3) = false := by simpa using h5
          go_wp2_with first
            | (go_at_call 10; refine (within_any _ _ _ hx1 hx2 (by decide) (by decide)).mono ?_; rintro e w1 ⟨rfl, rfl⟩)
            | (at_builtin; go_must (refine wpList_append_int _ rfl (.tmp 33) (.tmp 40) 22 rfl w.heap.size i0 Try.underlying22 hi hz0 hz1 hz2 _ zs rfl ho.out _ rfl hzl hsz ?_))
          intro v' w' g1 g2
          go_wp2_with fail
          exact ⟨HEND.out _ v' w' (by unfold I64; omega) (fun _ => by unfold isC; omega) g1 g2, by (simp [intOf]) <;> omega⟩
        · have h5b : (x.tmod 4 == 3) = true := by simpa using h5
          go_wp2_with (at_builtin; go_must (refine wpList_append_int _ rfl (.tmp 26) (.tmp 31) 22 rfl w.heap.size i0 Try.underlying22 hi hz0 hz1 hz2 _ zs rfl ho.out _ rfl hzl hsz ?_))
          intro v' w' g1 g2
          go_wp2_with fail
          exact ⟨HEND.out _ v' w' (by unfold I64; omega) (fun hs => absurd hs HNS.out) g1 g2, by (simp [intOf]) <;> omega⟩
      · have e : k = 14 := by omega
        have HL : Hid (zs.length = min l.length 14) := by show _ = _; rw [HZL.out]; omega
        subst e
        go_wp2_with fail
        go_ret
        exact ⟨_, zs, rfl, ho.out, HL.out, HZI.out, fun h => HZS.out (HSW.out h), hb.out⟩
    · have HL : Hid (zs.length = min l.length 14) := by show _ = _; rw [HZL.out]; omega
      go_wp2_with fail
      go_ret
      exact ⟨_, zs, rfl, ho.out, HL.out, HZI.out, fun h => HZS.out (HSW.out h), hb.out⟩

end Go.Proofs.Ytgikbcicjeeofaa
