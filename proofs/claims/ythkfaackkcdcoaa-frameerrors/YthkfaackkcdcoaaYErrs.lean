/- FrameErrors: the walk of the law. -/
import Derived.Test.YthkfaackkcdcoaaPart13
import Derived.Test.YthkfaackkcdcoaaPart06
namespace Go.Proofs.Ythkfaackkcdcoaa
set_option linter.unusedVariables false
set_option linter.unusedSimpArgs false
open Go.RowKit Dg

theorem dec_none : decOut 2 [] = ([], 2) := by decide +kernel
theorem dec_empty : decOut 2 [0, 0, 0, 0, 0] = ([], 2) := by decide +kernel
theorem dec_many : decOut 2 [0, 65, 0, 0, 0] = ([], 2) := by decide +kernel
theorem dec_kinds : ∀ k, k < 256 → 19 ≤ k → decOut 2 [k, 1, 0, 0, 0, 0, 0] = ([], 2) := by decide +kernel
theorem lit_bytes (w : World) (cs : Array Value) (n : Nat) (l : List Nat) (hcs : cs.toList = u8s l) (hl : l.length = n) (hn : n ≤ 1000000) : SlAt (w.alloc (.cells cs 5)) (.slice (some ⟨w.heap.size, 0, none⟩) n n) l :=
  SlAt.of_owns (own_new w w.heap.size cs n l hcs hl hn (Nat.le_refl _))

set_option maxRecDepth 100000 in
set_option maxHeartbeats 4000000 in
theorem yerrs_any (W : World) (n v c : Int) (hn : I64 n) (hv : I64 v) (hc : 0 ≤ c ∧ c < 256) :
    Calls Try.prog 6 #[.int .i64 n, .int .i64 v, .int .u8 c] W fun e W' => e = .returned (.bool true) ∧ Below W.heap.size W W' := by
  obtain ⟨i0, hi, hz0, hz1, hz2⟩ := info_parts Try.info3
  obtain ⟨hv1, hv2⟩ := hv
  obtain ⟨hn1, hn2⟩ := hn
  obtain ⟨hc1, hc2⟩ := hc
  obtain ⟨M, hM⟩ : ∃ M : Nat, (M : Int) = 65 + n % 9 := ⟨(65 + n % 9).toNat, by omega⟩
  obtain ⟨Z, hZ⟩ : ∃ Z : List Int, Z = (List.replicate M 0).set 3 8388608 := ⟨_, rfl⟩
  have hZL : Z.length = M := by rw [hZ]; simp
  have HZ : Hid ((List.replicate Z.length 0).set 3 8388608 = Z) := by show _ = _; rw [hZL]; exact hZ.symm
  have HL : Hid (65 + n % 9 = (Z.length : Int)) := by show _ = _; omega
  have hZ64 : 64 < Z.length := by omega
  have hZ70 : Z.length ≤ 80 := by omega
  obtain ⟨y, hy⟩ : ∃ y, y = 8388608 + v % 99 := ⟨_, rfl⟩
  have hy1 : 8388608 ≤ y := by omega
  have hy2 : y ≤ 8388706 := by omega
  have HV : Hid (v % 99 = y - 8388608) := by show _ = _; omega
  have hyy : 8388608 + (y - 8388608) = y := by omega
  obtain ⟨K, hK⟩ : ∃ K : Nat, (K : Int) = 19 + c % 200 := ⟨(19 + c % 200).toNat, by omega⟩
  have hK1 : 19 ≤ K := by omega
  have hK2 : K < 256 := by omega
  have hnS : ¬ allS [0, y] := fun h => by have := h y (by simp); unfold isS at this; omega
  have HR1 : Hid (([], 4) = encOut [] 0) := by show _ = _; unfold encOut; rw [if_pos (by simp)]
  have HR2 : Hid (([], 4) = encOut Z 0) := by show _ = _; unfold encOut; rw [if_pos (by omega)]
  have HR3 : Hid (([], 8) = encOut [0, y] 0) := by show _ = _; unfold encOut; rw [if_neg (by simp), if_neg hnS]
  have HR4 : Hid (([], false) = asOut 1 [0, y] 0) := by
    show _ = _
    unfold asOut frm
    rw [if_pos (.inl (fun h => hnS h.2.2))]
  have HR5 : Hid (∀ s, (([], false) : List Nat × Bool) = asOut 19 [1] s) := by
    intro s
    unfold asOut frm
    rw [if_pos (.inr (.inr (by decide)))]
  have HM1 : Hid (mayX [] → IsShift (autoZ [] 0) 0) := fun h => absurd h (by decide)
  have HM2 : Hid (mayX Z → IsShift (autoZ Z 0) 0) := fun h => by have := h.2.1; omega
  have HM3 : Hid (mayX [0, y] → IsShift (autoZ [0, y] 0) 0) := fun h => absurd h.2.2 hnS
  obtain ⟨s, hs⟩ := shift_may [1]
  have HM5 := hid_of hs
  have HD2 : Hid (([], 2) = decOut 2 [K, 1, 0, 0, 0, 0, 0]) := (dec_kinds K hK2 hK1).symm
  have HB2' : Hid (∀ x ∈ [K, 1, 0, 0, 0, 0, 0], x < 256) := fun x hx => by simp at hx; omega
  have hKK : 19 + c % 200 = (K : Int) := hK.symm
  clear hM hZ hZL hy hnS hs hK
  go_enter Try.func6, Try.ntmps6
  go_wp2_with fail
  refine (within_any n 9 W hn1 hn2 (by decide) (by decide)).mono ?_
  rintro e w0 ⟨rfl, rfl⟩
  go_wp2_with (at_make; go_must (refine wpList_make_full _ rfl _ _ 22 rfl W.heap.size 3 i0 (.int .i64 0) 1 Try.underlying22 hi hz0 hz1 _ _ _ _ Z.length rfl rfl HL.out HL.out (by rw [hz2]; omega) (by unfold maxLen; omega) (Nat.le_refl _) ?_))
  intro w1 hown hgr
  have HB1 : Hid (Below W.heap.size W w1) := (Below.refl _ _).grown hgr (Nat.le_refl _) (fun k hk => by cases hk)
  have ho1 : OwnInts w1 W.heap.size (.slice (some ⟨W.heap.size, 0, none⟩) Z.length Z.length) (List.replicate Z.length 0) := by
    show World.ownsRow _ _ _ _ _ _ _
    have e := madeI Z.length
    rw [Nat.mul_one] at e
    rw [← e, List.length_replicate]; exact hown
  obtain ⟨hrc, hrf⟩ := owni_cell ho1 (j := 3) (x := 0) (by rw [List.getElem?_replicate, if_pos (by omega)])
  have ho2 := ho1.set 3 8388608 (by omega)
  rw [HZ.out] at ho2
  have HLO : Hid (Ns (w1.setCell ⟨W.heap.size, 3, none⟩ (.int .i64 8388608)) (some ⟨W.heap.size, 0, none⟩) Z.length Z) := ⟨ho2.at, Nat.le_refl _, fun e => by cases e⟩
  have HB2 : Hid (Below W.heap.size W (w1.setCell ⟨W.heap.size, 3, none⟩ (.int .i64 8388608))) := HB1.out.setCell (Nat.le_refl _) _
  clear hown hgr ho1 ho2
  obtain ⟨g, hg⟩ : ∃ g, g = W.heap.size := ⟨_, rfl⟩
  rw [← hg] at hrc hrf ⊢
  rw [← hg] at HLO
  have HBW1 : Hid (Below W.heap.size W (w1.setCell ⟨g, 3, none⟩ (.int .i64 8388608))) := by rw [hg]; exact HB2.out
  clear hg HB2 HB1
  go_wp2_with fail
  generalize w1.setCell ⟨g, 3, none⟩ (.int .i64 8388608) = w2 at *
  have hs2 : W.heap.size ≤ w2.heap.size := HBW1.out.size
  refine (within_any v 99 w2 hv1 hv2 (by decide) (by decide)).mono ?_
  rw [HV.out]
  rintro e w0 ⟨rfl, rfl⟩
  clear hrc hrf
  go_wp2_with fail
  have HBD : Hid (Ns (w2.alloc (.cells #[.int .i64 0, .int .i64 y] 3)) (some ⟨w2.heap.size, 0, none⟩) 2 [0, y]) := Ns.lit w2 [0, y] 2 rfl (by decide) _ rfl
  have HB3 : Hid (Below W.heap.size W (w2.alloc (.cells #[.int .i64 0, .int .i64 y] 3))) := HBW1.out.alloc hs2 _
  have HLO3 : Hid (Ns (w2.alloc (.cells #[.int .i64 0, .int .i64 y] 3)) (some ⟨g, 0, none⟩) Z.length Z) := HLO.out.mono ((Below.refl _ _).alloc (Nat.le_refl _) _)
  generalize w2.alloc (.cells #[.int .i64 0, .int .i64 y] 3) = w3 at *
  obtain ⟨ba, hba⟩ : ∃ ba : Option Addr, ba = some ⟨w2.heap.size, 0, none⟩ := ⟨_, rfl⟩
  rw [← hba] at HBD ⊢
  obtain ⟨la, hla⟩ : ∃ la : Option Addr, la = some ⟨g, 0, none⟩ := ⟨_, rfl⟩
  rw [← hla] at HLO3 ⊢
  have hs3 : W.heap.size ≤ w3.heap.size := HB3.out.size
  clear hba hla HLO HBW1
  refine (fenc_any w3 0 none 0 [] ⟨IntsAt.nil _ _, Nat.le_refl _, fun _ => rfl⟩ (by simp) HM1.out _ HR1.out).mono ?_
  rintro e w4 ⟨v4, rfl, h4, hb4⟩
  have HB4 : Hid (Below w3.heap.size w3 w4) := hb4
  clear h4 hb4
  go_wp2_with fail
  refine (fenc_any w4 0 la Z.length Z (HLO3.out.mono HB4.out) (by omega) HM2.out _ HR2.out).mono ?_
  rintro e w5 ⟨v5, rfl, h5, hb5⟩
  have HB5 : Hid (Below w3.heap.size w3 w5) := HB4.out.trans (hb5.mono HB4.out.size)
  clear h5 hb5 HB4
  go_wp2_with fail
  refine (fenc_any w5 0 ba 2 [0, y] (HBD.out.mono HB5.out) (by simp) HM3.out _ HR3.out).mono ?_
  rintro e w6 ⟨v6, rfl, h6, hb6⟩
  have HB6 : Hid (Below w3.heap.size w3 w6) := HB5.out.trans (hb6.mono HB5.out.size)
  clear h6 hb6 HB5
  go_wp2_with fail
  refine (fas_any w6 1 0 ba 2 [0, y] (HBD.out.mono HB6.out) (by simp) HM3.out _ HR4.out).mono ?_
  rintro e w7 ⟨v7, rfl, h7, hb7⟩
  have HB7 : Hid (Below w3.heap.size w3 w7) := HB6.out.trans (hb7.mono HB6.out.size)
  have HBW7 : Hid (Below W.heap.size W w7) := HB3.out.trans (HB7.out.mono hs3)
  have hs7 : W.heap.size ≤ w7.heap.size := HBW7.out.size
  clear h7 hb7 HB6 HB7 HBD HLO3
  go_wp2_with fail
  have HON : Hid (Ns (w7.alloc (.cells #[.int .i64 1] 3)) (some ⟨w7.heap.size, 0, none⟩) 1 [1]) := Ns.lit w7 [1] 1 rfl (by decide) _ rfl
  have HBW8 : Hid (Below W.heap.size W (w7.alloc (.cells #[.int .i64 1] 3))) := HBW7.out.alloc hs7 _
  generalize w7.alloc (.cells #[.int .i64 1] 3) = w8 at *
  have hs8 : W.heap.size ≤ w8.heap.size := HBW8.out.size
  refine (fas_any w8 19 s _ 1 [1] HON.out (by simp) HM5.out _ (HR5.out s)).mono ?_
  rintro e w9 ⟨v9, rfl, h9, hb9⟩
  have HBW9 : Hid (Below W.heap.size W w9) := HBW8.out.trans (hb9.mono hs8)
  have hs9 : W.heap.size ≤ w9.heap.size := HBW9.out.size
  clear h9 hb9 HON HBW8 HBW7
  go_wp2_with fail
  refine (fdec_any w9 _ [] (SlAt.nil _) (by simp) (fun x hx => by simp at hx) _ dec_none.symm).mono ?_
  rintro e w10 hg
  obtain ⟨a10, c10, rfl, -, -, hb10⟩ := hg.ok
  have HBW10 : Hid (Below W.heap.size W w10) := HBW9.out.trans (hb10.mono hs9)
  have hs10 : W.heap.size ≤ w10.heap.size := HBW10.out.size
  clear hg hb10 HBW9
  go_wp2_with fail
  have HS11 : Hid (SlAt (w10.alloc (.cells #[.int .u8 (K : Int), .int .u8 1, .int .u8 0, .int .u8 0, .int .u8 0, .int .u8 0, .int .u8 0] 5)) (.slice (some ⟨w10.heap.size, 0, none⟩) 7 7) [K, 1, 0, 0, 0, 0, 0]) := lit_bytes w10 _ 7 _ rfl rfl (by decide)
  have HBW11 : Hid (Below W.heap.size W (w10.alloc (.cells #[.int .u8 (K : Int), .int .u8 1, .int .u8 0, .int .u8 0, .int .u8 0, .int .u8 0, .int .u8 0] 5))) := HBW10.out.alloc hs10 _
  generalize w10.alloc (.cells #[.int .u8 (K : Int), .int .u8 1, .int .u8 0, .int .u8 0, .int .u8 0, .int .u8 0, .int .u8 0] 5) = w11 at *
  have hs11 : W.heap.size ≤ w11.heap.size := HBW11.out.size
  refine (fdec_any w11 _ _ HS11.out (by simp) HB2'.out _ HD2.out).mono ?_
  rintro e w12 hg
  obtain ⟨a12, c12, rfl, -, -, hb12⟩ := hg.ok
  have HBW12 : Hid (Below W.heap.size W w12) := HBW11.out.trans (hb12.mono hs11)
  have hs12 : W.heap.size ≤ w12.heap.size := HBW12.out.size
  clear hg hb12 HBW11 HS11 HBW10
  go_wp2_with fail
  have HS13 : Hid (SlAt (w12.alloc (.cells #[.int .u8 0, .int .u8 0, .int .u8 0, .int .u8 0, .int .u8 0] 5)) (.slice (some ⟨w12.heap.size, 0, none⟩) 5 5) [0, 0, 0, 0, 0]) := lit_bytes w12 _ 5 _ rfl rfl (by decide)
  have HBW13 : Hid (Below W.heap.size W (w12.alloc (.cells #[.int .u8 0, .int .u8 0, .int .u8 0, .int .u8 0, .int .u8 0] 5))) := HBW12.out.alloc hs12 _
  generalize w12.alloc (.cells #[.int .u8 0, .int .u8 0, .int .u8 0, .int .u8 0, .int .u8 0] 5) = w13 at *
  have hs13 : W.heap.size ≤ w13.heap.size := HBW13.out.size
  refine (fdec_any w13 _ _ HS13.out (by simp) (fun x hx => by simp at hx; omega) _ dec_empty.symm).mono ?_
  rintro e w14 hg
  obtain ⟨a14, c14, rfl, -, -, hb14⟩ := hg.ok
  have HBW14 : Hid (Below W.heap.size W w14) := HBW13.out.trans (hb14.mono hs13)
  have hs14 : W.heap.size ≤ w14.heap.size := HBW14.out.size
  clear hg hb14 HBW13 HS13 HBW12
  go_wp2_with fail
  have HS15 : Hid (SlAt (w14.alloc (.cells #[.int .u8 0, .int .u8 65, .int .u8 0, .int .u8 0, .int .u8 0] 5)) (.slice (some ⟨w14.heap.size, 0, none⟩) 5 5) [0, 65, 0, 0, 0]) := lit_bytes w14 _ 5 _ rfl rfl (by decide)
  have HBW15 : Hid (Below W.heap.size W (w14.alloc (.cells #[.int .u8 0, .int .u8 65, .int .u8 0, .int .u8 0, .int .u8 0] 5))) := HBW14.out.alloc hs14 _
  generalize w14.alloc (.cells #[.int .u8 0, .int .u8 65, .int .u8 0, .int .u8 0, .int .u8 0] 5) = w15 at *
  have hs15 : W.heap.size ≤ w15.heap.size := HBW15.out.size
  refine (fdec_any w15 _ _ HS15.out (by simp) (fun x hx => by simp at hx; omega) _ dec_many.symm).mono ?_
  rintro e w16 hg
  obtain ⟨a16, c16, rfl, -, -, hb16⟩ := hg.ok
  have HBW16 : Hid (Below W.heap.size W w16) := HBW15.out.trans (hb16.mono hs15)
  have hs16 : W.heap.size ≤ w16.heap.size := HBW16.out.size
  clear hg hb16 HBW15 HS15 HBW14
  go_wp2_with fail
  refine (wakes8_any _).mono ?_
  rintro e w17 ⟨rfl, hb17⟩
  have HB17 : Hid (Below W.heap.size W w17) := HBW16.out.trans (hb17.mono hs16)
  clear hb17
  go_wp2
  go_ret
  exact ⟨rfl, HB17.out⟩

end Go.Proofs.Ythkfaackkcdcoaa
